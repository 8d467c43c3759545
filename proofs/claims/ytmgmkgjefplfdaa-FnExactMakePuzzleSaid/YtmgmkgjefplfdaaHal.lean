/- All lists that fit, by the model; how many hidden lists there are. -/
import Derived.Test.YtmgmkgjefplfdaaHlT
import Derived.Test.YtmgmkgjefplfdaaHlI
import Derived.Test.YtmgmkgjefplfdaaKc
import Derived.Test.YtmgmkgjefplfdaaBox
namespace Go.Proofs.Ytmgmkgjefplfdaa
open Go.ChangeShapes Go.WideShapes Go.ChangeAt Go.RowKit
set_option linter.unusedVariables false


theorem look_all (w0 : World) (o base F N : Nat) (ac : Option Addr) (cc NC : Nat) (cl : List Clu) (p1 : Clu → List (Int × Int) → Bool) (hF : 2 ≤ F ∧ F ≤ 4) (HNC : Hid (NC = cl.length)) (hNC : NC ≤ 1048576) (HC : Hid (CluesAt w0 ac cl)) (hN : N ≤ 3) (h0 : w0.heap.size ≤ o) (hob : o < base) (HF : Hid (FitOk w0 F N cl p1)) :
    ∀ k, LkOk w0 o base F N ac cc NC cl p1 k
  | 0 => look_zero w0 o base F N ac cc NC cl p1 HNC hNC HC hN h0 hob HF
  | k + 1 => look_succ w0 o base F N ac cc NC cl p1 hF hN h0 hob k (look_all w0 o base F N ac cc NC cl p1 hF HNC hNC HC hN h0 hob HF k)
set_option maxRecDepth 20000 in
theorem pzAll_any (w : World) (F N : Nat) (pa : Option Addr) (pn pc : Nat) (ac : Option Addr) (cc NC : Nat) (cl : List Clu) (p1 : Clu → List (Int × Int) → Bool) (hF : 2 ≤ F ∧ F ≤ 4) (hN : N ≤ 3) (HNC : Hid (NC = cl.length)) (hNC : NC ≤ 1048576) (HC : Hid (CluesAt w ac cl)) (HF : Hid (FitOk w F N cl p1)) :
    Calls Try.prog 72 #[.agg #[.int .i64 (F : Int), .int .i64 (N : Int), .slice pa pn pc], .slice ac NC cc] w fun e w' => ∃ v X, e = .returned v ∧ OwnCS w' w.heap.size v X (lk (fitsB p1 cl) (chs F) N []) ∧ Below w.heap.size w w' := by
  obtain ⟨W, hW, hbW, hsW, _, hrW⟩ := box2 w #[.int .i64 (F : Int), .int .i64 (N : Int), .slice pa pn pc] 35 #[.slice none 0 0] 50
  have hL := look_all w (w.heap.size + 1) (w.heap.size + 2) F N ac cc NC cl p1 hF HNC hNC HC hN (by omega) (by omega) HF N W (.slice none 0 0) [] [] (.slice none 0 0) [] 0 rfl (by omega) (fun x hx => by simp at hx) (by
      have : (6 : Nat) ^ N ≤ 6 ^ 3 := Nat.pow_le_pow_right (by omega) hN
      simp; omega) hbW hrW (by omega) (OwnCS.nil _ _) (World.ownsRow_nil _ _ _ _) (fun _ => rfl) (fun b hb => by cases hb)
  have HL := Lib.hid hL
  have HW := Lib.hid hW
  have hcell : W.cell? ⟨w.heap.size + 1, 0, none⟩ = some (.slice none 0 0) := cell_of_row _ _ _ _ _ _ hrW
  clear hL hW
  go_enter Try.func72, Try.ntmps72
  go_wp2_with fail
  rw [HW.out]
  refine HL.out.mono ?_
  rintro e w2 ⟨rfl, v2, X2, hr2, hO2, hF2⟩
  have hc2 : w2.cell? ⟨w.heap.size + 1, 0, none⟩ = some v2 := cell_of_row _ _ _ _ _ _ hr2
  rw [List.nil_append] at hO2
  have HO2 : Hid (OwnCS w2 w.heap.size v2 X2 (lk (fitsB p1 cl) (chs F) N [])) := hO2.weaken (by omega)
  have HB2 := Lib.hid (hbW.trans (hF2.below (B := w.heap.size) (by omega) (by omega) (fun b hb => by cases hb)))
  clear hO2 hF2 hr2
  go_wp2_with fail
  go_ret
  exact ⟨_, X2, rfl, HO2.out, HB2.out⟩
theorem lk_free (p1 : Clu → List (Int × Int) → Bool) (C : List (Int × Int)) (k : Nat) : lk (fitsB p1 []) C k [] = lv C k := by
  rw [lk_ext, lv_ext]
  exact List.filter_eq_self.2 (fun x _ => rfl)
/-- How many hidden lists there are. -/
def hlR (f n : Int) : Int := if szB f n then ((lv (chs f.toNat) n.toNat).length : Int) else 0
theorem specHL_any (w : World) (f n : Int) : Calls Try.prog 26 #[.int .i64 f, .int .i64 n] w fun e w' => e = .returned (.tuple #[.int .i64 (hlR f n), .bool (szB f n)]) ∧ Below w.heap.size w w' := by
  cases hz : szB f n
  · have HZ := Lib.hid hz
    rw [show hlR f n = 0 by simp [hlR, hz]]
    clear hz
    go_enter Try.func26, Try.ntmps26
    go_wp2_with fail
    refine (pzSize_any f n _).mono ?_
    rintro e w' ⟨rfl, rfl⟩
    rw [HZ.out]
    go_wp2_with fail
    go_ret2
    exact ⟨rfl, Below.refl _ _⟩
  · obtain ⟨hf, hn⟩ := sz_of hz
    obtain ⟨F, rfl⟩ := Int.eq_ofNat_of_zero_le (show 0 ≤ f by omega)
    obtain ⟨N, rfl⟩ := Int.eq_ofNat_of_zero_le (show 0 ≤ n by omega)
    have HZ := Lib.hid hz
    have HR : Hid (hlR (F : Int) (N : Int) = ((lv (chs F) N).length : Int)) := by show _ = _; simp [hlR, hz]
    rw [HR.out]
    obtain ⟨M, hM⟩ : ∃ M, (lv (chs F) N).length = M := ⟨_, rfl⟩
    rw [hM]
    have HM := Lib.hid hM
    clear hz hM
    have HA := Lib.hid (pzAll_any w F N none 0 0 none 0 0 [] (fun _ _ => true) (by omega) (by omega) rfl (by omega) (.inl rfl) (fun q _ _ _ _ hq => by simp at hq))
    go_enter Try.func26, Try.ntmps26
    go_wp2_with fail
    refine (pzSize_any _ _ _).mono ?_
    rintro e w' ⟨rfl, rfl⟩
    rw [HZ.out]
    go_wp2_with fail
    refine HA.out.mono ?_
    rintro e w2 ⟨v2, X2, rfl, hO, hb⟩
    rw [lk_free] at hO
    obtain ⟨a2, c2, hv, _⟩ := hO.reads
    rw [HM.out] at hv
    subst hv
    have HB := Lib.hid hb
    clear hO hb
    go_wp2_with fail
    go_ret2
    exact ⟨rfl, HB.out⟩
theorem implHL_any (w : World) (f n : Int) : Calls Try.prog 27 #[.int .i64 f, .int .i64 n] w fun e w' => e = .returned (.tuple #[.int .i64 (hlR f n), .bool (szB f n)]) ∧ Below w.heap.size w w' := by
  cases hz : szB f n
  · have HZ := Lib.hid hz
    rw [show hlR f n = 0 by simp [hlR, hz]]
    clear hz
    go_enter Try.func27, Try.ntmps27
    go_wp2_with fail
    refine (canHide_any f n _).mono ?_
    rintro e w' ⟨rfl, rfl⟩
    rw [HZ.out]
    go_wp2_with fail
    go_ret2
    exact ⟨rfl, Below.refl _ _⟩
  · obtain ⟨hf, hn⟩ := sz_of hz
    obtain ⟨F, rfl⟩ := Int.eq_ofNat_of_zero_le (show 0 ≤ f by omega)
    obtain ⟨N, rfl⟩ := Int.eq_ofNat_of_zero_le (show 0 ≤ n by omega)
    have HZ := Lib.hid hz
    have HR : Hid (hlR (F : Int) (N : Int) = ((lv (chs F) N).length : Int)) := by show _ = _; simp [hlR, hz]
    rw [HR.out]
    obtain ⟨M, hM⟩ : ∃ M, (lv (chs F) N).length = M := ⟨_, rfl⟩
    rw [hM]
    have HM := Lib.hid hM
    clear hz hM
    have HA := Lib.hid (hiddenLists_any F N w (by omega) (by omega))
    go_enter Try.func27, Try.ntmps27
    go_wp2_with fail
    refine (canHide_any _ _ _).mono ?_
    rintro e w' ⟨rfl, rfl⟩
    rw [HZ.out]
    go_wp2_with fail
    refine HA.out.mono ?_
    rintro e w2 ⟨v2, X2, rfl, hO, hb⟩
    obtain ⟨a2, c2, hv, _⟩ := hO.reads
    rw [HM.out] at hv
    subst hv
    have HB := Lib.hid hb
    clear hO hb
    go_wp2_with fail
    go_ret2
    exact ⟨rfl, HB.out⟩

end Go.Proofs.Ytmgmkgjefplfdaa
