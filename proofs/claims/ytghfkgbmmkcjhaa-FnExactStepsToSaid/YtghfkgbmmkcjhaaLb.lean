/- LateBy, both sides. -/
import Derived.Test.YtghfkgbmmkcjhaaLa
import Derived.Test.YtghfkgbmmkcjhaaLaS
import Derived.Test.YtghfkgbmmkcjhaaMf
namespace Go.Proofs.Ytghfkgbmmkcjhaa
open Go.ChangeShapes Go.WideShapes Go.ChangeAt Go.RowKit
set_option linter.unusedVariables false


theorem mxS_ge0 (F : Int → Int) (k : Nat) : 0 ≤ mxS F k := by
  induction k with
  | zero => exact Int.le_refl _
  | succ k ih => show 0 ≤ max (mxS F k) _; omega
theorem mxS_le (F : Int → Int) (c : Int) (h0 : 0 ≤ c) (k : Nat) (h : ∀ i : Nat, i < k → F i ≤ c) : mxS F k ≤ c := by
  induction k with
  | zero => exact h0
  | succ k ih =>
    show max (mxS F k) _ ≤ c
    have := ih fun i hi => h i (by omega)
    have := h k (by omega)
    omega
theorem la_in {d P : Int} {l : List Snd} (h : laB d P l = true) : (∃ D : Nat, d = D ∧ 1 ≤ D ∧ D ≤ 10) ∧ (∃ Q : Nat, P = Q ∧ 1 ≤ Q ∧ Q ≤ 40) ∧ l.length ≤ 40 ∧ ok1B P l = true ∧ arsB d P l = true ∧ 0 ≤ laR d P l ∧ laR d P l ≤ 70 ∧ laR d P l = mxS (fun x => av d l x) P.toNat := by
  have ha : arsB d P l = true := by
    simp only [laB, Bool.and_eq_true] at h
    exact h.1
  obtain ⟨hd, hQ, h40, hv, h2⟩ := ars_parts ha
  have hR : laR d P l = mxS (fun x => av d l x) P.toNat := by unfold laR; rw [h, if_pos rfl]
  refine ⟨⟨d.toNat, by omega, by omega, by omega⟩, hQ, h40, hv, ha, ?_, ?_, hR⟩
  · rw [hR]; exact mxS_ge0 _ _
  · rw [hR]
    exact mxS_le _ 70 (by omega) _ fun i _ => by
      rcases fill_av hd.1 hd.2 hv (i : Int) with ⟨_, e⟩ | ⟨_, _, e⟩
      · show av d l i ≤ 70; omega
      · exact e
noncomputable def lbR (d P : Int) (l : List Snd) : Int := if laB d P l then laR d P l - mfR d P else 0
set_option maxRecDepth 20000 in
theorem implLB_any (w : World) (d P : Int) (ao : Option Addr) (cap : Nat) (l : List Snd) (n : Nat) (Hn : Hid (n = l.length)) (hn : n ≤ 1048576) (hcap : n ≤ cap) (hc : SendsAt w ao l) :
    Calls Try.prog 41 #[.int .i64 d, .int .i64 P, .slice ao n cap] w fun e w' => e = .returned (.tuple #[.int .i64 (lbR d P l), .bool (laB d P l)]) ∧ Below w.heap.size w w' := by
  have HX := Lib.hid (implLA_any w d P ao cap l n Hn hn hcap hc)
  clear hc
  cases hA : laB d P l
  · have hR : lbR d P l = 0 := by unfold lbR; rw [hA]; rfl
    rw [hR]
    rw [hA] at HX
    clear hA hR
    go_enter Try.func41, Try.ntmps41
    go_wp2_with fail
    refine HX.out.mono ?_
    rintro e w1 ⟨rfl, hb1⟩
    go_wp2_with fail
    go_ret2
    exact ⟨rfl, hb1⟩
  · obtain ⟨⟨D, rfl, hD1, hD10⟩, ⟨Q, rfl, hQ1, hQ2⟩, _, _, _, g0, g1, _⟩ := la_in hA
    have hR : lbR (D : Int) Q l = laR (D : Int) Q l - (mf D Q : Int) := by
      unfold lbR mfR
      have hm : mfB (D : Int) (Q : Int) = true := by simp [mfB, deB, mnB]; omega
      rw [hA, hm, if_pos rfl, if_pos rfl, Int.toNat_natCast, Int.toNat_natCast]
    have hm : mfB (D : Int) (Q : Int) = true := by simp [mfB, deB, mnB]; omega
    have hmr : mfR (D : Int) (Q : Int) = (mf D Q : Int) := by unfold mfR; rw [hm, if_pos rfl, Int.toNat_natCast, Int.toNat_natCast]
    have hfar := mf_far (t := mf D Q) hD1 hD10 (by omega) (mf_spec D Q hD1).2
    have HM := Lib.hid (fun u => implMF_any u (D : Int) (Q : Int))
    rw [hm, hmr] at HM
    rw [hR]
    rw [hA] at HX
    obtain ⟨x, hx⟩ : ∃ x, laR (D : Int) Q l = x := ⟨_, rfl⟩
    obtain ⟨y, hy⟩ : ∃ y : Int, (mf D Q : Int) = y := ⟨_, rfl⟩
    have hy2 : 0 ≤ y ∧ y ≤ 1000010 := by omega
    rw [hx] at HX g0 g1 ⊢
    rw [hy] at HM ⊢
    have hwr : IntKind.i64.wrap (x - y) = x - y := IntWalk.i64_in _ (by omega)
    clear hA hR hm hmr hfar hx hy
    go_enter Try.func41, Try.ntmps41
    go_wp2_with fail
    refine HX.out.mono ?_
    rintro e w1 ⟨rfl, hb1⟩
    go_wp2_with fail
    refine (HM.out _).mono ?_
    rintro e w2 ⟨rfl, hb2⟩
    have Hb := Lib.hid (hb1.trans (hb2.mono hb1.size))
    clear hb1 hb2
    go_wp2_with fail
    go_ret2
    exact ⟨rfl, Hb.out⟩
set_option maxRecDepth 20000 in
theorem specLB_any (w : World) (d P : Int) (ao : Option Addr) (cap : Nat) (l : List Snd) (n : Nat) (Hn : Hid (n = l.length)) (hn : n ≤ 1048576) (hcap : n ≤ cap) (hc : SendsAt w ao l) :
    Calls Try.prog 40 #[.int .i64 d, .int .i64 P, .slice ao n cap] w fun e w' => e = .returned (.tuple #[.int .i64 (lbR d P l), .bool (laB d P l)]) ∧ Below w.heap.size w w' := by
  have HX := Lib.hid (deLast_any w d P ao cap l n Hn hn hcap hc)
  clear hc
  cases hA : laB d P l
  · have hR : lbR d P l = 0 := by unfold lbR; rw [hA]; rfl
    rw [hR]
    rw [hA] at HX
    clear hA hR
    go_enter Try.func40, Try.ntmps40
    go_wp2_with fail
    refine HX.out.mono ?_
    rintro e w1 ⟨rfl, hb1⟩
    go_wp2_with fail
    go_ret2
    exact ⟨rfl, hb1⟩
  · obtain ⟨⟨D, rfl, hD1, hD10⟩, ⟨Q, rfl, hQ1, hQ2⟩, _, _, _, g0, g1, _⟩ := la_in hA
    have hm : mfB (D : Int) (Q : Int) = true := by simp [mfB, deB, mnB]; omega
    have hR : lbR (D : Int) Q l = laR (D : Int) Q l - (mf D Q : Int) := by
      unfold lbR mfR
      rw [hA, hm, if_pos rfl, if_pos rfl, Int.toNat_natCast, Int.toNat_natCast]
    have hfar := mf_far (t := mf D Q) hD1 hD10 (by omega) (mf_spec D Q hD1).2
    have HM := Lib.hid (fun u => deMinutes_any u D Q hD1 hD10 hQ1 (by omega))
    rw [hR]
    rw [hA] at HX
    obtain ⟨x, hx⟩ : ∃ x, laR (D : Int) Q l = x := ⟨_, rfl⟩
    obtain ⟨y, hy⟩ : ∃ y : Int, (mf D Q : Int) = y := ⟨_, rfl⟩
    have hy2 : 0 ≤ y ∧ y ≤ 1000010 := by omega
    rw [hx] at HX g0 g1 ⊢
    rw [hy] at HM ⊢
    have hwr : IntKind.i64.wrap (x - y) = x - y := IntWalk.i64_in _ (by omega)
    clear hA hR hm hfar hx hy
    go_enter Try.func40, Try.ntmps40
    go_wp2_with fail
    refine HX.out.mono ?_
    rintro e w1 ⟨rfl, hb1⟩
    go_wp2_with fail
    refine (HM.out _).mono ?_
    rintro e w2 ⟨rfl, hb2⟩
    have Hb := Lib.hid (hb1.trans (hb2.mono hb1.size))
    clear hb1 hb2
    go_wp2_with fail
    go_ret2
    exact ⟨rfl, Hb.out⟩

end Go.Proofs.Ytghfkgbmmkcjhaa
