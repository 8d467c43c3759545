/- All lists of so many wires: the program's. -/
import Derived.Test.YtoigafjocckepaaLu
namespace Go.Proofs.Ytoigafjocckepaa
open Go.ChangeShapes Go.WideShapes Go.ChangeAt Go.RowKit
set_option linter.unusedVariables false


theorem oneLonger_zero (w : World) (f : Nat) (ao : Option Addr) (cap : Nat) :
    Calls Try.prog 71 #[.int .i64 (f : Int), .slice ao 0 cap] w fun e w' => e = .returned (.slice none 0 0) ∧ w = w' := by
  go_enter Try.func71, Try.ntmps71
  go_wp2_with fail
  go_rounds 1
  go_ret
  exact ⟨rfl, rfl⟩

theorem olT_len {f : Nat} (hf : f ≤ 10) (j : Nat) : ∀ k, k ≤ (lm f j).length → (olT f (lm f j) k).length ≤ 11264 := by
  intro k hk
  have h1 : ∀ d, (olT f (lm f j) k).length ≤ (olT f (lm f j) (k + d)).length := by
    intro d
    induction d with
    | zero => exact Nat.le_refl _
    | succ d ih =>
      by_cases hd : k + d < (lm f j).length
      · rw [show k + (d + 1) = k + d + 1 by omega, olT_succ f _ _ hd, List.length_append]; omega
      · have e1 : olT f (lm f j) (k + (d + 1)) = olT f (lm f j) (k + d) := by
          unfold olT
          rw [List.take_of_length_le (by omega), List.take_of_length_le (by omega)]
        rw [e1]; exact ih
  have h2 := h1 ((lm f j).length - k)
  rw [show k + ((lm f j).length - k) = (lm f j).length by omega, olT_all] at h2
  have h3 := lm_len hf (j + 1)
  have h4 : (lm f j).flatMap (lgr f) = lm f (j + 1) := rfl
  rw [h4] at h2
  omega

theorem oneLonger_any (w : World) (ao : Option Addr) (cap : Nat) (f j : Nat) (hf : f ≤ 10) (n : Nat) (Hn : Hid (n = (lm f j).length)) (hc : WLAt w ao (lm f j)) :
    Calls Try.prog 71 #[.int .i64 (f : Int), .slice ao n cap] w fun e w' => ∃ v, e = .returned v ∧ w'.ownsRow w.heap.size 52 1 v (lm f (j + 1)).length (ws (lm f (j + 1))) ∧ Below w.heap.size w w' := by
  have hall : olT f (lm f j) n = lm f (j + 1) := by rw [Hn.out, olT_all]; rfl
  rcases hc with h | ⟨b, off, rfl, hc⟩
  · have h0 : n = 0 := by rw [Hn.out, h]; rfl
    subst h0
    refine (oneLonger_zero w f ao cap).mono ?_
    rintro e w' ⟨rfl, rfl⟩
    have h1 : lm f (j + 1) = [] := by show (lm f j).flatMap (lgr f) = []; rw [h]; rfl
    rw [h1]
    exact ⟨_, rfl, World.ownsRow_nil _ _ _ _, Below.refl _ _⟩
  · have h := oneLonger_pos w b off cap f hf (lm f j) n Hn (by rw [Hn.out]; exact lm_len hf j) (lm_lt hf j) (fun k hk => olT_len hf j k (by rw [← Hn.out]; exact hk)) (fun i hi => hc i (by rw [← Hn.out]; exact hi))
    rw [hall] at h
    exact h

set_option maxHeartbeats 800000 in
set_option maxRecDepth 20000 in
theorem listsUpTo_any (w : World) (f m : Nat) (hf : f ≤ 10) (hm : m ≤ 10) :
    Calls Try.prog 53 #[.int .i64 (f : Int), .int .i64 (m : Int)] w fun e w' => ∃ v, e = .returned v ∧ w'.ownsRow w.heap.size 52 1 v (la f m).length (ws (la f m)) ∧ Below w.heap.size w w' := by
  have hlit : (w.alloc (.cells #[.int .u16 0] 52)).ownsRow w.heap.size 52 1 (.slice (some ⟨w.heap.size, 0, none⟩) 1 1) 1 (ws [0]) :=
    World.ownsRow_lit (base := w.heap.size) (e := 52) (size := 1) w #[.int .u16 0] 1 (Nat.le_refl _) (by unfold maxLen; omega) rfl
  have H0 := Lib.hid hlit
  have Hb0 := Lib.hid ((Below.refl w.heap.size w).alloc (Nat.le_refl _) (.cells #[.int .u16 0] 52))
  clear hlit
  go_enter Try.func53, Try.ntmps53
  go_wp2_with fail
  go_loopw [5, 6, 11] (fun u v i wr => ∃ j : Nat, j ≤ m ∧ i = .int .i64 j ∧ wr.ownsRow w.heap.size 52 1 u (lm f j).length (ws (lm f j)) ∧ wr.ownsRow w.heap.size 52 1 v (la f j).length (ws (la f j)) ∧ Below w.heap.size w wr) (fun _ _ i _ => m - (intOf i).toNat)
  case atStart => exact ⟨0, Nat.zero_le _, rfl, H0.out, H0.out, Hb0.out⟩
  case round =>
    obtain ⟨j, hj, rfl, hou, hov, hbel⟩ := hrel
    by_cases hlt : j < m
    · have hji : (j : Int) < m := by omega
      obtain ⟨au, cu, rfl, hwu⟩ := wl_at hou rfl
      obtain ⟨av, cv, rfl, hwv⟩ := wl_at hov rfl
      have hnv := own_nil hov
      obtain ⟨nu, hnu⟩ : ∃ q, (lm f j).length = q := ⟨_, rfl⟩
      obtain ⟨nv, hnvv⟩ : ∃ q, (la f j).length = q := ⟨_, rfl⟩
      have Hwu := Lib.hid hwu
      have Hov := Lib.hid hov
      have Hwv := Lib.hid hwv
      have Hnu : Hid (nu = (lm f j).length) := hnu.symm
      have Hnv : Hid (nv = (la f j).length) := hnvv.symm
      have Hnil := Lib.hid hnv
      have Hbel := Lib.hid hbel
      have hsz := hbel.size
      rw [hnu, hnvv]
      clear hou hov hbel hwu hwv hnu hnvv hnv
      go_wp2_with fail
      refine (oneLonger_any wr au cu f j hf nu Hnu Hwu.out).mono ?_
      rintro e w2 ⟨v2, rfl, own2, hb2⟩
      have hnil2 := fun (a : Option Addr) c (h : v2 = .slice a (lm f (j + 1)).length c) => own_nil (by rw [h] at own2; exact own2)
      obtain ⟨a2, c2, rfl, hw2⟩ := wl_at own2 rfl
      have hn2 := hnil2 a2 c2 rfl
      have hs2 := hb2.size
      have bd : Below w2.heap.size w2 (w2.alloc (.cells #[.slice av nv cv, .slice a2 (lm f (j + 1)).length c2] 47)) := (Below.refl w2.heap.size w2).alloc (Nat.le_refl _) _
      have Hw2 := Lib.hid (hw2.kept bd)
      have Hwv2 := Lib.hid ((Hwv.out.kept hb2).kept bd)
      have Hn2 := Lib.hid hn2
      have hal := heap_alloc_new w2 (.cells #[.slice av nv cv, .slice a2 (lm f (j + 1)).length c2] 47)
      have HA0 : Hid ((w2.alloc (.cells #[.slice av nv cv, .slice a2 (lm f (j + 1)).length c2] 47)).cell? ⟨w2.heap.size, 0, none⟩ = some (.slice av nv cv)) := by show _ = _; rw [cell_of_row _ _ _ _ _ _ hal]; rfl
      have HA1 : Hid ((w2.alloc (.cells #[.slice av nv cv, .slice a2 (lm f (j + 1)).length c2] 47)).cell? ⟨w2.heap.size, 1, none⟩ = some (.slice a2 (lm f (j + 1)).length c2)) := by show _ = _; rw [cell_of_row _ _ _ _ _ _ hal]; rfl
      have Hb3 := Lib.hid ((Hbel.out.trans (hb2.mono hsz)).trans (bd.mono (by omega)))
      have Ho3 := Lib.hid (own_base hsz (own_later own2 bd))
      obtain ⟨W3, hW3⟩ : ∃ q, (w2.alloc (.cells #[.slice av nv cv, .slice a2 (lm f (j + 1)).length c2] 47)) = q := ⟨_, rfl⟩
      rw [hW3] at Hw2 Hwv2 HA0 HA1 Hb3 Ho3
      have hlenu := lm_len hf (j + 1)
      have hlenv := la_len hf j (by omega)
      have hCC := concat_wl W3 w2.heap.size (fun k => if k = 0 then av else a2) (fun k => if k = 0 then cv else c2) (fun k => if k = 0 then la f j else if k = 1 then lm f (j + 1) else []) (by
        intro k
        match k with
        | 0 => simp [fl]; omega
        | 1 => simp [fl]; omega
        | 2 => simp [fl]; omega
        | k + 3 =>
          have : ∀ d, (fl (fun k => if k = 0 then la f j else if k = 1 then lm f (j + 1) else []) (d + 2)).length ≤ 30000 := by
            intro d
            induction d with
            | zero => simp [fl]; omega
            | succ d ih => show (fl _ (d + 2) ++ _).length ≤ _; rw [List.length_append]; simp; exact ih
          exact ⟨this (k + 1), by simp⟩) (by
        intro k hk
        match k, hk with
        | 0, _ => exact ⟨by show W3.cell? _ = some (.slice av (la f j).length cv); rw [← Hnv.out]; exact HA0.out, Hwv2.out, fun h => Hnil.out h⟩
        | 1, _ => exact ⟨HA1.out, Hw2.out, fun h => Hn2.out h⟩)
      have hfl : fl (fun k => if k = 0 then la f j else if k = 1 then lm f (j + 1) else []) 2 = la f (j + 1) := by simp [fl, la]
      rw [hfl] at hCC
      have HCC := Lib.hid hCC
      have hszW := Hb3.out.size
      clear hCC hfl own2 hb2 bd hw2 hn2 hnil2 hal hlenu hlenv
      go_wp2_with fail
      refine HCC.out.mono ?_
      rintro e w5 ⟨v5, rfl, own5, hb5⟩
      have Ho5 := Lib.hid (own_base hszW own5)
      have Hu5 := Lib.hid (own_later Ho3.out hb5)
      have Hb5 := Lib.hid (Hb3.out.trans (hb5.mono hszW))
      clear own5 hb5 hW3
      go_wp2_with fail
      go_roundw
      case rel => exact ⟨j + 1, by omega, by go_num, Hu5.out, Ho5.out, Hb5.out⟩
      case measure => simp [intOf]; omega
    · obtain rfl : j = m := by omega
      have Hov := Lib.hid hov
      clear hou hov
      go_wp2_with fail
      go_ret
      exact ⟨_, rfl, Hov.out, hbel⟩

end Go.Proofs.Ytoigafjocckepaa
