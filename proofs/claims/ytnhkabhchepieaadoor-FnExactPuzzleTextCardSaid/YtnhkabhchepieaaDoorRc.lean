/- What a puzzle is: by the model and by the program. -/
import Derived.Test.YtnhkabhchepieaaDoorRb
namespace Go.Proofs.YtnhkabhchepieaaDoor
open Go.ChangeShapes Go.WideShapes Go.ChangeAt Go.RowKit
set_option linter.unusedVariables false


/-- What a puzzle is. -/
def goodB (f n : Int) (l : List Clu) : Bool := szB f n && (decide (l.length ≤ 6) && l.all (mB f n))
theorem all_upto (f n : Int) (l : List Clu) (k : Nat) (h : k < l.length) (hm : mB f n (k0 l k, k1 l k, k2 l k, k3 l k) = false) : l.all (mB f n) = false := by
  rw [List.all_eq_false]
  refine ⟨l[k], List.getElem_mem h, ?_⟩
  rw [k_get l k h, hm]; simp
theorem all_yes (f n : Int) (l : List Clu) (h : ∀ k, k < l.length → mB f n (k0 l k, k1 l k, k2 l k, k3 l k) = true) : l.all (mB f n) = true := by
  rw [List.all_eq_true]
  intro c hc
  obtain ⟨k, hk, e⟩ := List.getElem_of_mem hc
  rw [← e, k_get l k hk]
  exact h k hk
set_option maxRecDepth 20000 in
theorem pzGood_any (f n : Int) (ao : Option Addr) (cap : Nat) (l : List Clu) (N : Nat) (w : World) (HN : Hid (N = l.length)) (hN : N ≤ 1048576) (Hc : Hid (CluesAt w ao l)) :
    Calls Tryd.prog 47 #[.agg #[.int .i64 f, .int .i64 n, .slice ao N cap]] w fun e w' => e = .returned (.bool (goodB f n l)) ∧ Below w.heap.size w w' := by
  cases hz : szB f n
  · have HZ := Lib.hid hz
    rw [show goodB f n l = false by simp [goodB, hz]]
    clear hz
    go_enter Tryd.func47, Tryd.ntmps47
    go_wp2_with fail
    refine (pzSize_any f n _).mono ?_
    rintro e w' ⟨rfl, rfl⟩
    rw [HZ.out]
    go_wp2_with fail
    go_ret
    exact ⟨rfl, by go_grown⟩
  · have HZ := Lib.hid hz
    by_cases h6 : N ≤ 6
    · have hgt : decide ((N : Int) > 6) = false := by simp; omega
      have hgt' : decide ((6 : Int) < (N : Int)) = false := by simp; omega
      have hG : goodB f n l = l.all (mB f n) := by
        have : l.length ≤ 6 := by rw [← HN.out]; exact h6
        simp [goodB, hz, this]
      rw [hG]
      clear hz hG
      obtain ⟨W, hW⟩ : ∃ W, w.alloc (Obj.cells #[.int .i64 f, .int .i64 n, .slice ao N cap] 44) = W := ⟨_, rfl⟩
      have hbW : Below w.heap.size w W := by rw [← hW]; exact (Below.refl _ _).alloc (Nat.le_refl _) _
      have c0 : W.cell? ⟨w.heap.size, 0, none⟩ = some (.int .i64 f) := by rw [← hW]; simp
      have c1 : W.cell? ⟨w.heap.size, 1, none⟩ = some (.int .i64 n) := by rw [← hW]; simp
      have c2 : W.cell? ⟨w.heap.size, 2, none⟩ = some (.slice ao N cap) := by rw [← hW]; simp
      have HW := Lib.hid hW
      clear hW
      go_enter Tryd.func47, Tryd.ntmps47
      go_wp2_with fail
      rw [HW.out]
      refine (pzSize_any f n _).mono ?_
      rintro e w' ⟨rfl, rfl⟩
      rw [HZ.out]
      go_wp2_with fail
      go_loopw [20] (fun i wr => ∃ q : Nat, q ≤ N ∧ i = .int .i64 q ∧ Hid (∀ k, k < q → mB f n (k0 l k, k1 l k, k2 l k, k3 l k) = true) ∧ Below W.heap.size W wr) (fun i _ => N - (intOf i).toNat)
      case atStart => exact ⟨0, Nat.zero_le _, rfl, fun k hk => by omega, Below.refl _ _⟩
      case round =>
        obtain ⟨q, hq, rfl, Hall, hbel⟩ := hrel
        by_cases hlt : q < N
        · obtain ⟨b, off, rfl, hs⟩ : ∃ b off, ao = some ⟨b, off, none⟩ ∧ ∀ i, i < N → Sat4 w b off l i := by
            rcases Hc.out with h | ⟨b, off, h, hs⟩
            · subst h; have := HN.out; simp at this; omega
            · exact ⟨b, off, h, fun i hi => hs i (by rw [← HN.out]; exact hi)⟩
          obtain ⟨h0, h1, h2, h7⟩ := ((hs q hlt).kept hbW).kept hbel
          have d0 := cell_old hbel c0
          have d1 := cell_old hbel c1
          have hsz := hbel.size
          obtain ⟨wr2, hwr⟩ : ∃ x, x = wr := ⟨_, rfl⟩
          subst hwr
          have bd : Below wr2.heap.size wr2 (wr2.alloc (.cells #[.int .i64 (k0 l q), .int .i64 (k1 l q), .int .i64 (k2 l q), .int .i64 (k3 l q)] 83)) := (Below.refl _ _).alloc (Nat.le_refl _) _
          have d0 := cell_old bd d0
          have d1 := cell_old bd d1
          go_wp2_with fail
          refine (pzClue_any f n (k0 l q, k1 l q, k2 l q, k3 l q) _ HZ.out).mono ?_
          rintro e w3 ⟨rfl, hb3⟩
          have HB := Lib.hid (hbel.trans ((bd.trans (hb3.mono bd.size)).mono hsz))
          clear hb3 bd d0 d1 h0 h1 h2 h7 hs
          cases hm : mB f n (k0 l q, k1 l q, k2 l q, k3 l q)
          · have Hno := Lib.hid (all_upto f n l q (by rw [← HN.out]; exact hlt) hm)
            have HBw := Lib.hid (hbW.trans (HB.out.mono hbW.size))
            clear hm
            go_wp2_with fail
            go_ret
            exact ⟨by rw [Hno.out]; rfl, HBw.out⟩
          · have Hall2 : Hid (∀ k, k < q + 1 → mB f n (k0 l k, k1 l k, k2 l k, k3 l k) = true) := fun k hk => by
              rcases Nat.lt_or_ge k q with h | h
              · exact Hall.out k h
              · have e : k = q := by omega
                rw [e]; exact hm
            clear hm
            go_wp2_with fail
            go_roundw
            case rel => exact ⟨q + 1, by omega, by go_num, Hall2, HB.out⟩
            case measure => simp [intOf]; omega
        · obtain rfl : q = N := by omega
          have Hyes := Lib.hid (all_yes f n l (by rw [← HN.out]; exact Hall.out))
          have HBw := Lib.hid (hbW.trans (hbel.mono hbW.size))
          go_wp2_with fail
          go_ret
          exact ⟨by rw [Hyes.out]; rfl, HBw.out⟩
    · have hgt : decide ((N : Int) > 6) = true := by simp; omega
      have hgt' : decide ((6 : Int) < (N : Int)) = true := by simp; omega
      have hG : goodB f n l = false := by
        have : ¬ l.length ≤ 6 := by rw [← HN.out]; exact h6
        simp [goodB, this]
      rw [hG]
      clear hz hG
      go_enter Tryd.func47, Tryd.ntmps47
      go_wp2_with fail
      refine (pzSize_any f n _).mono ?_
      rintro e w' ⟨rfl, rfl⟩
      rw [HZ.out]
      go_wp2_with fail
      go_ret
      exact ⟨rfl, by go_grown⟩
theorem implIsPuzzle_any (w : World) (f n : Int) (ao : Option Addr) (cap : Nat) (l : List Clu) (N : Nat) (HN : Hid (N = l.length)) (hN : N ≤ 1048576) (hc : N ≤ cap) (Hc : CluesAt w ao l) :
    Calls Tryd.prog 57 #[.agg #[.int .i64 f, .int .i64 n, .slice ao N cap]] w fun e w' => e = .returned (.bool (goodB f n l)) ∧ Below w.heap.size w w' := by
  have bd : Below w.heap.size w (w.alloc (Obj.cells #[.int .i64 f, .int .i64 n, .slice ao N cap] 44)) := (Below.refl _ _).alloc (Nat.le_refl _) _
  by_cases h6 : N ≤ 6
  · have hle : decide ((N : Int) ≤ 6) = true := by simp; omega
    have hG : goodB f n l = (szB f n && l.all (mB f n)) := by
      have : l.length ≤ 6 := by rw [← HN.out]; exact h6
      simp [goodB, this]
    rw [hG]
    go_enter Tryd.func57, Tryd.ntmps57
    go_wp2_with fail
    refine (areClues_any f n ao cap l N _ HN hN (Hc.kept bd)).mono ?_
    rintro e w2 ⟨rfl, hb2⟩
    have HB := Lib.hid (bd.trans (hb2.mono bd.size))
    clear hb2 bd
    go_wp2_with fail
    go_ret
    exact ⟨rfl, HB.out⟩
  · have hle : decide ((N : Int) ≤ 6) = false := by simp; omega
    have hG : goodB f n l = false := by
      have : ¬ l.length ≤ 6 := by rw [← HN.out]; exact h6
      simp [goodB, this]
    rw [hG]
    go_enter Tryd.func57, Tryd.ntmps57
    go_wp2_with fail
    go_ret
    exact ⟨rfl, by go_grown⟩
/-- What a clue of such lists is. -/
def clueB (f n : Int) (c : Clu) : Bool := szB f n && mB f n c
theorem one_clue {w : World} {b : Nat} {c : Clu} {t : TypeId} (h : w.heap[b]? = some (.cells #[.int .i64 c.1, .int .i64 c.2.1, .int .i64 c.2.2.1, .int .i64 c.2.2.2] t (0, 0))) : CluesAt w (some ⟨b, 0, none⟩) [c] := by
  refine .inr ⟨b, 0, rfl, fun i hi => ?_⟩
  obtain rfl : i = 0 := by simpa using hi
  exact ⟨cell_of_row _ _ _ _ _ _ h, cell_of_row _ _ _ _ _ _ h, cell_of_row _ _ _ _ _ _ h, cell_of_row _ _ _ _ _ _ h⟩

end Go.Proofs.YtnhkabhchepieaaDoor
