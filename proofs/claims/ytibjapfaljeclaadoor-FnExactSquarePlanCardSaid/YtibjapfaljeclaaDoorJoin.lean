/- Is a number among some: the model and the library; who can be reached. -/
import Derived.Test.YtibjapfaljeclaaDoorDis
namespace Go.Proofs.YtibjapfaljeclaaDoor
open Go.ChangeShapes Go.WideShapes Go.ChangeAt Go.RowKit
set_option linter.unusedVariables false


/-- Among the first k numbers is this one. -/
def seen (ns' : List Int) (k : Nat) (x : Int) : Bool := (List.range k).any fun i => na ns' i == x
theorem seen_yes {l : List Int} {n k : Nat} {x : Int} (hk : k < n) (h : (na l k == x) = true) : seen l n x = true := by
  unfold seen
  rw [List.any_eq_true]
  exact ⟨k, List.mem_range.2 hk, h⟩
theorem seen_no {l : List Int} {n : Nat} {x : Int} (h : ∀ j, j < n → (na l j == x) = false) : seen l n x = false := by
  unfold seen
  rw [List.any_eq_false]
  intro j hj
  simpa using h j (List.mem_range.1 hj)
/-- Each friend can be reached from the first one. -/
def joinB (F : Nat) (l : List (Int × Int)) : Bool := (List.range F).all fun v => dst l 0 v != 10
theorem seen_join {F : Nat} {l : List (Int × Int)} {d : Nat → Int} (h : ∀ v, v < F → d v = if dst l 0 v = 10 then -1 else ((dst l 0 v : Nat) : Int)) : seen (fvL F d) F (-1) = !joinB F l := by
  rw [Bool.eq_iff_iff]
  simp only [seen, joinB, List.any_eq_true, List.mem_range, beq_iff_eq, Bool.not_eq_true', List.all_eq_false, bne_iff_ne, ne_eq, Decidable.not_not]
  constructor
  · rintro ⟨v, hv, he⟩
    refine ⟨v, hv, ?_⟩
    rw [na_fvL hv, h v hv] at he
    by_cases h10 : dst l 0 v = 10
    · exact h10
    · rw [if_neg h10] at he; omega
  · rintro ⟨v, hv, h10⟩
    refine ⟨v, hv, ?_⟩
    rw [na_fvL hv, h v hv, if_pos h10]
theorem seen_far (F : Nat) (l : List (Int × Int)) : seen (fvL F (fun v => ((dst l 0 v : Nat) : Int))) F 10 = !joinB F l := by
  rw [Bool.eq_iff_iff]
  simp only [seen, joinB, List.any_eq_true, List.mem_range, beq_iff_eq, Bool.not_eq_true', List.all_eq_false, bne_iff_ne, ne_eq, Decidable.not_not]
  constructor
  · rintro ⟨v, hv, he⟩
    rw [na_fvL hv] at he
    exact ⟨v, hv, by omega⟩
  · rintro ⟨v, hv, h10⟩
    exact ⟨v, hv, by rw [na_fvL hv, h10]; rfl⟩

set_option maxRecDepth 20000 in
theorem l1Has_pos (b off cap : Nat) (l : List Int) (n : Nat) (x : Int) (w : World) (hn : n ≤ 1048576)
    (Hc : Hid (∀ i, i < n → w.cell? ⟨b, off + i, none⟩ = some (.int .i64 (na l i)))) :
    Calls Tryd.prog 32 #[.slice (some ⟨b, off, none⟩) n cap, .int .i64 x] w fun e w' => e = .returned (.bool (seen l n x)) ∧ w = w' := by
  go_enter Tryd.func32, Tryd.ntmps32
  go_wp2_with fail
  go_loop [9] (fun i => ∃ k : Nat, k ≤ n ∧ i = .int .i64 k ∧ Hid (∀ j, j < k → (na l j == x) = false)) (fun i => n - (intOf i).toNat)
  case atStart => exact ⟨0, Nat.zero_le _, rfl, fun j hj => absurd hj (by omega)⟩
  case round =>
    obtain ⟨k, hk, rfl, hno⟩ := hrel
    by_cases hlt : k < n
    · have h0 := Hc.out k hlt
      cases ht : (na l k == x)
      · have hno2 : Hid (∀ j, j < k + 1 → (na l j == x) = false) := by
          intro j hj
          by_cases hjk : j = k
          · subst hjk; exact ht
          · exact hno.out j (by omega)
        go_wp2_with fail
        go_round
        case rel => exact ⟨k + 1, by omega, by go_num, hno2⟩
        case measure => simp [intOf]; omega
      · have Hyes := Lib.hid (seen_yes (n := n) hlt ht)
        go_wp2_with fail
        go_ret
        exact ⟨ret_bool Hyes.out.symm, rfl⟩
    · obtain rfl : k = n := by omega
      have Hnn := Lib.hid (seen_no hno.out)
      go_wp2_with fail
      go_ret
      exact ⟨ret_bool Hnn.out.symm, rfl⟩

set_option maxRecDepth 20000 in
theorem indexI_pos (b off cap : Nat) (l : List Int) (n : Nat) (x : Int) (w : World) (hn : n ≤ 1048576)
    (Hc : Hid (∀ i, i < n → w.cell? ⟨b, off + i, none⟩ = some (.int .i64 (na l i)))) :
    Calls Tryd.prog 60 #[.slice (some ⟨b, off, none⟩) n cap, .int .i64 x] w fun e w' => ∃ r : Int, e = .returned (.int .i64 r) ∧ decide (r ≥ 0) = seen l n x ∧ w = w' := by
  go_enter Tryd.func60, Tryd.ntmps60
  go_wp2_with fail
  go_loop [8] (fun i => ∃ k : Nat, k ≤ n ∧ i = .int .i64 k ∧ Hid (∀ j, j < k → (na l j == x) = false)) (fun i => n - (intOf i).toNat)
  case atStart => exact ⟨0, Nat.zero_le _, rfl, fun j hj => absurd hj (by omega)⟩
  case round =>
    obtain ⟨k, hk, rfl, hno⟩ := hrel
    by_cases hlt : k < n
    · have h0 := Hc.out k hlt
      obtain ⟨y, hy⟩ : ∃ y, na l k = y := ⟨_, rfl⟩
      rw [hy] at h0
      have Hy := Lib.hid hy
      clear hy
      by_cases ht : x = y
      · have q1 : (x == y) = true := by simp [ht]
        have Hyes : Hid (decide ((k : Int) ≥ 0) = seen l n x) := Lib.hid (by rw [seen_yes (n := n) hlt (by rw [Hy.out, ht]; simp)]; simp)
        clear ht
        go_wp2_with fail
        go_ret
        exact ⟨_, rfl, Hyes.out, rfl⟩
      · have q1 : (x == y) = false := by simp; omega
        have hno2 : Hid (∀ j, j < k + 1 → (na l j == x) = false) := by
          intro j hj
          by_cases hjk : j = k
          · subst hjk; rw [Hy.out]; simp; omega
          · exact hno.out j (by omega)
        clear ht
        go_wp2_with fail
        go_round
        case rel => exact ⟨k + 1, by omega, by go_num, hno2⟩
        case measure => simp [intOf]; omega
    · obtain rfl : k = n := by omega
      have Hnn : Hid (decide ((-1 : Int) ≥ 0) = seen l k x) := Lib.hid (by rw [seen_no hno.out]; rfl)
      go_wp2_with fail
      go_ret
      exact ⟨_, rfl, Hnn.out, rfl⟩

theorem containsI_pos (b off cap : Nat) (l : List Int) (n : Nat) (x : Int) (w : World) (hn : n ≤ 1048576)
    (Hc : Hid (∀ i, i < n → w.cell? ⟨b, off + i, none⟩ = some (.int .i64 (na l i)))) :
    Calls Tryd.prog 52 #[.slice (some ⟨b, off, none⟩) n cap, .int .i64 x] w fun e w' => e = .returned (.bool (seen l n x)) ∧ w = w' := by
  go_enter Tryd.func52, Tryd.ntmps52
  go_wp2_with fail
  refine (indexI_pos b off cap l n x _ hn Hc).mono ?_
  rintro e w2 ⟨r, rfl, hr, rfl⟩
  have Hr := Lib.hid hr
  clear hr
  go_wp2_with fail
  go_ret
  exact ⟨ret_bool Hr.out, rfl⟩

end Go.Proofs.YtibjapfaljeclaaDoor
