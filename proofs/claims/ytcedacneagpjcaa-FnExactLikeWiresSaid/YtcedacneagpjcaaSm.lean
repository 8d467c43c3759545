/- Two lists found the same; like wires: what they are. -/
import Derived.Test.YtcedacneagpjcaaTw
namespace Go.Proofs.Ytcedacneagpjcaa
open Go.ChangeShapes Go.WideShapes Go.ChangeAt Go.RowKit
set_option linter.unusedVariables false


theorem own_pos {w : World} {base n : Nat} {e : TypeId} {size : Nat} {v : Value} {xs : List Value} (h : w.ownsRow base e size v n xs) (h0 : 0 < n) : ∃ g cap, v = .slice (some ⟨g, 0, none⟩) n cap ∧ base ≤ g := by
  rcases h.2 with ⟨_, hh⟩ | ⟨g, cap, cur, rfl, hb, _⟩
  · omega
  · exact ⟨g, cap, rfl, hb⟩

theorem own_num {w : World} {base g n cap : Nat} {l : List Int} (h : w.ownsRow base 3 1 (.slice (some ⟨g, 0, none⟩) n cap) n (ns l)) (hn : n = l.length) (j : Nat) (hj : j < n) : w.cell? ⟨g, j, none⟩ = some (.int .i64 (na l j)) := by
  have h1 := h.cellAt j (by omega)
  rw [ns_get l j (by omega)] at h1
  exact h1


theorem same_eq {l m : List Int} {n : Nat} (hn : n = l.length) (hm : n = m.length) (h : ∀ j, j < n → na l j = na m j) : l = m := by
  apply List.ext_getElem (by omega)
  intro i h1 h2
  rw [na_get l i h1, na_get m i h2]
  exact h i (by omega)

set_option maxRecDepth 20000 in
theorem same_pos (b off b' off' ka kb : Nat) (l m : List Int) (n : Nat) (w : World) (Hn : Hid (n = l.length)) (Hm : Hid (n = m.length)) (hn : n ≤ 1048576)
    (Hc : Hid (∀ i, i < n → w.cell? ⟨b, off + i, none⟩ = some (.int .i64 (na l i)))) (Hd : Hid (∀ i, i < n → w.cell? ⟨b', off' + i, none⟩ = some (.int .i64 (na m i)))) :
    Calls Try.prog 44 #[.slice (some ⟨b, off, none⟩) n ka, .slice (some ⟨b', off', none⟩) n kb] w fun e w' => e = .returned (.bool (decide (l = m))) ∧ Below w.heap.size w w' := by
  have hnn : ((n : Int) != (n : Int)) = false := by simp
  go_enter Try.func44, Try.ntmps44
  go_wp2_with fail
  go_loopw [13] (fun i wr => ∃ k : Nat, k ≤ n ∧ i = .int .i64 k ∧ Hid (∀ j, j < k → na l j = na m j) ∧ Below w.heap.size w wr) (fun i _ => n - (intOf i).toNat)
  case atStart => exact ⟨0, Nat.zero_le _, rfl, fun j hj => absurd hj (by omega), Below.refl _ _⟩
  case round =>
    obtain ⟨k, hk, rfl, hall, hbel⟩ := hrel
    by_cases hlt : k < n
    · have h0 := cell_old hbel (Hc.out k hlt)
      have h2 := cell_old hbel (Hd.out k hlt)
      have hb0 : (0 : Int) ≤ k := by omega
      have hb1 : (k : Int) < n := by omega
      by_cases he : na l k = na m k
      · have hall2 : Hid (∀ j, j < k + 1 → na l j = na m j) := by
          intro j hj
          by_cases hjk : j = k
          · subst hjk; exact he
          · exact hall.out j (by omega)
        have hte : (na l k != na m k) = false := by simpa using he
        clear he
        go_wp2_with fail
        go_quiet (fail)
        go_wp2_with fail
        go_roundw
        case rel => exact ⟨k + 1, by omega, by go_num, hall2, below_drewN hbel _⟩
        case measure => simp [intOf]; omega
      · have hno : decide (l = m) = false := by
          rw [decide_eq_false_iff_not]
          intro e; exact he (by rw [e])
        have Hno := Lib.hid hno
        have hte : (na l k != na m k) = true := by simpa using he
        clear he hno
        go_wp2_with fail
        go_quiet (fail)
        go_wp2_with fail
        go_ret
        exact ⟨ret_bool Hno.out.symm, below_drewN hbel _⟩
    · obtain rfl : k = n := by omega
      have hyes : decide (l = m) = true := by simpa using same_eq Hn.out Hm.out hall.out
      have Hyes := Lib.hid hyes
      clear hyes
      go_wp2_with fail
      go_ret
      exact ⟨ret_bool Hyes.out.symm, hbel⟩

/-- Two wires have one label. -/
def sameL (l m : List Int) (i k : Nat) : Bool := decide (sz l i = sz l k ∧ sz m i = sz m k)

/-- The wires like this one among the first k, the wire itself first. -/
def lkTo (l m : List Int) (i k : Nat) : List Int := (i : Int) :: ((List.range k).filter fun j => decide (i < j) && sameL l m i j).map fun (j : Nat) => (j : Int)

/-- No wire before this one is like it, among the first k. -/
def fsTo (l m : List Int) (i k : Nat) : Bool := (List.range k).all fun j => !sameL l m i j || decide (i ≤ j)

theorem lkTo_succ (l m : List Int) (i k : Nat) : lkTo l m i (k + 1) = if i < k ∧ sameL l m i k = true then lkTo l m i k ++ [(k : Int)] else lkTo l m i k := by
  unfold lkTo
  rw [List.range_succ, List.filter_append, List.map_append]
  by_cases h : i < k ∧ sameL l m i k = true
  · rw [if_pos h]; simp [h.1, h.2]
  · rw [if_neg h]
    have : (decide (i < k) && sameL l m i k) = false := by
      cases hs : sameL l m i k
      · simp
      · simp only [Bool.and_true, decide_eq_false_iff_not]; exact fun h2 => h ⟨h2, hs⟩
    simp [this]

theorem fsTo_succ (l m : List Int) (i k : Nat) : fsTo l m i (k + 1) = (fsTo l m i k && (!sameL l m i k || decide (i ≤ k))) := by
  unfold fsTo
  rw [List.range_succ, List.all_append]; simp

theorem lkTo_len (l m : List Int) (i k : Nat) : (lkTo l m i k).length ≤ k + 1 := by
  unfold lkTo
  have := List.length_filter_le (fun j => decide (i < j) && sameL l m i j) (List.range k)
  simp only [List.length_cons, List.length_map]
  rw [List.length_range] at this; omega

/-- The wire is the first one of a list of like ones. -/
def lkB (l m : List Int) (n i : Nat) : Bool := fsTo l m i n && decide (1 < (lkTo l m i n).length)

/-- The lists of like wires whose first one is among the first j. -/
def lkL (l m : List Int) (n j : Nat) : List (List Int) := ((List.range j).filter fun i => lkB l m n i).map fun i => lkTo l m i n

theorem lkL_succ (l m : List Int) (n j : Nat) : lkL l m n (j + 1) = if lkB l m n j = true then lkL l m n j ++ [lkTo l m j n] else lkL l m n j := by
  unfold lkL
  rw [List.range_succ, List.filter_append, List.map_append]
  by_cases h : lkB l m n j = true
  · rw [if_pos h]; simp [h]
  · rw [if_neg h]; simp [h]

theorem lkL_len (l m : List Int) (n j : Nat) : (lkL l m n j).length ≤ j := by
  unfold lkL
  have := List.length_filter_le (fun i => lkB l m n i) (List.range j)
  simp only [List.length_map]
  rw [List.length_range] at this; omega

theorem lkL_row (l m : List Int) (n j i : Nat) : (row (lkL l m n j) i).length ≤ n + 1 := by
  unfold row lkL
  rw [List.getD_eq_getElem?_getD, List.getElem?_map]
  cases h : ((List.range j).filter fun i => lkB l m n i)[i]? with
  | none => simp
  | some x => simpa using lkTo_len l m x n

theorem llTo_at (l m : List Int) (n i : Nat) (h : i < n) : row (llTo l m n) i = [((sz l i : Nat) : Int), ((sz m i : Nat) : Int)] := by
  unfold row llTo
  rw [List.getD_eq_getElem?_getD]
  simp [h]

theorem sameL_eq (l m : List Int) (n i k : Nat) (hi : i < n) (hk : k < n) : decide (row (llTo l m n) i = row (llTo l m n) k) = sameL l m i k := by
  rw [llTo_at _ _ _ _ hi, llTo_at _ _ _ _ hk]
  unfold sameL
  rw [Bool.eq_iff_iff]
  simp only [decide_eq_true_eq, List.cons.injEq, and_true]
  omega

end Go.Proofs.Ytcedacneagpjcaa
