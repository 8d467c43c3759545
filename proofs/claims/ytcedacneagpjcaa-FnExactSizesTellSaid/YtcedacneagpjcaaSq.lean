/- Two lists that agree. -/
import Derived.Test.YtcedacneagpjcaaKs
namespace Go.Proofs.Ytcedacneagpjcaa
open Go.ChangeShapes Go.WideShapes Go.ChangeAt Go.RowKit
set_option linter.unusedVariables false


/-- Two lists agree in the first n. -/
def sqN (l m : List Int) (n : Nat) : Bool := (List.range n).all fun j => na l j == na m j

theorem sq_eq {l m : List Int} (h : l.length = m.length) : sqN l m l.length = (l == m) := by
  rw [Bool.eq_iff_iff, beq_iff_eq]
  unfold sqN
  rw [List.all_eq_true]
  constructor
  · intro hh
    apply List.ext_getElem h
    intro i h1 h2
    have h3 := hh i (List.mem_range.2 h1)
    rw [beq_iff_eq, na, na, List.getD_eq_getElem?_getD, List.getD_eq_getElem?_getD, List.getElem?_eq_getElem h1, List.getElem?_eq_getElem h2] at h3
    exact h3
  · intro hh i _
    rw [hh]; simp

theorem sq_len {l m : List Int} (h : ¬ l.length = m.length) : (l == m) = false := by
  cases hh : (l == m)
  · rfl
  · rw [beq_iff_eq] at hh; rw [hh] at h; exact absurd rfl h

set_option maxRecDepth 20000 in
theorem l1Same_ne (ao bo : Option Addr) (ka kb n k : Nat) (w : World) (h : ¬ n = k) :
    Calls Try.prog 44 #[.slice ao n ka, .slice bo k kb] w fun e w' => e = .returned (.bool false) ∧ Below w.heap.size w w' := by
  have hnn : ((n : Int) != (k : Int)) = true := by simp; omega
  go_enter Try.func44, Try.ntmps44
  go_wp2_with fail
  go_ret
  exact ⟨rfl, Below.refl _ _⟩

theorem l1Same_zero (ao bo : Option Addr) (ka kb : Nat) (w : World) :
    Calls Try.prog 44 #[.slice ao 0 ka, .slice bo 0 kb] w fun e w' => e = .returned (.bool true) ∧ Below w.heap.size w w' := by
  go_enter Try.func44, Try.ntmps44
  go_wp2_with fail
  go_rounds 1
  go_ret
  exact ⟨rfl, Below.refl _ _⟩

set_option maxRecDepth 20000 in
theorem l1Same_pos (b off b' off' ka kb : Nat) (l m : List Int) (n : Nat) (w : World) (hl : n ≤ 1048576)
    (Hc : Hid (∀ i, i < n → w.cell? ⟨b, off + i, none⟩ = some (.int .i64 (na l i))))
    (Hd : Hid (∀ i, i < n → w.cell? ⟨b', off' + i, none⟩ = some (.int .i64 (na m i)))) :
    Calls Try.prog 44 #[.slice (some ⟨b, off, none⟩) n ka, .slice (some ⟨b', off', none⟩) n kb] w fun e w' => e = .returned (.bool (sqN l m n)) ∧ Below w.heap.size w w' := by
  have hnn : ((n : Int) != (n : Int)) = false := by simp
  go_enter Try.func44, Try.ntmps44
  go_wp2_with fail
  go_loopw [13] (fun i wr => ∃ k : Nat, k ≤ n ∧ i = .int .i64 k ∧ Hid (∀ j, j < k → (na l j == na m j) = true) ∧ Below w.heap.size w wr) (fun i _ => n - (intOf i).toNat)
  case atStart => exact ⟨0, Nat.zero_le _, rfl, fun j hj => absurd hj (by omega), Below.refl _ _⟩
  case round =>
    obtain ⟨k, hk, rfl, hall, hbel⟩ := hrel
    by_cases hlt : k < n
    · have h0 := cell_old hbel (Hc.out k hlt)
      have h2 := cell_old hbel (Hd.out k hlt)
      have hb0 : (0 : Int) ≤ k := by omega
      have hb1 : (k : Int) < n := by omega
      cases hee : (na l k != na m k)
      · have hall2 : Hid (∀ j, j < k + 1 → (na l j == na m j) = true) := by
          intro j hj
          by_cases hjk : j = k
          · subst hjk; simpa using hee
          · exact hall.out j (by omega)
        go_wp2_with fail
        go_quiet (fail)
        go_wp2_with fail
        go_roundw
        case rel => exact ⟨k + 1, by omega, by go_num, hall2, below_drewN hbel _⟩
        case measure => simp [intOf]; omega
      · have hno : sqN l m n = false := by
          unfold sqN
          rw [List.all_eq_false]
          exact ⟨k, List.mem_range.2 hlt, by simpa using hee⟩
        have Hno := Lib.hid hno
        clear hno
        go_wp2_with fail
        go_quiet (fail)
        go_wp2_with fail
        go_ret
        exact ⟨by first | (rw [Hno.out]; done) | (rw [Hno.out]; rfl) | (rw [Hno.out]; simp_all), below_drewN hbel _⟩
    · obtain rfl : k = n := by omega
      have hyes : sqN l m k = true := by
        unfold sqN
        rw [List.all_eq_true]
        intro j hj
        exact hall.out j (List.mem_range.1 hj)
      have Hyes := Lib.hid hyes
      clear hyes hall
      go_wp2_with fail
      go_ret
      exact ⟨by first | (rw [Hyes.out]; done) | (rw [Hyes.out]; rfl), hbel⟩

theorem l1Same_any (ao bo : Option Addr) (ka kb : Nat) (l m : List Int) (n k : Nat) (w : World) (Hn : Hid (n = l.length)) (Hk : Hid (k = m.length)) (hn : n ≤ 1048576) (hc : NumsAt w ao l) (hd : NumsAt w bo m) :
    Calls Try.prog 44 #[.slice ao n ka, .slice bo k kb] w fun e w' => e = .returned (.bool (l == m)) ∧ Below w.heap.size w w' := by
  by_cases h : n = k
  · subst h
    have hlm : l.length = m.length := by rw [← Hn.out, ← Hk.out]
    rcases hc with h0 | ⟨b, off, rfl, hc⟩
    · subst h0
      obtain rfl : n = 0 := Hn.out
      obtain rfl : m = [] := List.eq_nil_of_length_eq_zero Hk.out.symm
      exact l1Same_zero ao bo ka kb w
    · rcases hd with h0 | ⟨b', off', rfl, hd⟩
      · subst h0
        obtain rfl : n = 0 := Hk.out
        obtain rfl : l = [] := List.eq_nil_of_length_eq_zero Hn.out.symm
        exact l1Same_zero _ _ ka kb w
      · rw [← sq_eq hlm, ← Hn.out]
        exact l1Same_pos b off b' off' ka kb l m n w hn (by rw [Hn.out]; exact hc) (by rw [Hk.out]; exact hd)
  · rw [sq_len (by rw [← Hn.out, ← Hk.out]; exact h)]
    exact l1Same_ne ao bo ka kb n k w h

set_option maxRecDepth 20000 in
theorem equalS_ne (ao bo : Option Addr) (ka kb n k : Nat) (w : World) (h : ¬ n = k) :
    Calls Try.prog 49 #[.slice ao n ka, .slice bo k kb] w fun e w' => e = .returned (.bool false) ∧ Below w.heap.size w w' := by
  have hnn : ((n : Int) != (k : Int)) = true := by simp; omega
  go_enter Try.func49, Try.ntmps49
  go_wp2_with fail
  go_ret
  exact ⟨rfl, Below.refl _ _⟩

theorem equalS_zero (ao bo : Option Addr) (ka kb : Nat) (w : World) :
    Calls Try.prog 49 #[.slice ao 0 ka, .slice bo 0 kb] w fun e w' => e = .returned (.bool true) ∧ Below w.heap.size w w' := by
  go_enter Try.func49, Try.ntmps49
  go_wp2_with fail
  go_rounds 1
  go_ret
  exact ⟨rfl, Below.refl _ _⟩

set_option maxRecDepth 20000 in
theorem equalS_pos (b off b' off' ka kb : Nat) (l m : List Int) (n : Nat) (w : World) (hl : n ≤ 1048576)
    (Hc : Hid (∀ i, i < n → w.cell? ⟨b, off + i, none⟩ = some (.int .i64 (na l i))))
    (Hd : Hid (∀ i, i < n → w.cell? ⟨b', off' + i, none⟩ = some (.int .i64 (na m i)))) :
    Calls Try.prog 49 #[.slice (some ⟨b, off, none⟩) n ka, .slice (some ⟨b', off', none⟩) n kb] w fun e w' => e = .returned (.bool (sqN l m n)) ∧ Below w.heap.size w w' := by
  have hnn : ((n : Int) != (n : Int)) = false := by simp
  go_enter Try.func49, Try.ntmps49
  go_wp2_with fail
  go_loopw [13] (fun i wr => ∃ k : Nat, k ≤ n ∧ i = .int .i64 k ∧ Hid (∀ j, j < k → (na l j == na m j) = true) ∧ Below w.heap.size w wr) (fun i _ => n - (intOf i).toNat)
  case atStart => exact ⟨0, Nat.zero_le _, rfl, fun j hj => absurd hj (by omega), Below.refl _ _⟩
  case round =>
    obtain ⟨k, hk, rfl, hall, hbel⟩ := hrel
    by_cases hlt : k < n
    · have h0 := cell_old hbel (Hc.out k hlt)
      have h2 := cell_old hbel (Hd.out k hlt)
      have hb0 : (0 : Int) ≤ k := by omega
      have hb1 : (k : Int) < n := by omega
      cases hee : (na l k != na m k)
      · have hall2 : Hid (∀ j, j < k + 1 → (na l j == na m j) = true) := by
          intro j hj
          by_cases hjk : j = k
          · subst hjk; simpa using hee
          · exact hall.out j (by omega)
        go_wp2_with fail
        go_quiet (fail)
        go_wp2_with fail
        go_roundw
        case rel => exact ⟨k + 1, by omega, by go_num, hall2, below_drewN hbel _⟩
        case measure => simp [intOf]; omega
      · have hno : sqN l m n = false := by
          unfold sqN
          rw [List.all_eq_false]
          exact ⟨k, List.mem_range.2 hlt, by simpa using hee⟩
        have Hno := Lib.hid hno
        clear hno
        go_wp2_with fail
        go_quiet (fail)
        go_wp2_with fail
        go_ret
        exact ⟨by first | (rw [Hno.out]; done) | (rw [Hno.out]; rfl) | (rw [Hno.out]; simp_all), below_drewN hbel _⟩
    · obtain rfl : k = n := by omega
      have hyes : sqN l m k = true := by
        unfold sqN
        rw [List.all_eq_true]
        intro j hj
        exact hall.out j (List.mem_range.1 hj)
      have Hyes := Lib.hid hyes
      clear hyes hall
      go_wp2_with fail
      go_ret
      exact ⟨by first | (rw [Hyes.out]; done) | (rw [Hyes.out]; rfl), hbel⟩

theorem equalS_any (ao bo : Option Addr) (ka kb : Nat) (l m : List Int) (n k : Nat) (w : World) (Hn : Hid (n = l.length)) (Hk : Hid (k = m.length)) (hn : n ≤ 1048576) (hc : NumsAt w ao l) (hd : NumsAt w bo m) :
    Calls Try.prog 49 #[.slice ao n ka, .slice bo k kb] w fun e w' => e = .returned (.bool (l == m)) ∧ Below w.heap.size w w' := by
  by_cases h : n = k
  · subst h
    have hlm : l.length = m.length := by rw [← Hn.out, ← Hk.out]
    rcases hc with h0 | ⟨b, off, rfl, hc⟩
    · subst h0
      obtain rfl : n = 0 := Hn.out
      obtain rfl : m = [] := List.eq_nil_of_length_eq_zero Hk.out.symm
      exact equalS_zero ao bo ka kb w
    · rcases hd with h0 | ⟨b', off', rfl, hd⟩
      · subst h0
        obtain rfl : n = 0 := Hk.out
        obtain rfl : l = [] := List.eq_nil_of_length_eq_zero Hn.out.symm
        exact equalS_zero _ _ ka kb w
      · rw [← sq_eq hlm, ← Hn.out]
        exact equalS_pos b off b' off' ka kb l m n w hn (by rw [Hn.out]; exact hc) (by rw [Hk.out]; exact hd)
  · rw [sq_len (by rw [← Hn.out, ← Hk.out]; exact h)]
    exact equalS_ne ao bo ka kb n k w h

end Go.Proofs.Ytcedacneagpjcaa
