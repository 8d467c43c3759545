/- Is a list a path; what is heard at its end: pure. -/
import Derived.Test.YtaangjidkkpogaaDoorAk
import Derived.Test.YtaangjidkkpogaaDoorInts
namespace Go.Proofs.YtaangjidkkpogaaDoor
open Go.ChangeShapes Go.WideShapes Go.ChangeAt Go.RowKit
set_option linter.unusedVariables false


def pathB (f : Int) (l : List Int) : Bool := decide (l.length ≤ 30) && (List.range l.length).all fun i => inF f (na l i)
def poB (s : ByteArray) (l : List Int) (_b : Bool) : Bool := castB s && pathB s.size l
/-- What the k-th friend of a path hears. -/
def pv (c : List Bool) (l : List Int) (b : Bool) : Nat → Bool
  | 0 => b
  | k + 1 => pv c l b k == hon c (na l k)
def poR (s : ByteArray) (l : List Int) (b : Bool) : Bool := poB s l b && pv (cOf s) l b l.length
theorem po_no {s : ByteArray} {l : List Int} {b : Bool} (h : poB s l b = false) : poR s l b = false := by unfold poR; rw [h]; rfl
theorem po_yes {s : ByteArray} {l : List Int} {b : Bool} (h : poB s l b = true) : poR s l b = pv (cOf s) l b l.length := by unfold poR; rw [h]; rfl
theorem path_at {f : Int} {l : List Int} (h : pathB f l = true) : l.length ≤ 30 ∧ ∀ i, i < l.length → 0 ≤ na l i ∧ na l i < f := by
  simp only [pathB, Bool.and_eq_true, decide_eq_true_eq, List.all_eq_true, List.mem_range] at h
  exact ⟨h.1, fun i hi => by have := h.2 i hi; simpa [inF] using this⟩
theorem path_no {f : Int} {l : List Int} {i : Nat} (hi : i < l.length) (h : inF f (na l i) = false) : pathB f l = false := by
  have : ((List.range l.length).all fun i => inF f (na l i)) = false := by
    rw [List.all_eq_false]; exact ⟨i, List.mem_range.2 hi, by simpa using h⟩
  rw [pathB, this, Bool.and_false]
theorem path_yes {f : Int} {l : List Int} (h : ∀ i, i < l.length → inF f (na l i) = true) : pathB f l = decide (l.length ≤ 30) := by
  have : ((List.range l.length).all fun i => inF f (na l i)) = true := by
    rw [List.all_eq_true]; exact fun i hi => h i (List.mem_range.1 hi)
  rw [pathB, this, Bool.and_true]
set_option maxRecDepth 20000 in
theorem isPath_pos (b off cap : Nat) (f : Int) (l : List Int) (n : Nat) (w : World) (Hn : Hid (n = l.length)) (hn : n ≤ 1048576)
    (Hc : Hid (∀ i, i < n → w.cell? ⟨b, off + i, none⟩ = some (.int .i64 (na l i)))) :
    Calls Tryd.prog 38 #[.int .i64 f, .slice (some ⟨b, off, none⟩) n cap] w fun e w' => e = .returned (.bool (pathB f l)) ∧ w = w' := by
  go_enter Tryd.func38, Tryd.ntmps38
  go_wp2_with fail
  go_loop [9] (fun i => ∃ k : Nat, k ≤ n ∧ i = .int .i64 k ∧ Hid (∀ j, j < k → inF f (na l j) = true)) (fun i => n - (intOf i).toNat)
  case atStart => exact ⟨0, Nat.zero_le _, rfl, fun j hj => absurd hj (by omega)⟩
  case round =>
    obtain ⟨k, hk, rfl, hall⟩ := hrel
    by_cases hlt : k < n
    · have h0 := Hc.out k hlt
      go_wp2_with fail
      refine (isF_any f (na l k) w).mono ?_
      rintro e w' ⟨rfl, rfl⟩
      cases ht : inF f (na l k)
      · have Hno := Lib.hid (path_no (by rw [← Hn.out]; exact hlt) ht)
        clear ht
        go_wp2_with fail
        go_ret
        exact ⟨ret_bool Hno.out.symm, rfl⟩
      · have hall2 : Hid (∀ j, j < k + 1 → inF f (na l j) = true) := by
          intro j hj
          by_cases hjk : j = k
          · subst hjk; exact ht
          · exact hall.out j (by omega)
        clear ht
        go_wp2_with fail
        go_round
        case rel => exact ⟨k + 1, by omega, by go_num, hall2⟩
        case measure => simp [intOf]; omega
    · obtain rfl : k = n := by omega
      have Hyes := Lib.hid (path_yes (f := f) (l := l) (fun i hi => hall.out i (by rw [Hn.out]; exact hi)))
      by_cases h30 : k ≤ 30
      · have hI : (k : Int) ≤ 30 := by omega
        have H30 : Hid (pathB f l = true) := Lib.hid (by rw [Hyes.out, ← Hn.out]; simpa using h30)
        go_wp2_with fail
        go_ret
        exact ⟨by rw [H30.out]; first | rfl | (simp; done) | (simp; omega), rfl⟩
      · have hI : ¬ (k : Int) ≤ 30 := by omega
        have hI2 : decide ((k : Int) ≤ 30) = false := by simpa using hI
        have H30 : Hid (pathB f l = false) := Lib.hid (by rw [Hyes.out, ← Hn.out]; simpa using h30)
        go_wp2_with fail
        go_ret
        exact ⟨by rw [H30.out]; first | rfl | (simp; done) | (simp; omega), rfl⟩
theorem isPath_any (ao : Option Addr) (cap : Nat) (f : Int) (l : List Int) (n : Nat) (w : World) (Hn : Hid (n = l.length)) (hn : n ≤ 1048576) (hc : NumsAt w ao l) :
    Calls Tryd.prog 38 #[.int .i64 f, .slice ao n cap] w fun e w' => e = .returned (.bool (pathB f l)) ∧ w = w' := by
  rcases hc with rfl | ⟨b, off, rfl, hc⟩
  · obtain rfl : n = 0 := Hn.out
    have e : pathB f [] = true := rfl
    rw [e]
    go_enter Tryd.func38, Tryd.ntmps38
    go_wp2_with fail
    go_rounds 1
    go_ret
    exact ⟨rfl, rfl⟩
  · exact isPath_pos b off cap f l n w Hn hn (by rw [Hn.out]; exact hc)

end Go.Proofs.YtaangjidkkpogaaDoor
