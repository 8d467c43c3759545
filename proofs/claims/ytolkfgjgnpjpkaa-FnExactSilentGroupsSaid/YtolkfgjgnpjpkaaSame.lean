/- Whether two rows of readers know the same: the program. -/
import Derived.Test.YtolkfgjgnpjpkaaIdleS
namespace Go.Proofs.Ytolkfgjgnpjpkaa
open Go.ChangeShapes Go.WideShapes Go.ChangeAt Go.RowKit Go.Maps Go.Shelf
set_option linter.unusedVariables false


def eqS (F : Nat) (s t : Nat → Nat) : Bool := (List.range F).all fun i => s i == t i

set_option maxRecDepth 20000 in
theorem equalFunc_any (b1 g1 c1 b2 g2 c2 F : Nat) (bs cs : List Nat) (s t : Nat → Nat) (w : World) (hF : bs.length = F) (hG : cs.length = F) (h1c : F ≤ c1) (h2c : F ≤ c2) (hF10 : F ≤ 10) (hs : Hid (∀ i, s i < 1024)) (ht : Hid (∀ i, t i < 1024))
    (h1 : RdB w b1 g1 c1 bs s) (h2 : RdB w b2 g2 c2 cs t) :
    Calls Try.prog 102 #[.slice (some ⟨g1, 0, none⟩) F c1, .slice (some ⟨g2, 0, none⟩) F c2, .func (.func 103) #[] #[]] w fun e w' => e = .returned (.bool (eqS F s t)) ∧ Below w.heap.size w w' := by
  have H1 := Lib.hid h1
  have H2 := Lib.hid h2
  clear h1 h2
  have hnn : ((F : Int) != (F : Int)) = false := by simp
  go_enter Try.func102, Try.ntmps102
  go_wp2_with fail
  go_loopw [17] (fun i wr => ∃ k : Nat, k ≤ F ∧ i = .int .i64 k ∧ Hid (∀ j, j < k → s j = t j) ∧ Below w.heap.size w wr) (fun i _ => F - (intOf i).toNat)
  case atStart => exact ⟨0, Nat.zero_le _, rfl, fun j hj => absurd hj (by omega), Below.refl _ _⟩
  case round =>
    obtain ⟨k, hk, rfl, hall, hbel⟩ := hrel
    by_cases hlt : k < F
    · have hr1 := H1.out.later hbel
      have hr2 := H2.out.later hbel
      have hc1 := hr1.cell k (by rw [hF]; exact hlt)
      have hc2 := hr2.cell k (by rw [hG]; exact hlt)
      have hs1 := (hr1.2.2 k (by rw [hF]; exact hlt)).2
      have hs2 := (hr2.2.2 k (by rw [hG]; exact hlt)).2
      generalize bs[k]'(by rw [hF]; exact hlt) = x1 at hc1 hs1
      generalize cs[k]'(by rw [hG]; exact hlt) = x2 at hc2 hs2
      have Heq := Lib.hid (equal_any x1 x2 (s k) (t k) wr (hs.out k) (ht.out k) hs1 hs2)
      have hk0 : (0 : Int) ≤ (k : Int) := by omega
      have hk1 : (k : Int) < (F : Int) := by omega
      clear hr1 hr2 hs1 hs2
      have hsz := hbel.size
      go_wp2_with fail
      refine Heq.out.mono ?_
      rintro e w2 ⟨rfl, hg2⟩
      have hb3 : Below w.heap.size w w2 := hbel.grown hg2 hsz (fun _ h => by cases h)
      clear hg2 Heq
      cases he : (s k == t k)
      · have hno : eqS F s t = false := by
          unfold eqS
          rw [List.all_eq_false]
          exact ⟨k, List.mem_range.2 hlt, by simp [he]⟩
        have Hno := Lib.hid hno
        clear hno
        go_wp2_with fail
        go_ret
        exact ⟨ret_bool Hno.out.symm, hb3⟩
      · have hall2 : Hid (∀ j, j < k + 1 → s j = t j) := by
          intro j hj
          by_cases hjk : j = k
          · subst hjk; simpa using he
          · exact hall.out j (by omega)
        go_wp2_with fail
        go_roundw
        case rel => exact ⟨k + 1, by omega, by go_num, hall2, hb3⟩
        case measure => simp [intOf]; omega
    · obtain rfl : k = F := by omega
      have hyes : eqS k s t = true := by
        unfold eqS
        rw [List.all_eq_true]
        intro i hi
        simpa using hall.out i (List.mem_range.1 hi)
      have Hyes := Lib.hid hyes
      clear hyes
      go_wp2_with fail
      go_ret
      exact ⟨ret_bool Hyes.out.symm, hbel⟩

theorem knowSame_any (b1 g1 c1 b2 g2 c2 F : Nat) (bs cs : List Nat) (s t : Nat → Nat) (w : World) (hF : bs.length = F) (hG : cs.length = F) (h1c : F ≤ c1) (h2c : F ≤ c2) (hF10 : F ≤ 10) (hs : Hid (∀ i, s i < 1024)) (ht : Hid (∀ i, t i < 1024))
    (h1 : RdB w b1 g1 c1 bs s) (h2 : RdB w b2 g2 c2 cs t) :
    Calls Try.prog 80 #[.slice (some ⟨g1, 0, none⟩) F c1, .slice (some ⟨g2, 0, none⟩) F c2] w fun e w' => e = .returned (.bool (eqS F s t)) ∧ Below w.heap.size w w' := by
  have H := Lib.hid (equalFunc_any b1 g1 c1 b2 g2 c2 F bs cs s t w hF hG h1c h2c hF10 hs ht h1 h2)
  clear h1 h2
  go_enter Try.func80, Try.ntmps80
  go_wp2_with fail
  refine H.out.mono ?_
  rintro e w2 ⟨rfl, hb⟩
  go_wp2_with fail
  go_ret
  exact ⟨rfl, hb⟩

theorem eqS_kl (F : Nat) (s t : Nat → Nat) : eqS F s t = sameN (kl F s) (kl F t) F := by
  rw [Bool.eq_iff_iff, sameN_kl]
  simp [eqS]

end Go.Proofs.Ytolkfgjgnpjpkaa
