/- Two groupings that tell all wires: the model and the program. -/
import Derived.Test.YtcedacneagpjcaaLk
import Derived.Test.YtcedacneagpjcaaTa
namespace Go.Proofs.Ytcedacneagpjcaa
open Go.ChangeShapes Go.WideShapes Go.ChangeAt Go.RowKit
set_option linter.unusedVariables false


theorem nums_pos {w : World} {ao : Option Addr} {l : List Int} {n : Nat} (Hn : Hid (n = l.length)) (Hg : Hid (grB l = true)) (h : NumsAt w ao l) : ∃ b off, ao = some ⟨b, off, none⟩ ∧ ∀ i, i < n → w.cell? ⟨b, off + i, none⟩ = some (.int .i64 (na l i)) := by
  rcases h with h | ⟨b, off, h, hc⟩
  · subst h; have := grB_len Hg.out; simp at this
  · exact ⟨b, off, h, fun i hi => hc i (by rw [← Hn.out]; exact hi)⟩

theorem twB_parts {l m : List Int} (h : twB l m = true) : grB l = true ∧ grB m = true ∧ l.length = m.length := by
  simpa [twB] using h


theorem fsTo_all {l m : List Int} {i n : Nat} (h : ∀ j, j < n → sameL l m i j = true → i ≤ j) : fsTo l m i n = true := by
  unfold fsTo
  rw [List.all_eq_true]
  intro j hj
  cases hs : sameL l m i j
  · rfl
  · simpa using h j (List.mem_range.1 hj) hs

theorem lkTo_more {l m : List Int} {i k n : Nat} (hik : i < k) (hk : k < n) (hs : sameL l m i k = true) : 1 < (lkTo l m i n).length := by
  unfold lkTo
  have : k ∈ (List.range n).filter fun j => decide (i < j) && sameL l m i j := by
    rw [List.mem_filter]
    exact ⟨List.mem_range.2 hk, by simp [hik, hs]⟩
  have := List.length_pos_of_mem this
  simp only [List.length_cons, List.length_map]; omega

theorem like_none {l m : List Int} {n : Nat} (h : ∀ i, i < n → lkB l m n i = false) : ∀ i k, i < k → k < n → sameL l m i k = false := by
  intro i
  induction i using Nat.strongRecOn with
  | ind i ih =>
    intro k hik hk
    cases hs : sameL l m i k
    · rfl
    · by_cases hex : ∃ j, j < i ∧ sameL l m i j = true
      · obtain ⟨j, hj, hsj⟩ := hex
        have h1 := ih j hj i hj (by omega)
        have h2 : sameL l m j i = true := by
          unfold sameL at hsj ⊢
          simp only [decide_eq_true_eq] at hsj ⊢
          omega
        rw [h1] at h2; cases h2
      · have hf : fsTo l m i n = true := fsTo_all (fun j _ hsj => by
          by_cases hji : i ≤ j
          · exact hji
          · exact absurd ⟨j, by omega, hsj⟩ hex)
        have hl := lkTo_more hik hk hs
        have := h i (by omega)
        unfold lkB at this
        rw [hf] at this
        simp at this
        omega

theorem tel_like {l m : List Int} : (lkL l m l.length l.length).length = 0 ↔ telB l m = true := by
  unfold telB
  rw [decide_eq_true_eq]
  constructor
  · intro h
    have hn : ∀ i, i < l.length → lkB l m l.length i = false := by
      intro i hi
      cases hb : lkB l m l.length i
      · rfl
      · have : lkTo l m i l.length ∈ lkL l m l.length l.length := by
          unfold lkL
          exact List.mem_map.2 ⟨i, List.mem_filter.2 ⟨List.mem_range.2 hi, hb⟩, rfl⟩
        have := List.length_pos_of_mem this
        omega
    have hs := like_none hn
    refine List.pairwise_iff_getElem.2 fun i k hi hk hik => ?_
    have hi2 : i < l.length := by rw [← LB_length l m]; exact hi
    have hk2 : k < l.length := by rw [← LB_length l m]; exact hk
    rw [LB_at l m i hi2, LB_at l m k hk2]
    intro e
    have := hs i k hik hk2
    unfold sameL at this
    simp only [decide_eq_false_iff_not] at this
    simp only [Prod.mk.injEq] at e
    exact this (by omega)
  · intro h
    have hp := List.pairwise_iff_getElem.1 h
    have hns : ∀ i k, i < k → k < l.length → sameL l m i k = false := by
      intro i k hik hk
      have := hp i k (by rw [LB_length]; omega) (by rw [LB_length]; exact hk) hik
      rw [LB_at l m i (by omega), LB_at l m k hk] at this
      unfold sameL
      rw [decide_eq_false_iff_not]
      intro e
      exact this (by rw [e.1, e.2])
    have : lkL l m l.length l.length = [] := by
      unfold lkL
      rw [List.map_eq_nil_iff, List.filter_eq_nil_iff]
      intro i hi
      have hi2 := List.mem_range.1 hi
      have : (lkTo l m i l.length).length = 1 := by
        unfold lkTo
        have : (List.range l.length).filter (fun j => decide (i < j) && sameL l m i j) = [] := by
          rw [List.filter_eq_nil_iff]
          intro j hj
          have hj2 := List.mem_range.1 hj
          by_cases hij : i < j
          · rw [hns i j hij hj2]; simp
          · simp [hij]
        rw [this]; rfl
      unfold lkB
      rw [this]; simp
    rw [this]; rfl

/-- Two groupings that tell all wires. -/
def teR (l m : List Int) : Bool := twB l m && telB l m

set_option maxRecDepth 20000 in
theorem specTw_any (w : World) (ao : Option Addr) (ka : Nat) (l : List Int) (n : Nat) (Hn : Hid (n = l.length)) (hn : n ≤ 1048576) (Ha : NumsAt w ao l) (bo : Option Addr) (kb : Nat) (m : List Int) (k : Nat) (Hk : Hid (k = m.length)) (hk : k ≤ 1048576) (Hb : NumsAt w bo m) :
    Calls Try.prog 10 #[.slice ao n ka, .slice bo k kb] w fun e w' => e = .returned (.tuple #[.bool (teR l m), .bool (twB l m)]) ∧ Below w.heap.size w w' := by
  cases ht : twB l m
  · have hR : teR l m = false := by simp [teR, ht]
    rw [hR]
    have Ht := Lib.hid ht
    clear hR ht
    go_enter Try.func10, Try.ntmps10
    go_wp2_with fail
    refine (cbTwo_any w _ ka l n Hn hn Ha _ kb m k Hk hk Hb).mono ?_
    rintro e w' ⟨rfl, rfl⟩
    rw [Ht.out]
    go_wp2_with fail
    go_ret2
    exact ⟨rfl, Below.refl _ _⟩
  · have hp := twB_parts ht
    obtain rfl : k = n := by have := hp.2.2; have := Hn.out; have := Hk.out; omega
    have hR : teR l m = telB l m := by simp [teR, ht]
    rw [hR]
    have Ht := Lib.hid ht
    have Hp := Lib.hid hp
    have hz : telB l m = ((lkL l m k k).length == 0) := by
      have h := tel_like (l := l) (m := m)
      rw [← Hn.out] at h
      rw [Bool.eq_iff_iff, ← h]; simp
    rw [hz]
    obtain ⟨b, off, hao, hc⟩ := nums_pos Hn Hp.out.1 Ha
    obtain ⟨b2, off2, hbo, hd⟩ := nums_pos Hk Hp.out.2.1 Hb
    have HA := Lib.hid Ha
    have HB := Lib.hid Hb
    have HC := Lib.hid hc
    have HD := Lib.hid hd
    clear Ha Hb hc hd hR ht hp hz
    subst hao
    subst hbo
    go_enter Try.func10, Try.ntmps10
    go_wp2_with fail
    refine (cbTwo_any w _ ka l k Hn hn HA.out _ kb m k Hk hn HB.out).mono ?_
    rintro e w' ⟨rfl, rfl⟩
    rw [Ht.out]
    go_wp2_with fail
    refine (cbLike_pos w b off ka b2 off2 kb l m k Hn Hk Hp.out.1 Hp.out.2.1 HC HD).mono ?_
    rintro e w1 ⟨v, X, rfl, hO, hb1⟩
    obtain ⟨ao, cap, rfl, _⟩ := hO.reads
    clear hO
    obtain ⟨q, hq⟩ : ∃ q, (lkL l m k k).length = q := ⟨_, rfl⟩
    rw [hq]
    have hz2 : ((q : Int) == 0) = (q == 0) := by rw [Bool.eq_iff_iff]; simp
    have Hz2 := Lib.hid hz2
    have Hq := Lib.hid hq
    clear hz2 hq
    go_wp2_with fail
    go_ret2
    exact ⟨by rw [Hq.out, ← Hz2.out]; rfl, hb1⟩

set_option maxRecDepth 20000 in
theorem implTw_any (w : World) (ao : Option Addr) (ka : Nat) (l : List Int) (n : Nat) (Hn : Hid (n = l.length)) (hn : n ≤ 1048576) (Ha : NumsAt w ao l) (bo : Option Addr) (kb : Nat) (m : List Int) (k : Nat) (Hk : Hid (k = m.length)) (hk : k ≤ 1048576) (Hb : NumsAt w bo m) :
    Calls Try.prog 12 #[.slice ao n ka, .slice bo k kb] w fun e w' => e = .returned (.tuple #[.bool (teR l m), .bool (twB l m)]) ∧ Below w.heap.size w w' := by
  cases ht : twB l m
  · have hR : teR l m = false := by simp [teR, ht]
    rw [hR]
    have Ht := Lib.hid ht
    clear hR ht
    go_enter Try.func12, Try.ntmps12
    go_wp2_with fail
    refine (areGroupings_any w _ ka l n Hn hn Ha _ kb m k Hk hk Hb).mono ?_
    rintro e w' ⟨rfl, rfl⟩
    rw [Ht.out]
    go_wp2_with fail
    go_ret2
    exact ⟨rfl, Below.refl _ _⟩
  · have hp := twB_parts ht
    obtain rfl : k = n := by have := hp.2.2; have := Hn.out; have := Hk.out; omega
    have hR : teR l m = telB l m := by simp [teR, ht]
    rw [hR]
    have Ht := Lib.hid ht
    have Hp := Lib.hid hp
    obtain ⟨b, off, hao, hc⟩ := nums_pos Hn Hp.out.1 Ha
    obtain ⟨b2, off2, hbo, hd⟩ := nums_pos Hk Hp.out.2.1 Hb
    have HA := Lib.hid Ha
    have HB := Lib.hid Hb
    have HC := Lib.hid hc
    have HD := Lib.hid hd
    clear Ha Hb hc hd hR ht hp
    subst hao
    subst hbo
    go_enter Try.func12, Try.ntmps12
    go_wp2_with fail
    refine (areGroupings_any w _ ka l k Hn hn HA.out _ kb m k Hk hn HB.out).mono ?_
    rintro e w' ⟨rfl, rfl⟩
    rw [Ht.out]
    go_wp2_with fail
    refine (tellAll_pos w b off ka b2 off2 kb l m k Hn Hk Hp.out.1 Hp.out.2.1 HC HD).mono ?_
    rintro e w1 ⟨rfl, hb1⟩
    go_wp2_with fail
    go_ret2
    exact ⟨rfl, hb1⟩

end Go.Proofs.Ytcedacneagpjcaa
