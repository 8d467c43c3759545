/- The plans of four: the model's and the program's leave the same list. -/
import Derived.Test.YtjmckdnjghnlbaaPlans
namespace Go.Proofs.Ytjmckdnjghnlbaa
open Go.ChangeShapes Go.WideShapes Go.ChangeAt Go.RowKit

def fourB (f : Int) : Bool := decide (4 ≤ f ∧ f ≤ 10)
def mid4 : List (Int × Int) := [(0, 1), (2, 3), (0, 2), (1, 3)]
def fourL (f : Int) : List (Int × Int) := if fourB f then star 4 (f - 4).toNat ++ mid4 ++ star 4 (f - 4).toNat else []
theorem fourL_length (f : Int) : (fourL f).length ≤ 60 := by
  unfold fourL
  cases hf : fourB f
  · simp
  · have hff : 4 ≤ f ∧ f ≤ 10 := by simpa [fourB] using hf
    simp [star_length, mid4]
    omega

theorem implFour_no (w : World) (f : Int) (hf : fourB f = false) :
    Calls Try.prog 60 #[.int .i64 f] w fun e w' => ∃ v, e = .returned (.tuple #[v, .bool false]) ∧ w'.ownsRow w.heap.size 56 2 v 0 (cs []) ∧ Below w.heap.size w w' := by
  have Hown1 := Lib.hid (World.ownsRow_nil w w.heap.size 56 2)
  cases h1 : frB f
  · have Hf := Lib.hid h1
    clear hf h1
    go_enter Try.func60, Try.ntmps60
    go_wp2_with fail
    refine (canBeFriends_any f w).mono ?_
    rintro e w' ⟨rfl, rfl⟩
    rw [Hf.out]
    go_wp2_with fail
    go_ret2
    exact ⟨_, rfl, Hown1.out, Below.refl _ _⟩
  · have hlt : f < 4 := by
      have hff : 1 ≤ f ∧ f ≤ 10 := by simpa [frB] using h1
      have : ¬ (4 ≤ f ∧ f ≤ 10) := by simpa [fourB] using hf
      omega
    have Hf := Lib.hid h1
    clear hf h1
    go_enter Try.func60, Try.ntmps60
    go_wp2_with fail
    refine (canBeFriends_any f w).mono ?_
    rintro e w' ⟨rfl, rfl⟩
    rw [Hf.out]
    go_wp2_with fail
    go_ret2
    exact ⟨_, rfl, Hown1.out, Below.refl _ _⟩

set_option maxRecDepth 20000 in
theorem implFour_yes (w : World) (f : Int) (m : Nat) (hf : f = m + 4) (hm : m ≤ 6) :
    Calls Try.prog 60 #[.int .i64 f] w fun e w' => ∃ v, e = .returned (.tuple #[v, .bool true]) ∧ w'.ownsRow w.heap.size 56 2 v (m + 4 + m) (cs (star 4 m ++ mid4 ++ star 4 m)) ∧ Below w.heap.size w w' := by
  obtain ⟨i0, hi, hz0, hz1, hz2⟩ := info_parts info56
  have hfr : frB f = true := by simp [frB]; omega
  have Hfr := Lib.hid hfr
  have He1 : Hid (f = 4 + (m : Int)) := by show f = _; omega
  have hl : 4 ≤ f := by omega
  have hh : f ≤ 10 := by omega
  clear hfr hf
  go_enter Try.func60, Try.ntmps60
  go_wp2_with fail
  refine (canBeFriends_any f w).mono ?_
  rintro e w' ⟨rfl, rfl⟩
  rw [Hfr.out]
  go_wp2_with fail
  refine (callsOfFirst_to 4 f m w (by omega) (by omega) (by omega) He1).mono ?_
  rintro e w1 ⟨v1, rfl, own1, bel1⟩
  have Hown1 := Lib.hid own1
  have hsz1 := bel1.size
  clear own1
  go_wp2_with (at_builtin; refine wpList_append_own _ rfl _ _ 25 rfl w.heap.size 56 i0 (.agg #[.int .i64 0, .int .i64 0]) 2 16 Try.underlying25 hi hz0 hz1 hz2 rfl (by decide) _ _ _ rfl (Hown1.out.alloc _) ⟨w1.heap.size, 0, none⟩ 4 4 (cs mid4) rfl rfl ?c1 ?c2 ?c3 ?c4 ?c5 ?_)
  case c1 => exact World.news_of_block (cs := #[.int .i64 0, .int .i64 1, .int .i64 2, .int .i64 3, .int .i64 0, .int .i64 2, .int .i64 1, .int .i64 3]) (t := 56) (fr := (0, 0)) (heap_alloc_new _ _)
  case c2 => exact cs_one _
  case c3 => unfold maxLen; omega
  case c4 => omega
  case c5 => simp; omega
  intro v2 w2 own2 gr2 _
  have Hown2 := Lib.hid own2
  have hb2 := (bel1.alloc hsz1 _).grown gr2 (by simp; omega) (fun b hb => (Hown1.out.lt b hb).1)
  have hsz2 := hb2.size
  clear own2 gr2 bel1
  go_wp2_with fail
  refine (callsOfFirst_to 4 f m w2 (by omega) (by omega) (by omega) He1).mono ?_
  rintro e w3 ⟨v3, rfl, own3, bel3⟩
  have Hown2b := Lib.hid (own_later Hown2.out bel3)
  have Hown3 := Lib.hid own3
  have hb3 := hb2.trans (bel3.mono hsz2)
  have hsz3 := hb3.size
  clear own3 bel3 hb2
  by_cases h0 : m = 0
  · subst h0
    have hv : v3 = .slice none 0 0 ∨ ∃ g cap, v3 = .slice (some ⟨g, 0, none⟩) 0 cap := by
      rcases Hown3.out.2 with ⟨hv, _⟩ | ⟨g, cap, cur, hv, _⟩
      · exact .inl hv
      · exact .inr ⟨g, cap, hv⟩
    rcases hv with hv | ⟨g, cap, hv⟩
    · rw [hv]
      clear hv Hown3
      go_wp2_with (at_builtin; refine wpList_append_own_none rfl _ _ 25 rfl w.heap.size 56 i0 2 Try.underlying25 hi _ _ _ rfl Hown2b.out rfl ?_)
      go_ret2
      exact ⟨v2, rfl, by simpa [star, cs, List.flatMap_append] using Hown2b.out, hb3⟩
    · rw [hv]
      clear hv Hown3
      go_wp2_with (at_builtin; refine wpList_append_own _ rfl _ _ 25 rfl w.heap.size 56 i0 (.agg #[.int .i64 0, .int .i64 0]) 2 16 Try.underlying25 hi hz0 hz1 hz2 rfl (by decide) _ _ _ rfl Hown2b.out ⟨g, 0, none⟩ 0 cap [] rfl rfl ?d1 ?d2 ?d3 ?d4 ?d5 ?_)
      case d1 => intro j u hu; simp at hu
      case d2 => intro u hu; simp at hu
      case d3 => unfold maxLen; omega
      case d4 => omega
      case d5 => exact hsz3
      intro v4 w4 own4 gr4 _
      have Hown4 := Lib.hid own4
      have Hb4 := Lib.hid (hb3.grown gr4 hsz3 (fun b hb => (Hown2b.out.lt b hb).1))
      clear own4 gr4 hb3
      go_wp2_with fail
      go_ret2
      exact ⟨v4, rfl, by simpa [star, cs, List.flatMap_append] using Hown4.out, Hb4.out⟩
  · have Hs := Lib.hid (own_apos Hown3.out (by omega))
    obtain ⟨g, cap, hv⟩ := Hs.out
    have hown3b : w3.ownsRow w2.heap.size 56 2 (.slice (some ⟨g, 0, none⟩) m cap) m (cs (star 4 m)) := by rw [← hv]; exact Hown3.out
    have Hown3b := Lib.hid hown3b
    rw [hv]
    clear hv Hown3 Hs hown3b
    go_wp2_with (at_builtin; refine wpList_append_own _ rfl _ _ 25 rfl w.heap.size 56 i0 (.agg #[.int .i64 0, .int .i64 0]) 2 16 Try.underlying25 hi hz0 hz1 hz2 rfl (by decide) _ _ _ rfl Hown2b.out ⟨g, 0, none⟩ m cap (cs (star 4 m)) rfl ?e0 ?e1 ?e2 ?e3 ?e4 ?e5 ?_)
    case e0 => rw [cs_length, star_length]
    case e1 => exact Hown3b.out.cells rfl
    case e2 => exact cs_one _
    case e3 => unfold maxLen; omega
    case e4 => omega
    case e5 => exact hsz3
    intro v4 w4 own4 gr4 _
    have Hown4 := Lib.hid own4
    have Hb4 := Lib.hid (hb3.grown gr4 hsz3 (fun b hb => (Hown2b.out.lt b hb).1))
    clear own4 gr4 hb3
    go_wp2_with fail
    go_ret2
    exact ⟨v4, rfl, by rw [cs_append, cs_append, List.append_assoc]; exact Hown4.out, Hb4.out⟩

theorem implFour_any (w : World) (f : Int) :
    Calls Try.prog 60 #[.int .i64 f] w fun e w' => ∃ v, e = .returned (.tuple #[v, .bool (fourB f)]) ∧ w'.ownsRow w.heap.size 56 2 v (fourL f).length (cs (fourL f)) ∧ Below w.heap.size w w' := by
  cases hf : fourB f
  · rw [show fourL f = [] by simp [fourL, hf]]
    exact implFour_no w f hf
  · have hff : 4 ≤ f ∧ f ≤ 10 := by simpa [fourB] using hf
    obtain ⟨m, hm⟩ : ∃ m : Nat, f = m + 4 := ⟨(f - 4).toNat, by omega⟩
    have e1 : (f - 4).toNat = m := by omega
    rw [show fourL f = star 4 m ++ mid4 ++ star 4 m by simp [fourL, hf, e1], List.length_append, List.length_append, star_length]
    exact implFour_yes w f m hm (by omega)

theorem l1In_any (x lo hi : Int) (w : World) : Calls Try.prog 76 #[.int .i64 x, .int .i64 lo, .int .i64 hi] w fun e w' => e = .returned (.bool (decide (lo ≤ x ∧ x ≤ hi))) ∧ w = w' := by
  by_cases h1 : lo ≤ x
  · by_cases h2 : x ≤ hi
    · rw [show decide (lo ≤ x ∧ x ≤ hi) = true by simp [h1, h2]]
      go_enter Try.func76, Try.ntmps76
      go_wp2
      go_ret
      exact ⟨by first | rfl | (simp; done) | (simp; omega), rfl⟩
    · rw [show decide (lo ≤ x ∧ x ≤ hi) = false by simp [h2]]
      have hd : decide (x ≤ hi) = false := by simpa using h2
      go_enter Try.func76, Try.ntmps76
      go_wp2
      go_ret
      exact ⟨by first | rfl | (simp; done) | (simp; omega), rfl⟩
  · rw [show decide (lo ≤ x ∧ x ≤ hi) = false by simp [h1]]
    have hd : decide (lo ≤ x) = false := by simpa using h1
    go_enter Try.func76, Try.ntmps76
    go_wp2
    go_ret
    exact ⟨rfl, rfl⟩

theorem specFour_no (w : World) (f : Int) (hf : fourB f = false) :
    Calls Try.prog 59 #[.int .i64 f] w fun e w' => ∃ v, e = .returned (.tuple #[v, .bool false]) ∧ w'.ownsRow w.heap.size 56 2 v 0 (cs []) ∧ Below w.heap.size w w' := by
  have Hown1 := Lib.hid (World.ownsRow_nil w w.heap.size 56 2)
  have Hf : Hid (decide (4 ≤ f ∧ f ≤ 10) = false) := hf
  clear hf
  go_enter Try.func59, Try.ntmps59
  go_wp2_with fail
  refine (l1In_any f 4 10 w).mono ?_
  rintro e w' ⟨rfl, rfl⟩
  rw [Hf.out]
  go_wp2_with fail
  go_ret2
  exact ⟨_, rfl, Hown1.out, Below.refl _ _⟩

set_option maxRecDepth 20000 in
theorem specFour_yes (f : Int) (m : Nat) (w : World) (hf : f = m + 4) (hm : m ≤ 6) :
    Calls Try.prog 59 #[.int .i64 f] w fun e w' => ∃ v, e = .returned (.tuple #[v, .bool true]) ∧ w'.ownsRow w.heap.size 56 2 v (m + 4 + m) (cs (star 4 m ++ mid4 ++ star 4 m)) ∧ Below w.heap.size w w' := by
  obtain ⟨i0, hi, hz0, hz1, hz2⟩ := info_parts info56
  have hfr : decide (4 ≤ f ∧ f ≤ 10) = true := by simp; omega
  have Hfr := Lib.hid hfr
  have hl : 4 ≤ f := by omega
  have hh : f ≤ 10 := by omega
  have hf1 : f ≤ m + 4 := by omega
  have hf2 : m + 4 ≤ f := by omega
  clear hfr hf
  go_enter Try.func59, Try.ntmps59
  go_wp2_with fail
  refine (l1In_any f 4 10 w).mono ?_
  rintro e w' ⟨rfl, rfl⟩
  rw [Hfr.out]
  go_wp2_with fail
  go_loopw [4, 5] (fun v i wr => ∃ k : Nat, k ≤ m ∧ i = .int .i64 (4 + k) ∧ wr.ownsRow w.heap.size 56 2 v k (cs (star 4 k)) ∧ Below w.heap.size w wr) (fun _ i _ => (f - intOf i).toNat)
  case atStart => exact ⟨0, Nat.zero_le _, by go_num, World.ownsRow_nil _ _ _ _, Below.refl _ _⟩
  case round =>
    obtain ⟨k, hk, rfl, hor, hbel⟩ := hrel
    by_cases hlt : k < m
    · have hsz := hbel.size
      go_wp2_with (at_builtin; refine wpList_append_own _ rfl _ _ 25 rfl w.heap.size 56 i0 (.agg #[.int .i64 0, .int .i64 0]) 2 16 Try.underlying25 hi hz0 hz1 hz2 rfl (by decide) _ _ _ rfl (hor.alloc _) ⟨wr.heap.size, 0, none⟩ 1 1 [.int .i64 0, .int .i64 (4 + k)] rfl rfl ?c1 ?c2 ?c3 ?c4 ?c5 ?_)
      case c1 => exact World.news_of_block (cs := #[.int .i64 0, .int .i64 (4 + k)]) (t := 56) (fr := (0, 0)) (heap_alloc_new _ _)
      case c2 => intro u hu; simp at hu; rcases hu with rfl | rfl <;> rfl
      case c3 => unfold maxLen; omega
      case c4 => omega
      case c5 => simp; omega
      intro v' w1 hown' hgr _
      have Hown := Lib.hid hown'
      have Hbel := Lib.hid ((hbel.alloc hsz _).grown hgr (by simp; omega) (fun b hb => (hor.lt b hb).1))
      clear hown' hgr hor hbel
      go_wp2_with fail
      go_roundw
      case rel => exact ⟨k + 1, by omega, by go_num, by rw [star_succ, cs_append]; exact Hown.out, Hbel.out⟩
      case measure => simp [intOf]; omega
    · obtain rfl : k = m := by omega
      have Hor := Lib.hid hor
      have Hb5 := Lib.hid hbel
      have hsz := hbel.size
      clear hor hbel hlt hk
      go_wp2_with (at_builtin; refine wpList_append_own _ rfl (.tmp 20) (.tmp 25) 25 rfl w.heap.size 56 i0 (.agg #[.int .i64 0, .int .i64 0]) 2 16 Try.underlying25 hi hz0 hz1 hz2 rfl (by decide) _ _ _ rfl (Hor.out.alloc _) ⟨wr.heap.size, 0, none⟩ 4 4 (cs mid4) rfl rfl ?m1 ?m2 ?m3 ?m4 ?m5 ?_)
      case m1 => exact World.news_of_block (cs := #[.int .i64 0, .int .i64 1, .int .i64 2, .int .i64 3, .int .i64 0, .int .i64 2, .int .i64 1, .int .i64 3]) (t := 56) (fr := (0, 0)) (heap_alloc_new _ _)
      case m2 => exact cs_one _
      case m3 => unfold maxLen; omega
      case m4 => omega
      case m5 => simp; omega
      intro v2 w2 own2 gr2 _
      have Hown2 := Lib.hid own2
      have hb2 := (Hb5.out.alloc hsz _).grown gr2 (by simp; omega) (fun b hb => (Hor.out.lt b hb).1)
      have Hb2 := Lib.hid hb2
      clear own2 gr2 hb2
      go_wp2_with fail
      go_loopw [4, 6] (fun v i wr => ∃ j : Nat, j ≤ k ∧ i = .int .i64 (4 + j) ∧ wr.ownsRow w.heap.size 56 2 v (k + 4 + j) (cs (star 4 k ++ mid4 ++ star 4 j)) ∧ Below w.heap.size w wr) (fun _ i _ => (f - intOf i).toNat)
      case atStart => exact ⟨0, Nat.zero_le _, by go_num, by simpa [star, cs, List.flatMap_append] using Hown2.out, Hb2.out⟩
      case round =>
        obtain ⟨j, hj, rfl, hor, hbel⟩ := hrel
        by_cases hlt2 : j < k
        · have hsz := hbel.size
          go_wp2_with (at_builtin; refine wpList_append_own _ rfl _ _ 25 rfl w.heap.size 56 i0 (.agg #[.int .i64 0, .int .i64 0]) 2 16 Try.underlying25 hi hz0 hz1 hz2 rfl (by decide) _ _ _ rfl (hor.alloc _) _ 1 1 [.int .i64 0, .int .i64 (4 + j)] rfl rfl ?d1 ?d2 ?d3 ?d4 ?d5 ?_)
          case d1 => exact World.news_of_block (cs := #[.int .i64 0, .int .i64 (4 + j)]) (t := 56) (fr := (0, 0)) (heap_alloc_new _ _)
          case d2 => intro u hu; simp at hu; rcases hu with rfl | rfl <;> rfl
          case d3 => unfold maxLen; omega
          case d4 => omega
          case d5 => simp; omega
          intro v' w1 hown' hgr _
          have Hown := Lib.hid hown'
          have Hbel := Lib.hid ((hbel.alloc hsz _).grown hgr (by simp; omega) (fun b hb => (hor.lt b hb).1))
          clear hown' hgr hor hbel
          go_wp2_with fail
          go_roundw
          case rel => exact ⟨j + 1, by omega, by go_num, by (have h := Hown.out; simp only [star_succ, cs_append, List.append_assoc] at h ⊢; exact h), Hbel.out⟩
          case measure => simp [intOf]; omega
        · obtain rfl : j = k := by omega
          have Hor2 := Lib.hid hor
          clear hor hlt2 hj
          go_wp2_with fail
          go_ret2
          exact ⟨_, rfl, Hor2.out, hbel⟩

theorem specFour_any (w : World) (f : Int) :
    Calls Try.prog 59 #[.int .i64 f] w fun e w' => ∃ v, e = .returned (.tuple #[v, .bool (fourB f)]) ∧ w'.ownsRow w.heap.size 56 2 v (fourL f).length (cs (fourL f)) ∧ Below w.heap.size w w' := by
  cases hf : fourB f
  · rw [show fourL f = [] by simp [fourL, hf]]
    exact specFour_no w f hf
  · have hff : 4 ≤ f ∧ f ≤ 10 := by simpa [fourB] using hf
    obtain ⟨m, hm⟩ : ∃ m : Nat, f = m + 4 := ⟨(f - 4).toNat, by omega⟩
    have e1 : (f - 4).toNat = m := by omega
    rw [show fourL f = star 4 m ++ mid4 ++ star 4 m by simp [fourL, hf, e1], List.length_append, List.length_append, star_length]
    exact specFour_yes f m w hm (by omega)
end Go.Proofs.Ytjmckdnjghnlbaa
