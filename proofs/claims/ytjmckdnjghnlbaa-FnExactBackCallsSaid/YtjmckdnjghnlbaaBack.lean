/- The calls told backwards: the model's appends and the program's stores leave the same list. -/
import Derived.Test.YtjmckdnjghnlbaaPlans
namespace Go.Proofs.Ytjmckdnjghnlbaa
open Go.ChangeShapes Go.WideShapes Go.ChangeAt Go.RowKit

theorem gd_len {f : Int} {l : List (Int × Int)} (h : gdB f l = true) : l.length ≤ 60 := by
  simp only [gdB, Bool.and_eq_true, decide_eq_true_eq] at h
  exact h.1.2

/-- The calls in the other order. -/
def backL (f : Int) (l : List (Int × Int)) : List (Int × Int) := if gdB f l then l.reverse else []
theorem backL_length (f : Int) (l : List (Int × Int)) : (backL f l).length ≤ 60 := by
  unfold backL
  cases h : gdB f l
  · simp
  · have := gd_len h
    simpa using this

theorem rev_step (l : List (Int × Int)) (n k : Nat) (hn : n = l.length) (h : k < n) : l.reverse.take (k + 1) = l.reverse.take k ++ [(ca l (n - 1 - k), cb l (n - 1 - k))] := by
  rw [List.take_succ_eq_append_getElem (by simp; omega), List.getElem_reverse, ca_cb]
  rw [hn]

theorem specBack_no (w : World) (f : Int) (ao : Option Addr) (cap : Nat) (l : List (Int × Int)) (n : Nat) (Hn : Hid (n = l.length)) (hs : n ≤ 1048576) (Hc : CallsAt w ao l) (hg : gdB f l = false) :
    Calls Try.prog 47 #[.int .i64 f, .slice ao n cap] w fun e w' => ∃ v, e = .returned (.tuple #[v, .bool false]) ∧ w'.ownsRow w.heap.size 56 2 v 0 (cs []) ∧ Below w.heap.size w w' := by
  have HHc := Lib.hid Hc
  have Hg := Lib.hid hg
  clear hg Hc
  go_enter Try.func47, Try.ntmps47
  go_wp2_with fail
  refine (caGood_any f ao cap l n w Hn.out (by omega) HHc.out).mono ?_
  rintro e w1 ⟨rfl, hb⟩
  have Hown1 := Lib.hid (World.ownsRow_nil w1 w.heap.size 56 2)
  rw [Hg.out]
  go_wp2_with fail
  go_ret2
  exact ⟨_, rfl, Hown1.out, hb⟩

set_option maxRecDepth 20000 in
theorem specBack_yes (w : World) (f : Int) (b off : Nat) (cap : Nat) (l : List (Int × Int)) (n : Nat) (Hn : Hid (n = l.length)) (h0 : 0 < n) (hs : n ≤ 60)
    (Hc : Hid (∀ i, i < n → w.cell? ⟨b, off + i * 2, none⟩ = some (.int .i64 (ca l i)) ∧ w.cell? ⟨b, off + i * 2 + 1, none⟩ = some (.int .i64 (cb l i)))) (hg : gdB f l = true) :
    Calls Try.prog 47 #[.int .i64 f, .slice (some ⟨b, off, none⟩) n cap] w fun e w' => ∃ v, e = .returned (.tuple #[v, .bool true]) ∧ w'.ownsRow w.heap.size 56 2 v n (cs l.reverse) ∧ Below w.heap.size w w' := by
  obtain ⟨i0, hi, hz0, hz1, hz2⟩ := info_parts info56
  have Hg := Lib.hid hg
  clear hg
  have HA : CallsAt w (some ⟨b, off, none⟩) l := .inr ⟨b, off, rfl, by rw [← Hn.out]; exact Hc.out⟩
  have HHA := Lib.hid HA
  clear HA
  go_enter Try.func47, Try.ntmps47
  go_wp2_with fail
  refine (caGood_any f _ cap l n w Hn.out (by omega) HHA.out).mono ?_
  rintro e w1 ⟨rfl, hb1⟩
  rw [Hg.out]
  have Hb1 := Lib.hid hb1
  clear hb1
  go_wp2_with fail
  go_loopw [6, 7] (fun v i wr => ∃ k : Nat, k ≤ n ∧ i = .int .i64 ((n : Int) - 1 - (k : Int)) ∧ wr.ownsRow w.heap.size 56 2 v k (cs (l.reverse.take k)) ∧ Below w.heap.size w wr) (fun _ i _ => (intOf i + 1).toNat)
  case atStart => exact ⟨0, Nat.zero_le _, by go_num, by simpa [cs] using World.ownsRow_nil w1 w.heap.size 56 2, Hb1.out⟩
  case round =>
    obtain ⟨k, hk, rfl, hor, hbel⟩ := hrel
    by_cases hlt : k < n
    · have hsz := hbel.size
      obtain ⟨j, hj⟩ : ∃ j : Nat, j = n - 1 - k := ⟨_, rfl⟩
      have hjn : j < n := by omega
      have Hstep := Lib.hid (rev_step l n k Hn.out hlt)
      rw [← hj] at Hstep
      have Hj : Hid ((n : Int) - 1 - (k : Int) = (j : Int)) := by show _ = _; omega
      have hz0' := hbel.cell (p := ⟨b, off + j * 2, none⟩) (World.block_lt_of_cell? w _ (Hc.out j hjn).1)
      have hz1' := hbel.cell (p := ⟨b, off + j * 2 + 1, none⟩) (World.block_lt_of_cell? w _ (Hc.out j hjn).2)
      rw [(Hc.out j hjn).1] at hz0'
      rw [(Hc.out j hjn).2] at hz1'
      clear hj
      rw [Hj.out]
      have Hor := Lib.hid hor
      clear hor
      go_wp2_with (at_builtin; refine wpList_append_own _ rfl _ _ 25 rfl w.heap.size 56 i0 (.agg #[.int .i64 0, .int .i64 0]) 2 16 Try.underlying25 hi hz0 hz1 hz2 rfl (by decide) _ _ _ rfl (Hor.out.alloc _) ⟨wr.heap.size, 0, none⟩ 1 1 [.int .i64 (ca l j), .int .i64 (cb l j)] rfl rfl ?c1 ?c2 ?c3 ?c4 ?c5 ?_)
      case c1 => exact World.news_of_block (cs := #[.int .i64 (ca l j), .int .i64 (cb l j)]) (t := 56) (fr := (0, 0)) (heap_alloc_new _ _)
      case c2 => intro u hu; simp at hu; rcases hu with rfl | rfl <;> rfl
      case c3 => unfold maxLen; omega
      case c4 => omega
      case c5 => simp; omega
      intro v' w2 hown' hgr _
      have Hown := Lib.hid hown'
      have Hbel := Lib.hid ((hbel.alloc hsz _).grown hgr (by simp; omega) (fun b hb => (Hor.out.lt b hb).1))
      clear hown' hgr hbel hz0' hz1'
      go_wp2_with fail
      go_roundw
      case rel => exact ⟨k + 1, by omega, by have := Hj.out; go_num, by rw [Hstep.out, cs_append]; exact Hown.out, Hbel.out⟩
      case measure => first | (simp [intOf]; done) | (simp [intOf]; omega)
    · obtain rfl : k = n := by omega
      have e : l.reverse.take k = l.reverse := List.take_of_length_le (by simp [← Hn.out])
      rw [e] at hor
      have Hor := Lib.hid hor
      rw [show (k : Int) - 1 - (k : Int) = -1 by omega]
      clear hor e hlt hk
      go_wp2_with fail
      go_ret2
      exact ⟨_, rfl, Hor.out, hbel⟩

theorem specBack_nil (w : World) (f : Int) (ao : Option Addr) (cap : Nat) (hg : gdB f [] = true) :
    Calls Try.prog 47 #[.int .i64 f, .slice ao 0 cap] w fun e w' => ∃ v, e = .returned (.tuple #[v, .bool true]) ∧ w'.ownsRow w.heap.size 56 2 v 0 (cs []) ∧ Below w.heap.size w w' := by
  have Hg := Lib.hid hg
  clear hg
  go_enter Try.func47, Try.ntmps47
  go_wp2_with fail
  refine (caGood_any f ao cap [] 0 w rfl (by omega) (.inl rfl)).mono ?_
  rintro e w1 ⟨rfl, hb⟩
  have Hown1 := Lib.hid (World.ownsRow_nil w1 w.heap.size 56 2)
  rw [Hg.out]
  go_wp2_with fail
  go_rounds 1
  go_ret2
  exact ⟨_, rfl, Hown1.out, hb⟩

theorem specBack_any (w : World) (f : Int) (ao : Option Addr) (cap : Nat) (l : List (Int × Int)) (n : Nat) (Hn : Hid (n = l.length)) (hs : n ≤ 1048576) (Hc : CallsAt w ao l) :
    Calls Try.prog 47 #[.int .i64 f, .slice ao n cap] w fun e w' => ∃ v, e = .returned (.tuple #[v, .bool (gdB f l)]) ∧ w'.ownsRow w.heap.size 56 2 v (backL f l).length (cs (backL f l)) ∧ Below w.heap.size w w' := by
  cases hg : gdB f l
  · rw [show backL f l = [] by simp [backL, hg]]
    exact specBack_no w f ao cap l n Hn hs Hc hg
  · rw [show backL f l = l.reverse by simp [backL, hg], List.length_reverse, ← Hn.out]
    rcases Hc with rfl | ⟨b, off, rfl, hc⟩
    · obtain rfl : n = 0 := Hn.out
      exact specBack_nil w f ao cap hg
    · by_cases h0 : n = 0
      · subst h0
        have : l = [] := List.eq_nil_of_length_eq_zero Hn.out.symm
        subst this
        exact specBack_nil w f _ cap hg
      · exact specBack_yes w f b off cap l n Hn (by omega) (by rw [Hn.out]; exact gd_len hg) (by rw [Hn.out]; exact hc) hg

def bpart (l : List (Int × Int)) (k : Nat) : List (Int × Int) := List.replicate (l.length - k) (0, 0) ++ (l.take k).reverse
theorem bpart_zero (l : List (Int × Int)) : bpart l 0 = List.replicate l.length (0, 0) := by simp [bpart]
theorem bpart_all (l : List (Int × Int)) : bpart l l.length = l.reverse := by simp [bpart]
theorem bpart_set (l : List (Int × Int)) (n k : Nat) (hn : n = l.length) (h : k < n) : (bpart l k).set (n - 1 - k) (ca l k, cb l k) = bpart l (k + 1) := by
  subst hn
  rw [← ca_cb l k h]
  unfold bpart
  have e : l.length - k = (l.length - 1 - k) + 1 := by omega
  rw [List.set_append_left _ _ (by simp; omega), e, List.replicate_succ']
  rw [List.set_append_right _ _ (by simp)]
  rw [List.take_succ_eq_append_getElem h, List.reverse_append, show l.length - (k + 1) = l.length - 1 - k by omega]
  simp

theorem implBack_no (w : World) (f : Int) (ao : Option Addr) (cap : Nat) (l : List (Int × Int)) (n : Nat) (Hn : Hid (n = l.length)) (hs : n ≤ 1048576) (Hc : CallsAt w ao l) (hg : gdB f l = false) :
    Calls Try.prog 48 #[.int .i64 f, .slice ao n cap] w fun e w' => ∃ v, e = .returned (.tuple #[v, .bool false]) ∧ w'.ownsRow w.heap.size 56 2 v 0 (cs []) ∧ Below w.heap.size w w' := by
  have HHc := Lib.hid Hc
  have Hg := Lib.hid hg
  clear hg Hc
  go_enter Try.func48, Try.ntmps48
  go_wp2_with fail
  refine (areCalls_any f ao cap l n w Hn.out (by omega) HHc.out).mono ?_
  rintro e w1 ⟨rfl, hb⟩
  have Hown1 := Lib.hid (World.ownsRow_nil w1 w.heap.size 56 2)
  rw [Hg.out]
  go_wp2_with fail
  go_ret2
  exact ⟨_, rfl, Hown1.out, hb⟩

set_option maxRecDepth 20000 in
theorem implBack_yes (w : World) (f : Int) (b off : Nat) (cap : Nat) (l : List (Int × Int)) (n : Nat) (Hn : Hid (n = l.length)) (h0 : 0 < n) (hs : n ≤ 60)
    (Hc : Hid (∀ i, i < n → w.cell? ⟨b, off + i * 2, none⟩ = some (.int .i64 (ca l i)) ∧ w.cell? ⟨b, off + i * 2 + 1, none⟩ = some (.int .i64 (cb l i)))) (hg : gdB f l = true) :
    Calls Try.prog 48 #[.int .i64 f, .slice (some ⟨b, off, none⟩) n cap] w fun e w' => ∃ v, e = .returned (.tuple #[v, .bool true]) ∧ w'.ownsRow w.heap.size 56 2 v n (cs l.reverse) ∧ Below w.heap.size w w' := by
  obtain ⟨i0, hi, hz0, hz1, hz2⟩ := info_parts info56
  have Hz := Lib.hid (And.intro hz0 (And.intro hz1 hz2))
  clear hz0 hz1 hz2
  have Hg := Lib.hid hg
  clear hg
  have HA : CallsAt w (some ⟨b, off, none⟩) l := .inr ⟨b, off, rfl, by rw [← Hn.out]; exact Hc.out⟩
  have HHA := Lib.hid HA
  clear HA
  go_enter Try.func48, Try.ntmps48
  go_wp2_with fail
  refine (areCalls_any f _ cap l n w Hn.out (by omega) HHA.out).mono ?_
  rintro e w1 ⟨rfl, hb1⟩
  rw [Hg.out]
  have hs1 := hb1.size
  go_wp2_with (refine wpList_make_full _ rfl _ _ 25 rfl w.heap.size 56 i0 (.agg #[.int .i64 0, .int .i64 0]) 2 Try.underlying25 hi Hz.out.1 Hz.out.2.1 .i64 .i64 _ _ n rfl rfl rfl rfl ?_ ?_ ?_ ?_)
  · rw [Hz.out.2.2]; omega
  · unfold maxLen; omega
  · exact hs1
  intro w2 hown hgr
  rw [zero_cells] at hown
  have Hown0 := Lib.hid hown
  have Hb2 := Lib.hid (hb1.grown hgr hs1 (fun _ h => by cases h))
  obtain ⟨g, hg⟩ : ∃ g, g = w1.heap.size := ⟨_, rfl⟩
  rw [← hg] at hown hs1 Hown0 ⊢
  clear hown hgr hb1 hg
  go_wp2_with fail
  go_loopw [18] (fun i wr => ∃ k : Nat, k ≤ n ∧ i = .int .i64 k ∧ wr.ownsRow w.heap.size 56 2 (.slice (some ⟨g, 0, none⟩) n n) n (cs (bpart l k)) ∧ Below w.heap.size w wr) (fun i _ => n - (intOf i).toNat)
  case atStart => exact ⟨0, Nat.zero_le _, rfl, by rw [bpart_zero, ← Hn.out]; exact Hown0.out, Hb2.out⟩
  case round =>
    obtain ⟨k, hk, rfl, hor, hbel⟩ := hrel
    by_cases hlt : k < n
    · have h0 := hbel.cell (p := ⟨b, off + k * 2, none⟩) (World.block_lt_of_cell? w _ (Hc.out k hlt).1)
      have h1 := hbel.cell (p := ⟨b, off + k * 2 + 1, none⟩) (World.block_lt_of_cell? w _ (Hc.out k hlt).2)
      rw [(Hc.out k hlt).1] at h0
      rw [(Hc.out k hlt).2] at h1
      have hjn : n - 1 - k < n := by omega
      have hgs := (hor.lt _ rfl).2
      obtain ⟨u0, z0⟩ := own_some hor ((n - 1 - k) * 2) (by omega)
      obtain ⟨u1, z1⟩ := own_some hor ((n - 1 - k) * 2 + 1) (by omega)
      have zf0 := hor.frozenAt ((n - 1 - k) * 2)
      have zf1 := hor.frozenAt ((n - 1 - k) * 2 + 1)
      have hor3 := own_set2 hor (n - 1 - k) (ca l k) (cb l k)
      rw [bpart_set l n k Hn.out hlt] at hor3
      have Hor3 := Lib.hid hor3
      have hsz := hbel.size
      clear hor3 hor
      have hb3 := (hbel.setCell (p := ⟨g, (n - 1 - k) * 2, none⟩) hs1 (.int .i64 (ca l k))).setCell (p := ⟨g, (n - 1 - k) * 2 + 1, none⟩) hs1 (.int .i64 (cb l k))
      go_wp2_with fail
      go_roundw
      case rel => exact ⟨k + 1, by omega, by go_num, Hor3.out.alloc _, hb3.alloc (by simp; omega) _⟩
      case measure => simp [intOf]; omega
    · obtain rfl : k = n := by omega
      have e : bpart l k = l.reverse := by rw [Hn.out, bpart_all]
      rw [e] at hor
      have Hor := Lib.hid hor
      clear hor e hlt hk
      go_wp2_with fail
      go_ret2
      exact ⟨_, rfl, Hor.out, hbel⟩

theorem implBack_nil (w : World) (f : Int) (ao : Option Addr) (cap : Nat) (hg : gdB f [] = true) :
    Calls Try.prog 48 #[.int .i64 f, .slice ao 0 cap] w fun e w' => ∃ v, e = .returned (.tuple #[v, .bool true]) ∧ w'.ownsRow w.heap.size 56 2 v 0 (cs []) ∧ Below w.heap.size w w' := by
  obtain ⟨i0, hi, hz0, hz1, hz2⟩ := info_parts info56
  have Hz := Lib.hid (And.intro hz0 (And.intro hz1 hz2))
  clear hz0 hz1 hz2
  have Hg := Lib.hid hg
  clear hg
  go_enter Try.func48, Try.ntmps48
  go_wp2_with fail
  refine (areCalls_any f ao cap [] 0 w rfl (by omega) (.inl rfl)).mono ?_
  rintro e w1 ⟨rfl, hb⟩
  rw [Hg.out]
  have hs1 := hb.size
  go_wp2_with (refine wpList_make_full _ rfl _ _ 25 rfl w.heap.size 56 i0 (.agg #[.int .i64 0, .int .i64 0]) 2 Try.underlying25 hi Hz.out.1 Hz.out.2.1 .i64 .i64 _ _ 0 rfl rfl rfl rfl ?_ ?_ ?_ ?_)
  · omega
  · unfold maxLen; omega
  · exact hs1
  intro w2 hown hgr
  have zc := zero_cells 0
  rw [Nat.zero_mul] at zc
  rw [zc] at hown
  have Hown := Lib.hid hown
  have Hbel := Lib.hid (hb.grown hgr hs1 (fun _ h => by cases h))
  clear hown hgr zc
  go_wp2_with fail
  go_rounds 1
  go_ret2
  exact ⟨_, rfl, Hown.out, Hbel.out⟩

theorem implBack_any (w : World) (f : Int) (ao : Option Addr) (cap : Nat) (l : List (Int × Int)) (n : Nat) (Hn : Hid (n = l.length)) (hs : n ≤ 1048576) (Hc : CallsAt w ao l) :
    Calls Try.prog 48 #[.int .i64 f, .slice ao n cap] w fun e w' => ∃ v, e = .returned (.tuple #[v, .bool (gdB f l)]) ∧ w'.ownsRow w.heap.size 56 2 v (backL f l).length (cs (backL f l)) ∧ Below w.heap.size w w' := by
  cases hg : gdB f l
  · rw [show backL f l = [] by simp [backL, hg]]
    exact implBack_no w f ao cap l n Hn hs Hc hg
  · rw [show backL f l = l.reverse by simp [backL, hg], List.length_reverse, ← Hn.out]
    rcases Hc with rfl | ⟨b, off, rfl, hc⟩
    · obtain rfl : n = 0 := Hn.out
      exact implBack_nil w f ao cap hg
    · by_cases h0 : n = 0
      · subst h0
        have : l = [] := List.eq_nil_of_length_eq_zero Hn.out.symm
        subst this
        exact implBack_nil w f _ cap hg
      · exact implBack_yes w f b off cap l n Hn (by omega) (by rw [Hn.out]; exact gd_len hg) (by rw [Hn.out]; exact hc) hg
end Go.Proofs.Ytjmckdnjghnlbaa
