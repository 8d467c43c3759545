/- The letters told backwards: the model. -/
import Derived.Test.YtolkfgjgnpjpkaaRing
import Derived.Test.YtolkfgjgnpjpkaaLetters
namespace Go.Proofs.Ytolkfgjgnpjpkaa
open Go.ChangeShapes Go.WideShapes Go.ChangeAt Go.RowKit


/-- The letters turned around. -/
def swp (l : List (Int × Int)) : List (Int × Int) := l.map fun p => (p.2, p.1)
theorem swp_length (l : List (Int × Int)) : (swp l).length = l.length := by simp [swp]
theorem rev_step (l : List (Int × Int)) (n k : Nat) (hn : n = l.length) (h : k < n) : (swp l).reverse.take (k + 1) = (swp l).reverse.take k ++ [(cb l (n - 1 - k), ca l (n - 1 - k))] := by
  rw [List.take_succ_eq_append_getElem (by simp [swp_length]; omega), List.getElem_reverse]
  have e : (swp l).length - 1 - k = n - 1 - k := by rw [swp_length, hn]
  have h2 : n - 1 - k < l.length := by omega
  have e2 : (swp l)[(swp l).length - 1 - k]'(by simp [swp_length]; omega) = (cb l (n - 1 - k), ca l (n - 1 - k)) := by
    simp only [swp, List.getElem_map, List.length_map]
    have := ca_cb l (n - 1 - k) h2
    simp only [hn] at this ⊢
    rw [this]
  rw [e2]

def backL (f : Int) (l : List (Int × Int)) : List (Int × Int) := if gdL f l then (swp l).reverse else []
theorem backL_length (f : Int) (l : List (Int × Int)) : (backL f l).length ≤ 60 := by
  unfold backL
  cases h : gdL f l
  · simp
  · have := gl_len2 h
    simpa [swp_length] using this

theorem specBackL_no (w : World) (f : Int) (ao : Option Addr) (cap : Nat) (l : List (Int × Int)) (n : Nat) (Hn : Hid (n = l.length)) (hs : n ≤ 1048576) (Hc : CallsAt w ao l) (hg : gdL f l = false) :
    Calls Try.prog 47 #[.int .i64 f, .slice ao n cap] w fun e w' => ∃ v, e = .returned (.tuple #[v, .bool false]) ∧ w'.ownsRow w.heap.size 62 2 v 0 (cs []) ∧ Below w.heap.size w w' := by
  have HHc := Lib.hid Hc
  have Hg := Lib.hid hg
  clear hg Hc
  go_enter Try.func47, Try.ntmps47
  go_wp2_with fail
  refine (leGood_any f ao cap l n w Hn.out (by omega) HHc.out).mono ?_
  rintro e w1 ⟨rfl, hb⟩
  have Hown1 := Lib.hid (World.ownsRow_nil w1 w.heap.size 62 2)
  rw [Hg.out]
  go_wp2_with fail
  go_ret2
  exact ⟨_, rfl, Hown1.out, hb⟩

set_option maxRecDepth 20000 in
theorem specBackL_yes (w : World) (f : Int) (b off : Nat) (cap : Nat) (l : List (Int × Int)) (n : Nat) (Hn : Hid (n = l.length)) (h0 : 0 < n) (hs : n ≤ 60)
    (Hc : Hid (∀ i, i < n → w.cell? ⟨b, off + i * 2, none⟩ = some (.int .i64 (ca l i)) ∧ w.cell? ⟨b, off + i * 2 + 1, none⟩ = some (.int .i64 (cb l i)))) (hg : gdL f l = true) :
    Calls Try.prog 47 #[.int .i64 f, .slice (some ⟨b, off, none⟩) n cap] w fun e w' => ∃ v, e = .returned (.tuple #[v, .bool true]) ∧ w'.ownsRow w.heap.size 62 2 v n (cs (swp l).reverse) ∧ Below w.heap.size w w' := by
  obtain ⟨i0, hi, hz0, hz1, hz2⟩ := info_parts info62
  have Hg := Lib.hid hg
  clear hg
  have HA : CallsAt w (some ⟨b, off, none⟩) l := .inr ⟨b, off, rfl, by rw [← Hn.out]; exact Hc.out⟩
  have HHA := Lib.hid HA
  clear HA
  go_enter Try.func47, Try.ntmps47
  go_wp2_with fail
  refine (leGood_any f _ cap l n w Hn.out (by omega) HHA.out).mono ?_
  rintro e w1 ⟨rfl, hb1⟩
  rw [Hg.out]
  have Hb1 := Lib.hid hb1
  clear hb1
  go_wp2_with fail
  go_loopw [6, 7] (fun v i wr => ∃ k : Nat, k ≤ n ∧ i = .int .i64 ((n : Int) - 1 - (k : Int)) ∧ wr.ownsRow w.heap.size 62 2 v k (cs ((swp l).reverse.take k)) ∧ Below w.heap.size w wr) (fun _ i _ => (intOf i + 1).toNat)
  case atStart => exact ⟨0, Nat.zero_le _, by go_num, by simpa [cs] using World.ownsRow_nil w1 w.heap.size 62 2, Hb1.out⟩
  case round =>
    obtain ⟨k, hk, rfl, hor, hbel⟩ := hrel
    by_cases hlt : k < n
    · have hsz := hbel.size
      obtain ⟨j, hj⟩ : ∃ j : Nat, j = n - 1 - k := ⟨_, rfl⟩
      have hjn : j < n := by omega
      have Hstep := Lib.hid (rev_step l n k Hn.out hlt)
      rw [← hj] at Hstep
      have Hj : Hid ((n : Int) - 1 - (k : Int) = (j : Int)) := by show _ = _; omega
      have hz0' := hbel.cell (p := ⟨b, off + j * 2, none⟩) (World.block_lt_of_cell? w _ (Hc.out j hjn).1)
      have hz1' := hbel.cell (p := ⟨b, off + j * 2 + 1, none⟩) (World.block_lt_of_cell? w _ (Hc.out j hjn).2)
      rw [(Hc.out j hjn).1] at hz0'
      rw [(Hc.out j hjn).2] at hz1'
      clear hj
      rw [Hj.out]
      have Hor := Lib.hid hor
      clear hor
      have HNEW : Hid (∀ j' u, [Value.int .i64 (cb l j), .int .i64 (ca l j)][j']? = some u → (wr.alloc (.cells #[.int .i64 (cb l j), .int .i64 (ca l j)] 62)).drew.cell? ((⟨wr.heap.size, 0, none⟩ : Addr).add j') = some u) := World.news_of_block (cs := #[.int .i64 (cb l j), .int .i64 (ca l j)]) (t := 62) (fr := (0, 0)) (heap_alloc_new _ _)
      have HONE : Hid (∀ u ∈ [Value.int .i64 (cb l j), .int .i64 (ca l j)], u.oneCell' = true) := by intro u hu; simp at hu; rcases hu with rfl | rfl <;> rfl
      have HB0 : Hid (∀ o, Below w.heap.size w (wr.alloc o).drew) := fun o => (hbel.alloc hsz _).drew
      have HO0 : Hid ((wr.alloc (.cells #[.int .i64 (cb l j), .int .i64 (ca l j)] 62)).drew.ownsRow w.heap.size 62 2 u6 k (cs ((swp l).reverse.take k))) := (Hor.out.alloc _).drew
      have hj0 : (0 : Int) ≤ (j : Int) := by omega
      have hj1 : (j : Int) < (n : Int) := by omega
      go_wp2_with fail
      go_region_held3 (fun w' => w'.cell? ⟨b, off + j * 2, none⟩ = some (.int .i64 (ca l j)) ∧ w'.cell? ⟨b, off + j * 2 + 1, none⟩ = some (.int .i64 (cb l j)))
        (first | exact ⟨hz0', hz1'⟩ | assumption | go_keep)
        (first
          | (refine step_append_mine _ (by rfl) _ _ _ (by rfl) w.heap.size 62 i0 _ 2 16 Try.underlying25 hi hz0 hz1 hz2 rfl (by omega) _ k (cs ((swp l).reverse.take k)) (by rfl) HO0.out ⟨wr.heap.size, 0, none⟩ 1 _ [.int .i64 (cb l j), .int .i64 (ca l j)] (by rfl) (by rfl) HNEW.out HONE.out (by unfold maxLen; omega) (by omega) (by simp; omega) ?_
             intro v1 w1 own1 gr1
             have hb1 : Below w.heap.size w w1 := (HB0.out _).grown gr1 (by simp; omega) (fun b hb => (Hor.out.lt b hb).1)
             have k0 := (hb1.cell (p := ⟨b, off + j * 2, none⟩) (World.block_lt_of_cell? w _ (Hc.out j hjn).1)).trans (Hc.out j hjn).1
             have k1 := (hb1.cell (p := ⟨b, off + j * 2 + 1, none⟩) (World.block_lt_of_cell? w _ (Hc.out j hjn).2)).trans (Hc.out j hjn).2)
          | fail)
      have Hown := Lib.hid own1
      have Hbel := Lib.hid hb1
      clear own1 hb1 hbel
      go_wp2_with fail
      go_roundw
      case rel => exact ⟨k + 1, by omega, by have := Hj.out; go_num, by rw [Hstep.out, cs_append]; exact Hown.out, Hbel.out⟩
      case measure => first | (simp [intOf]; done) | (simp [intOf]; omega)
    · obtain rfl : k = n := by omega
      have e : (swp l).reverse.take k = (swp l).reverse := List.take_of_length_le (by simp [swp_length, ← Hn.out])
      rw [e] at hor
      have Hor := Lib.hid hor
      rw [show (k : Int) - 1 - (k : Int) = -1 by omega]
      clear hor e hlt hk
      go_wp2_with fail
      go_ret2
      exact ⟨_, rfl, Hor.out, hbel⟩

theorem specBackL_nil (w : World) (f : Int) (ao : Option Addr) (cap : Nat) (hg : gdL f [] = true) :
    Calls Try.prog 47 #[.int .i64 f, .slice ao 0 cap] w fun e w' => ∃ v, e = .returned (.tuple #[v, .bool true]) ∧ w'.ownsRow w.heap.size 62 2 v 0 (cs []) ∧ Below w.heap.size w w' := by
  have Hg := Lib.hid hg
  clear hg
  go_enter Try.func47, Try.ntmps47
  go_wp2_with fail
  refine (leGood_any f ao cap [] 0 w rfl (by omega) (.inl rfl)).mono ?_
  rintro e w1 ⟨rfl, hb⟩
  have Hown1 := Lib.hid (World.ownsRow_nil w1 w.heap.size 62 2)
  rw [Hg.out]
  go_wp2_with fail
  go_rounds 1
  go_ret2
  exact ⟨_, rfl, Hown1.out, hb⟩

theorem specBackL_any (w : World) (f : Int) (ao : Option Addr) (cap : Nat) (l : List (Int × Int)) (n : Nat) (Hn : Hid (n = l.length)) (hs : n ≤ 1048576) (Hc : CallsAt w ao l) :
    Calls Try.prog 47 #[.int .i64 f, .slice ao n cap] w fun e w' => ∃ v, e = .returned (.tuple #[v, .bool (gdL f l)]) ∧ w'.ownsRow w.heap.size 62 2 v (backL f l).length (cs (backL f l)) ∧ Below w.heap.size w w' := by
  cases hg : gdL f l
  · rw [show backL f l = [] by simp [backL, hg]]
    exact specBackL_no w f ao cap l n Hn hs Hc hg
  · rw [show backL f l = (swp l).reverse by simp [backL, hg], List.length_reverse, swp_length, ← Hn.out]
    rcases Hc with rfl | ⟨b, off, rfl, hc⟩
    · obtain rfl : n = 0 := Hn.out
      exact specBackL_nil w f ao cap hg
    · by_cases h0 : n = 0
      · subst h0
        have : l = [] := List.eq_nil_of_length_eq_zero Hn.out.symm
        subst this
        exact specBackL_nil w f _ cap hg
      · exact specBackL_yes w f b off cap l n Hn (by omega) (by rw [Hn.out]; exact gl_len2 hg) (by rw [Hn.out]; exact hc) hg
end Go.Proofs.Ytolkfgjgnpjpkaa
