/- Two groupings: the model and the program; labels as lists: the model. -/
import Derived.Test.YtcedacneagpjcaaLbS
import Derived.Test.YtcedacneagpjcaaLbI
namespace Go.Proofs.Ytcedacneagpjcaa
open Go.ChangeShapes Go.WideShapes Go.ChangeAt Go.RowKit
set_option linter.unusedVariables false


/-- Two groupings of as many wires. -/
def twB (l m : List Int) : Bool := grB l && (grB m && decide (l.length = m.length))

/-- The labels of the first k wires, as lists. -/
def llTo (l m : List Int) (k : Nat) : List (List Int) := (List.range k).map fun i => [((sz l i : Nat) : Int), ((sz m i : Nat) : Int)]

theorem llTo_succ (l m : List Int) (k : Nat) : llTo l m (k + 1) = llTo l m k ++ [[((sz l k : Nat) : Int), ((sz m k : Nat) : Int)]] := by simp [llTo, List.range_succ]

theorem llTo_length (l m : List Int) (k : Nat) : (llTo l m k).length = k := by simp [llTo]

theorem llTo_row (l m : List Int) (k i : Nat) : (row (llTo l m k) i).length ≤ 2 := by
  unfold row llTo
  rw [List.getD_eq_getElem?_getD]
  by_cases h : i < k
  · simp [h]
  · rw [List.getElem?_eq_none (by simp; omega)]; simp

/-- What is so where a list of two numbers has been made, and its slice laid down. -/
structure Pair2 (w0 : World) (base : Nat) (v : Value) (X : List Value) (L : List (List Int)) (x y : Int) (w2 : World) : Prop where
  own : OwnSS w2 base v X L
  new : w2.ownsRow base 3 1 (.slice (some ⟨w0.heap.size, 0, none⟩) 2 2) [x, y].length (ns [x, y])
  hv : ∀ b, (Value.slice (some ⟨w0.heap.size, 0, none⟩) 2 2).ownBlock = some b → v.ownBlock ≠ some b
  hX : ∀ (i : Nat) (u : Value) (b : Nat), X[i]? = some u → u.ownBlock = some b → (Value.slice (some ⟨w0.heap.size, 0, none⟩) 2 2).ownBlock ≠ some b
  cell : w2.cell? ⟨w0.heap.size + 1, 0, none⟩ = some (.slice (some ⟨w0.heap.size, 0, none⟩) 2 2)
  size : base ≤ w2.heap.size

theorem pair2 {w0 : World} {base : Nat} {v : Value} {X : List Value} {L : List (List Int)} (h : OwnSS w0 base v X L) (hb : base ≤ w0.heap.size) (x y : Int) :
    Pair2 w0 base v X L x y ((w0.alloc (.cells #[.int .i64 x, .int .i64 y] 3)).alloc (.cells #[.slice (some ⟨w0.heap.size, 0, none⟩) 2 2] 22)) := by
  have h1 := (World.ownsRow_lit (base := base) (e := 3) (size := 1) w0 #[.int .i64 x, .int .i64 y] 2 hb (by unfold maxLen; omega) rfl)
  have hs1 : (w0.alloc (.cells #[.int .i64 x, .int .i64 y] 3)).heap.size = w0.heap.size + 1 := by simp
  have bd := (Below.refl (w0.alloc (.cells #[.int .i64 x, .int .i64 y] 3)).heap.size (w0.alloc (.cells #[.int .i64 x, .int .i64 y] 3))).alloc (Nat.le_refl _) (.cells #[.slice (some ⟨w0.heap.size, 0, none⟩) 2 2] 22)
  refine ⟨(h.alloc _).alloc _, own_later h1 bd, fun b e hb2 => ?_, fun i u b hu hb2 e => ?_, ?_, by simp; omega⟩
  · have e2 : w0.heap.size = b := by simpa [Value.ownBlock] using e
    have := (h.1.lt b hb2).2; omega
  · have e2 : w0.heap.size = b := by simpa [Value.ownBlock] using e
    have hi := (List.getElem?_eq_some_iff.1 hu).1
    have := ((h.2.2.1 i u _ hu (List.getElem?_eq_getElem (by rw [← h.2.1]; exact hi))).1.lt b hb2).2
    omega
  · have := heap_alloc_new (w0.alloc (.cells #[.int .i64 x, .int .i64 y] 3)) (.cells #[.slice (some ⟨w0.heap.size, 0, none⟩) 2 2] 22)
    rw [hs1] at this
    rw [cell_of_row _ _ _ _ _ _ this]; rfl

theorem cbTwo_any (w : World) (ao : Option Addr) (ka : Nat) (l : List Int) (n : Nat) (Hn : Hid (n = l.length)) (hn : n ≤ 1048576) (Ha : NumsAt w ao l) (bo : Option Addr) (kb : Nat) (m : List Int) (k : Nat) (Hk : Hid (k = m.length)) (hk : k ≤ 1048576) (Hb : NumsAt w bo m) :
    Calls Try.prog 31 #[.slice ao n ka, .slice bo k kb] w fun e w' => e = .returned (.bool (twB l m)) ∧ w = w' := by
  cases hg : grB l
  · have hB : twB l m = false := by simp [twB, hg]
    rw [hB]
    have Hg := Lib.hid hg
    clear hg hB
    go_enter Try.func31, Try.ntmps31
    go_wp2_with fail
    refine (cbGood_any ao ka l n w Hn hn Ha).mono ?_
    rintro e w' ⟨rfl, rfl⟩
    rw [Hg.out]
    go_wp2_with fail
    go_ret
    exact ⟨rfl, rfl⟩
  · cases hg2 : grB m
    · have hB : twB l m = false := by simp [twB, hg2]
      rw [hB]
      have Hg := Lib.hid hg
      have Hg2 := Lib.hid hg2
      clear hg hB hg2
      go_enter Try.func31, Try.ntmps31
      go_wp2_with fail
      refine (cbGood_any ao ka l n w Hn hn Ha).mono ?_
      rintro e w' ⟨rfl, rfl⟩
      rw [Hg.out]
      go_wp2_with fail
      refine (cbGood_any bo kb m k w Hk hk Hb).mono ?_
      rintro e w' ⟨rfl, rfl⟩
      rw [Hg2.out]
      go_wp2_with fail
      go_ret
      exact ⟨rfl, rfl⟩
    · have hB : twB l m = ((n : Int) == (k : Int)) := by
        simp only [twB, hg, hg2, Bool.true_and, ← Hn.out, ← Hk.out]
        rw [Bool.eq_iff_iff]; simp; omega
      rw [hB]
      have Hg := Lib.hid hg
      have Hg2 := Lib.hid hg2
      clear hg hB hg2
      go_enter Try.func31, Try.ntmps31
      go_wp2_with fail
      refine (cbGood_any ao ka l n w Hn hn Ha).mono ?_
      rintro e w' ⟨rfl, rfl⟩
      rw [Hg.out]
      go_wp2_with fail
      refine (cbGood_any bo kb m k w Hk hk Hb).mono ?_
      rintro e w' ⟨rfl, rfl⟩
      rw [Hg2.out]
      go_wp2_with fail
      go_ret
      exact ⟨by first | rfl | (simp; done), rfl⟩

theorem areGroupings_any (w : World) (ao : Option Addr) (ka : Nat) (l : List Int) (n : Nat) (Hn : Hid (n = l.length)) (hn : n ≤ 1048576) (Ha : NumsAt w ao l) (bo : Option Addr) (kb : Nat) (m : List Int) (k : Nat) (Hk : Hid (k = m.length)) (hk : k ≤ 1048576) (Hb : NumsAt w bo m) :
    Calls Try.prog 33 #[.slice ao n ka, .slice bo k kb] w fun e w' => e = .returned (.bool (twB l m)) ∧ w = w' := by
  cases hg : grB l
  · have hB : twB l m = false := by simp [twB, hg]
    rw [hB]
    have Hg := Lib.hid hg
    clear hg hB
    go_enter Try.func33, Try.ntmps33
    go_wp2_with fail
    refine (isGr_any ao ka l n w Hn hn Ha).mono ?_
    rintro e w' ⟨rfl, rfl⟩
    rw [Hg.out]
    go_wp2_with fail
    go_ret
    exact ⟨rfl, rfl⟩
  · cases hg2 : grB m
    · have hB : twB l m = false := by simp [twB, hg2]
      rw [hB]
      have Hg := Lib.hid hg
      have Hg2 := Lib.hid hg2
      clear hg hB hg2
      go_enter Try.func33, Try.ntmps33
      go_wp2_with fail
      refine (isGr_any ao ka l n w Hn hn Ha).mono ?_
      rintro e w' ⟨rfl, rfl⟩
      rw [Hg.out]
      go_wp2_with fail
      refine (isGr_any bo kb m k w Hk hk Hb).mono ?_
      rintro e w' ⟨rfl, rfl⟩
      rw [Hg2.out]
      go_wp2_with fail
      go_ret
      exact ⟨rfl, rfl⟩
    · have hB : twB l m = ((n : Int) == (k : Int)) := by
        simp only [twB, hg, hg2, Bool.true_and, ← Hn.out, ← Hk.out]
        rw [Bool.eq_iff_iff]; simp; omega
      rw [hB]
      have Hg := Lib.hid hg
      have Hg2 := Lib.hid hg2
      clear hg hB hg2
      go_enter Try.func33, Try.ntmps33
      go_wp2_with fail
      refine (isGr_any ao ka l n w Hn hn Ha).mono ?_
      rintro e w' ⟨rfl, rfl⟩
      rw [Hg.out]
      go_wp2_with fail
      refine (isGr_any bo kb m k w Hk hk Hb).mono ?_
      rintro e w' ⟨rfl, rfl⟩
      rw [Hg2.out]
      go_wp2_with fail
      go_ret
      exact ⟨by first | rfl | (simp; done), rfl⟩

set_option maxHeartbeats 1600000 in
set_option maxRecDepth 20000 in
theorem cbLabels_pos (w : World) (b off ka b' off' kb : Nat) (l m : List Int) (n : Nat) (Hn : Hid (n = l.length)) (Hm : Hid (n = m.length)) (Hg : Hid (grB l = true)) (Hg2 : Hid (grB m = true))
    (Hc : Hid (∀ i, i < n → w.cell? ⟨b, off + i, none⟩ = some (.int .i64 (na l i)))) (Hd : Hid (∀ i, i < n → w.cell? ⟨b', off' + i, none⟩ = some (.int .i64 (na m i)))) :
    Calls Try.prog 55 #[.slice (some ⟨b, off, none⟩) n ka, .slice (some ⟨b', off', none⟩) n kb] w fun e w' => ∃ v X, e = .returned v ∧ OwnSS w' w.heap.size v X (llTo l m n) ∧ Below w.heap.size w w' := by
  obtain ⟨i22, hi22, hz220, hz221, hz222⟩ := info_parts info22
  have hlen := grB_len Hg.out
  have hn12 : n ≤ 12 := by have := Hn.out; omega
  clear hlen
  go_enter Try.func55, Try.ntmps55
  go_wp2_with fail
  go_loopw [5, 9] (fun v i wr => ∃ (k : Nat) (X : List Value), k ≤ n ∧ i = .int .i64 k ∧ OwnSS wr w.heap.size v X (llTo l m k) ∧ Below w.heap.size w wr) (fun _ i _ => n - (intOf i).toNat)
  case atStart => exact ⟨0, [], Nat.zero_le _, rfl, OwnSS.nil _ _, Below.refl _ _⟩
  case round =>
    obtain ⟨k, X, hk, rfl, hor, hbel⟩ := hrel
    by_cases hlt : k < n
    · have hsz := hbel.size
      obtain ⟨ao, cap, rfl, _⟩ := hor.reads
      rw [llTo_length] at hor ⊢
      have Hor := Lib.hid hor
      have Hbel := Lib.hid hbel
      have HLk : Hid ((llTo l m k).length = k) := llTo_length l m k
      clear hor hbel
      go_wp2_with fail
      refine (cbSize_pos b off ka l n k wr Hn Hg hlt (fun i hi => cell_old Hbel.out (Hc.out i hi))).mono ?_
      rintro e w3 ⟨rfl, hb3⟩
      have Hb3 := Lib.hid (Hbel.out.trans (hb3.mono hsz))
      have Hor3 := Lib.hid (Hor.out.later hb3)
      clear hb3
      go_wp2_with fail
      refine (cbSize_pos b' off' kb m n k w3 Hm Hg2 hlt (fun i hi => cell_old Hb3.out (Hd.out i hi))).mono ?_
      rintro e w4 ⟨rfl, hb4⟩
      have Hb4 := Lib.hid (Hb3.out.trans (hb4.mono Hb3.out.size))
      have Hor4 := Lib.hid (Hor3.out.later hb4)
      have hs4 := Hb4.out.size
      have Hnx := Lib.hid (llTo_succ l m k)
      clear hb4 Hor Hor3
      obtain ⟨x, hx⟩ : ∃ x, ((sz l k : Nat) : Int) = x := ⟨_, rfl⟩
      obtain ⟨y, hy⟩ : ∃ x, ((sz m k : Nat) : Int) = x := ⟨_, rfl⟩
      rw [hx, hy] at Hnx
      rw [hx, hy]
      have HP := Lib.hid (pair2 Hor4.out hs4 x y)
      have Hb5 := Lib.hid ((Hb4.out.alloc hs4 (.cells #[.int .i64 x, .int .i64 y] 3)).alloc (by simp; omega) (.cells #[.slice (some ⟨w4.heap.size, 0, none⟩) 2 2] 22))
      have hs5 : ((w4.alloc (.cells #[.int .i64 x, .int .i64 y] 3)).alloc (.cells #[.slice (some ⟨w4.heap.size, 0, none⟩) 2 2] 22)).heap.size = w4.heap.size + 2 := by simp
      clear hx hy
      go_wp2_with (at_builtin; refine push_row _ rfl _ _ 39 rfl w.heap.size i22 Try.underlying39 hi22 hz220 hz221 hz222 _ X (llTo l m k) k HLk.out rfl HP.out.own (by omega) (.slice (some ⟨w4.heap.size, 0, none⟩) 2 2) [x, y] HP.out.new HP.out.hv HP.out.hX 1 (w4.heap.size + 1) rfl HP.out.cell rfl HP.out.size ?_)
      intro v6 w6 own6 hgr6 hat6
      rw [← Hnx.out] at own6
      have Ho6 := Lib.hid own6
      have Hb6 := Lib.hid (Hb5.out.grown hgr6 (by rw [hs5]; omega) (fun bb hb => (HP.out.own.1.lt bb hb).1))
      clear own6 hgr6 hat6 Hb5
      go_wp2_with fail
      go_roundw
      case rel => exact ⟨k + 1, _, by omega, by go_num, Ho6.out, Hb6.out⟩
      case measure => simp [intOf]; omega
    · obtain rfl : k = n := by omega
      have Hor := Lib.hid hor
      clear hor
      go_wp2_with fail
      go_ret
      exact ⟨_, X, rfl, Hor.out, hbel⟩

end Go.Proofs.Ytcedacneagpjcaa
