/- The list of a set of news, in the program. -/
import Derived.Test.YtffnmpmgnaephaaWho
namespace Go.Proofs.Ytffnmpmgnaephaa
open Go.ChangeShapes Go.WideShapes Go.ChangeAt Go.RowKit
set_option linter.unusedVariables false

set_option maxRecDepth 20000 in
theorem list_any (x : Nat) (w : World) (hx : x < 1024) :
    Calls Try.prog 73 #[.int .u16 x] w fun e w' => ∃ v, e = .returned v ∧ w'.ownsRow w.heap.size 3 1 v (pc x) (ns (bl x 10)) ∧ Below w.heap.size w w' := by
  obtain ⟨i0, hi, hz0, hz1, hz2⟩ := info_parts info3
  have hpc : pc x ≤ 10 := by have := bl_le x 10; rw [bl_length] at this; exact this
  go_enter Try.func73, Try.ntmps73
  go_wp2_with fail
  refine (setCount_any x w hx).mono ?_
  rintro e w1 ⟨rfl, hb1⟩
  have hs1 := hb1.size
  go_wp2_with (refine wpList_make_own _ rfl _ _ 38 rfl w.heap.size 3 i0 (.int .i64 0) 1 Try.underlying38 hi hz0 hz1 .i64 .i64 _ (pc x) rfl rfl rfl ?_ ?_ ?_ ?_)
  · rw [hz2]; omega
  · unfold maxLen; omega
  · exact hs1
  intro w2 hown hgr
  have Hown0 := Lib.hid hown
  have Hb2 := Lib.hid (hb1.grown hgr hs1 (fun _ h => by cases h))
  clear hown hgr hb1
  go_wp2_with fail
  go_loopw [3, 8] (fun v i wr => ∃ k : Nat, k ≤ 10 ∧ i = .int .i64 k ∧ wr.ownsRow w.heap.size 3 1 v (bl x k).length (ns (bl x k)) ∧ Below w.heap.size w wr) (fun _ i _ => 10 - (intOf i).toNat)
  case atStart => exact ⟨0, Nat.zero_le _, rfl, Hown0.out, Hb2.out⟩
  case round =>
    obtain ⟨k, hk, rfl, hor, hbel⟩ := hrel
    by_cases hlt : k < 10
    · have hsz := hbel.size
      have hle := bl_le x k
      cases ht : x.testBit k
      · have hor2 := hor
        rw [← bl_no x k ht] at hor2
        have Hor := Lib.hid hor2
        have Ht := Lib.hid ht
        clear hor2 hor ht
        go_wp2_with fail
        refine (has_any x k wr hx hlt).mono ?_
        rintro e w' ⟨rfl, rfl⟩
        rw [Ht.out]
        go_wp2_with fail
        go_roundw
        case rel => exact ⟨k + 1, by omega, by go_num, Hor.out, hbel⟩
        case measure => simp [intOf]; omega
      · have Hyes := Lib.hid (bl_yes x k ht)
        have Ht := Lib.hid ht
        have Hor := Lib.hid hor
        clear ht hor
        go_wp2_with fail
        refine (has_any x k wr hx hlt).mono ?_
        rintro e w' ⟨rfl, rfl⟩
        rw [Ht.out]
        go_wp2_with (at_builtin; refine wpList_append_own _ rfl _ _ 38 rfl w.heap.size 3 i0 (.int .i64 0) 1 8 Try.underlying38 hi hz0 hz1 hz2 rfl (by decide) _ _ _ rfl (Hor.out.alloc _) ⟨wr.heap.size, 0, none⟩ 1 1 [.int .i64 k] rfl rfl ?c1 ?c2 ?c3 ?c4 ?c5 ?_)
        case c1 => exact World.news_of_block (cs := #[.int .i64 k]) (t := 3) (fr := (0, 0)) (heap_alloc_new _ _)
        case c2 => intro u hu; simp at hu; subst hu; rfl
        case c3 => unfold maxLen; omega
        case c4 => omega
        case c5 => simp; omega
        intro v' w6 hown' hgr _
        have Hown := Lib.hid hown'
        have Hbel := Lib.hid ((hbel.alloc hsz _).grown hgr (by simp; omega) (fun b hb => (Hor.out.lt b hb).1))
        clear hown' hgr hbel
        go_wp2_with fail
        go_roundw
        case rel => exact ⟨k + 1, by omega, by go_num, by rw [Hyes.out, ns_append, List.length_append]; exact Hown.out, Hbel.out⟩
        case measure => simp [intOf]; omega
    · obtain rfl : k = 10 := by omega
      rw [bl_length] at hor
      have Hor := Lib.hid hor
      clear hor hlt hk
      go_wp2_with fail
      go_ret
      exact ⟨_, rfl, Hor.out, hbel⟩
end Go.Proofs.Ytffnmpmgnaephaa
