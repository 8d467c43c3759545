/- InOrder, both sides. -/
import Derived.Test.YtghfkgbmmkcjhaaDeoA
namespace Go.Proofs.Ytghfkgbmmkcjhaa
open Go.ChangeShapes Go.WideShapes Go.ChangeAt Go.RowKit
set_option linter.unusedVariables false


def ioR (d P : Int) (l : List Snd) : List Snd := if arsB d P l then ordS l else []
theorem ioR_len (d P : Int) (l : List Snd) : (ioR d P l).length ≤ 40 := by
  unfold ioR
  cases h : arsB d P l
  · simp
  · rw [if_pos rfl, ordS_length]
    exact (ars_parts h).2.2.1
set_option maxHeartbeats 1600000 in
set_option maxRecDepth 20000 in
theorem implIO_any (w : World) (d P : Int) (ao : Option Addr) (cap : Nat) (l : List Snd) (n : Nat) (Hn : Hid (n = l.length)) (hn : n ≤ 1048576) (hcap : n ≤ cap) (hc : SendsAt w ao l) :
    Calls Try.prog 49 #[.int .i64 d, .int .i64 P, .slice ao n cap] w fun e w' => ∃ v, e = .returned (.tuple #[v, .bool (arsB d P l)]) ∧ w'.ownsRow w.heap.size 52 3 v (ioR d P l).length (ss (ioR d P l)) ∧ Below w.heap.size w w' := by
  have HX := Lib.hid (aof_any w d P ao cap l n Hn hn hcap hc)
  have HC := Lib.hid hc
  clear hc
  cases hA : arsB d P l
  · have hR : ioR d P l = [] := by unfold ioR; rw [hA]; rfl
    rw [hR]
    rw [hA] at HX
    clear hA hR
    go_enter Try.func49, Try.ntmps49
    go_wp2_with fail
    refine HX.out.mono ?_
    rintro e w1 ⟨F, rfl, _, hb1⟩
    go_wp2_with (refine wpList_store_row rfl 57 (.tmp 8) (.tmp 15) rfl w1.heap.size (AA F) ?_ ?_ 57 _ (heap_alloc_new w1 _) ?_ ?_ ?_ ?_)
    try any_goals first | exact AA_one _ | exact infoA2 | (rw [infoA, AA_size]; done) | (rw [AA_size]; rfl) | rfl
    go_ret2
    exact ⟨.slice none 0 0, rfl, World.ownsRow_nil _ _ _ _, below_setRow (hb1.alloc hb1.size _) hb1.size _⟩
  · obtain ⟨_, _, h40, hv, _⟩ := ars_parts hA
    have hR : ioR d P l = ordS l := by unfold ioR; rw [hA]; rfl
    have hl : (ioR d P l).length = n := by rw [hR, ordS_length, Hn.out]
    have hn40 : n ≤ 1000 := by rw [Hn.out]; omega
    have HO := Lib.hid (fun u hu => inOrder_any u ao cap l n P hv Hn hn40 (Lib.hid (HC.out.kept hu)))
    rw [hl, hR]
    rw [hA] at HX
    clear hA hR hv hl h40
    go_enter Try.func49, Try.ntmps49
    go_wp2_with fail
    refine HX.out.mono ?_
    rintro e w1 ⟨F, rfl, _, hb1⟩
    have Hb2 := Lib.hid (below_setRow (hb1.alloc hb1.size (.cells (AA fun _ => 0) 57)) hb1.size (AA F))
    clear hb1
    go_wp2_with (refine wpList_store_row rfl 57 (.tmp 8) (.tmp 15) rfl w1.heap.size (AA F) ?_ ?_ 57 _ (heap_alloc_new w1 _) ?_ ?_ ?_ ?_)
    try any_goals first | exact AA_one _ | exact infoA2 | (rw [infoA, AA_size]; done) | (rw [AA_size]; rfl) | rfl
    refine (HO.out _ Hb2.out).mono ?_
    rintro e w2 ⟨v, rfl, own, hb2⟩
    have Own := Lib.hid (own_low own Hb2.out.size)
    have Hb3 := Lib.hid (Hb2.out.trans (hb2.mono Hb2.out.size))
    clear own hb2
    go_wp2_with fail
    go_ret2
    exact ⟨v, rfl, Own.out, Hb3.out⟩
set_option maxRecDepth 20000 in
theorem specIO_any (w : World) (d P : Int) (ao : Option Addr) (cap : Nat) (l : List Snd) (n : Nat) (Hn : Hid (n = l.length)) (hn : n ≤ 1048576) (hcap : n ≤ cap) (hc : SendsAt w ao l) :
    Calls Try.prog 48 #[.int .i64 d, .int .i64 P, .slice ao n cap] w fun e w' => ∃ v, e = .returned (.tuple #[v, .bool (arsB d P l)]) ∧ w'.ownsRow w.heap.size 52 3 v (ioR d P l).length (ss (ioR d P l)) ∧ Below w.heap.size w w' := by
  have HX := Lib.hid (dePerson_any w d P 0 ao cap l n Hn hn hcap hc)
  have HC := Lib.hid hc
  clear hc
  cases hA : arsB d P l
  · have hR : ioR d P l = [] := by unfold ioR; rw [hA]; rfl
    have hp : dpB d P l 0 = false := by simp [dpB, hA]
    rw [hR]
    rw [hp] at HX
    clear hA hR hp
    go_enter Try.func48, Try.ntmps48
    go_wp2_with fail
    refine HX.out.mono ?_
    rintro e w1 ⟨rfl, hb1⟩
    go_wp2_with fail
    go_ret2
    exact ⟨.slice none 0 0, rfl, World.ownsRow_nil _ _ _ _, hb1⟩
  · obtain ⟨_, ⟨Q, rfl, hQ1, _⟩, h40, _, _⟩ := ars_parts hA
    have hR : ioR d Q l = ordS l := by unfold ioR; rw [hA]; rfl
    have hp : dpB d Q l 0 = true := by simp [dpB, hA]; omega
    have hl : (ioR d Q l).length = n := by rw [hR, ordS_length, Hn.out]
    have hn40 : n ≤ 1000 := by rw [Hn.out]; omega
    have HO := Lib.hid (fun u hu => deOrd_any u ao cap l n Hn hn40 hcap (HC.out.kept hu))
    rw [hl, hR]
    rw [hp] at HX
    clear hA hR hp hl h40
    go_enter Try.func48, Try.ntmps48
    go_wp2_with fail
    refine HX.out.mono ?_
    rintro e w1 ⟨rfl, hb1⟩
    have Hb1 := Lib.hid hb1
    clear hb1
    go_wp2_with fail
    refine (HO.out _ Hb1.out).mono ?_
    rintro e w2 ⟨v, rfl, own, hb2⟩
    have Own := Lib.hid (own_low own Hb1.out.size)
    have Hb3 := Lib.hid (Hb1.out.trans (hb2.mono Hb1.out.size))
    clear own hb2
    go_wp2_with fail
    go_ret2
    exact ⟨v, rfl, Own.out, Hb3.out⟩

end Go.Proofs.Ytghfkgbmmkcjhaa
