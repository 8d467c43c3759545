/- The walk of the law FnExactParseCalls: it answers true and turns nothing that was there. -/
import Derived.Test.YtfbkpdmphlgokaaDoorParseI
namespace Go.Proofs.YtfbkpdmphlgokaaDoor
open Go.ChangeShapes Go.WideShapes Go.ChangeAt Go.RowKit
set_option linter.unusedVariables false


theorem implPC_any (s : ByteArray) (l : List UInt8) (Hl : Hid (l = s.data.toList)) (n : Nat) (Hn : Hid (n = s.size)) (hs : n ≤ 1048576) (w : World) (Hm0 : Hid (∃ m : Int, w.cell? ⟨0, 0, none⟩ = some (.int .i64 m))) :
    Calls Tryd.prog 6 #[.string s] w fun e w' => ∃ v, e = .returned (.tuple #[v, .bool (pB l)]) ∧ w'.ownsRow w.heap.size 36 2 v (pR l).length (cs (pR l)) ∧ Below w.heap.size w w' := by
  by_cases h0 : n = 0
  · obtain ⟨he, hl⟩ := empty_of Hl.out (by rw [← Hn.out]; exact h0)
    rw [hl, pB_nil, pR_nil]
    have Hnil := Lib.hid (World.ownsRow_nil w w.heap.size 36 2)
    clear hl h0
    go_enter Tryd.func6, Tryd.ntmps6
    go_wp2_with fail
    go_ret2
    exact ⟨_, rfl, Hnil.out, Below.refl _ _⟩
  · obtain ⟨he, hl⟩ := nonempty_of Hl.out (by rw [← Hn.out]; omega)
    rw [pB_some hl]
    exact implPC_loop s l Hl n Hn (by omega) hs w Hm0

theorem glob_kept {w w' : World} (h : ∃ m : Int, w.cell? ⟨0, 0, none⟩ = some (.int .i64 m)) (hb : Below w.heap.size w w') : ∃ m : Int, w'.cell? ⟨0, 0, none⟩ = some (.int .i64 m) := by
  obtain ⟨m, h⟩ := h
  exact ⟨m, (hb.cell (p := ⟨0, 0, none⟩) (World.block_lt_of_cell? w _ h)).trans h⟩

set_option maxRecDepth 20000 in
theorem walkPC (W : World) (s : ByteArray) (hm0 : ∃ m : Int, W.cell? ⟨0, 0, none⟩ = some (.int .i64 m)) :
    Calls Tryd.prog 3 #[.string s] W fun e w' => e = .returned (.bool true) ∧ Below W.heap.size W w' := by
  have Hm0 := Lib.hid hm0
  clear hm0
  obtain ⟨l, hl⟩ : ∃ l, l = s.data.toList := ⟨_, rfl⟩
  have Hl := Lib.hid hl
  clear hl
  obtain ⟨n, hn⟩ : ∃ n, n = s.size := ⟨_, rfl⟩
  have Hn := Lib.hid hn
  have hsz := hn.symm
  clear hn
  by_cases hs1 : n ≤ 1048576
  · have hsI : (n : Int) ≤ 1048576 := by omega
    have hok : ((pB l) != (pB l)) = false := by simp
    have hlen := pR_length l
    go_enter Tryd.func3, Tryd.ntmps3
    go_wp2_with fail
    refine (specPC_any s l Hl W).mono ?_
    rintro e w2 ⟨vw, rfl, ownvw, bel2⟩
    have b2 : Below W.heap.size W w2 := bel2
    clear bel2
    have Hvw : W.heap.size ≤ W.heap.size := Nat.le_refl _
    have Ovw := Lib.hid ownvw
    clear ownvw
    have OOvw := Ovw
    go_wp2_with fail
    refine (implPC_any s l Hl n Hn hs1 w2 (glob_kept Hm0.out b2)).mono ?_
    rintro e w4 ⟨vg, rfl, ownvg, bel4⟩
    have b4 : Below W.heap.size W w4 := b2.trans (bel4.mono b2.size)
    have Ovw := Lib.hid (own_later Ovw.out bel4)
    clear bel4
    have Hvg : W.heap.size ≤ w2.heap.size := b2.size
    have Ovg := Lib.hid ownvg
    clear ownvg
    have Avwvg := Lib.hid (apart_of OOvw.out Ovg.out)
    have Avgvw := Lib.hid (apart_of' OOvw.out Ovg.out)
    go_wp2_with fail
    refine (eqCallS_own _ _ (pR l) (pR l).length (pR l).length w4 rfl rfl (by omega) Ovg.out Ovw.out).mono ?_
    rintro e w9 ⟨rfl, bel9⟩
    have b9 : Below W.heap.size W w9 := b4.trans (bel9.mono b4.size)
    have Ovw := Lib.hid (own_later Ovw.out bel9)
    have Ovg := Lib.hid (own_later Ovg.out bel9)
    clear bel9
    go_wp2_with fail
    refine (markCallS_any _ _ (pR l) (pR l).length w9 rfl (by omega) Ovg.out).mono ?_
    rintro e w10 ⟨rfl, ownvg, gr10⟩
    have b10 : Below W.heap.size W w10 := b9.grown gr10 b9.size (fun k hk => Nat.le_trans Hvg (Ovg.out.lt k hk).1)
    have Ovw := Lib.hid (Ovw.out.kept gr10 Avwvg.out)
    have Ovg := Lib.hid ownvg
    clear ownvg gr10
    have hmm : ((1 + 2 * ((pR l).length : Int)) != (1 + 2 * ((pR l).length : Int))) = false := by simp
    go_wp2_with fail
    refine (heldCallS_any _ _ (pR l) (pR l).length w10 rfl (by omega) Ovg.out).mono ?_
    rintro e w' ⟨rfl, rfl⟩
    have OOvw := Ovw
    have OOvg := Ovg
    go_wp2_with fail
    refine (implPC_any s l Hl n Hn hs1 w10 (glob_kept Hm0.out b10)).mono ?_
    rintro e w12 ⟨vh, rfl, ownvh, bel12⟩
    have b12 : Below W.heap.size W w12 := b10.trans (bel12.mono b10.size)
    have Ovw := Lib.hid (own_later Ovw.out bel12)
    have Ovg := Lib.hid (own_later Ovg.out bel12)
    clear bel12
    have Ovh := Lib.hid ownvh
    clear ownvh
    go_wp2_with fail
    refine (eqCallS_own _ _ (pR l) (pR l).length (pR l).length w12 rfl rfl (by omega) Ovh.out Ovw.out).mono ?_
    rintro e w13 ⟨rfl, bel13⟩
    have b13 : Below W.heap.size W w13 := b12.trans (bel13.mono b12.size)
    have Ovg := Lib.hid (own_later Ovg.out bel13)
    clear bel13
    go_wp2_with fail
    refine (heldCallS_any _ _ (pR l) (pR l).length w13 rfl (by omega) Ovg.out).mono ?_
    rintro e w' ⟨rfl, rfl⟩
    go_wp2_with fail
    go_ret
    exact ⟨rfl, b13⟩
  · have hsI : (1048576 : Int) < (n : Int) := by omega
    go_enter Tryd.func3, Tryd.ntmps3
    go_wp2_with fail
    go_ret
    exact ⟨rfl, Below.refl _ _⟩

end Go.Proofs.YtfbkpdmphlgokaaDoor
