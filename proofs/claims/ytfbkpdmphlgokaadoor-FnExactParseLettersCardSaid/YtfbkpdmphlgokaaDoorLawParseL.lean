/- The walk of the law FnExactParseLetters: it answers true and turns nothing that was there. -/
import Derived.Test.YtfbkpdmphlgokaaDoorParseLS
import Derived.Test.YtfbkpdmphlgokaaDoorLawParse
namespace Go.Proofs.YtfbkpdmphlgokaaDoor
open Go.ChangeShapes Go.WideShapes Go.ChangeAt Go.RowKit
set_option linter.unusedVariables false


theorem pRL_nil : pRL [] = [] := rfl
theorem pBL_nil : pBL [] = true := rfl
theorem pBL_some {l : List UInt8} (h : l.isEmpty = false) : pBL l = pOKL l := by rw [pBL, h]; rfl
theorem pRL_length (l : List UInt8) : (pRL l).length ≤ 60 := by
  unfold pRL
  cases h : pOKL l
  · simp
  · simpa using (pOKL_good h).1

theorem specPL_any (s : ByteArray) (l : List UInt8) (Hl : Hid (l = s.data.toList)) (w : World) :
    Calls Tryd.prog 10 #[.string s] w fun e w' => ∃ v, e = .returned (.tuple #[v, .bool (pBL l)]) ∧ w'.ownsRow w.heap.size 42 2 v (pRL l).length (cs (pRL l)) ∧ Below w.heap.size w w' := by
  by_cases h0 : s.size = 0
  · obtain ⟨he, hl⟩ := empty_of Hl.out h0
    rw [hl, pBL_nil, pRL_nil]
    have hsl : s.toList = [] := by simpa using he
    have hg : gdL 10 [] = true := rfl
    have Hg := Lib.hid hg
    clear hg he
    go_enter Tryd.func10, Tryd.ntmps10
    go_wp2_with fail
    refine (leGood_any 10 none 0 [] 0 w rfl (by omega) (.inl rfl)).mono ?_
    rintro e w5 ⟨rfl, hb5⟩
    rw [Hg.out]
    go_wp2_with fail
    refine (leText_any w5 none 0 [] 0 rfl (by omega) (.inl rfl) (fun j hj => absurd hj (by omega))).mono ?_
    rintro e w6 ⟨s', rfl, hs', hb6⟩
    have Hb6 : Hid (Below w.heap.size w w6) := hb5.trans (hb6.mono hb5.size)
    have hs2 : s'.toList = [] := by rw [ByteArray.toList_eq, hs']; rfl
    have Hnil := Lib.hid (World.ownsRow_nil w6 w.heap.size 42 2)
    clear hb6 hb5 hs'
    go_wp2_with fail
    go_ret2
    exact ⟨_, rfl, Hnil.out, Hb6.out⟩
  · obtain ⟨he, hl⟩ := nonempty_of Hl.out (by omega)
    by_cases h1 : s.size ≤ 240
    · rw [pBL_some hl]
      exact specPL_loop s l Hl s.size rfl (by omega) h1 w
    · have hp : pOKL l = false := pOKL_long (by
        have : l.length = s.size := by rw [Hl.out]; simp
        omega)
      have hR : pRL l = [] := by rw [pRL, hp]; rfl
      rw [pBL_some hl, hp, hR]
      have Hnil := Lib.hid (World.ownsRow_nil w w.heap.size 42 2)
      have hbig : (240 : Int) < (s.size : Int) := by omega
      clear hp hR hl h1 h0
      go_enter Tryd.func10, Tryd.ntmps10
      go_wp2_with fail
      go_ret2
      exact ⟨_, rfl, Hnil.out, Below.refl _ _⟩

theorem implPL_any (s : ByteArray) (l : List UInt8) (Hl : Hid (l = s.data.toList)) (n : Nat) (Hn : Hid (n = s.size)) (hs : n ≤ 1048576) (w : World) (Hm0 : Hid (∃ m : Int, w.cell? ⟨0, 0, none⟩ = some (.int .i64 m))) :
    Calls Tryd.prog 11 #[.string s] w fun e w' => ∃ v, e = .returned (.tuple #[v, .bool (pBL l)]) ∧ w'.ownsRow w.heap.size 42 2 v (pRL l).length (cs (pRL l)) ∧ Below w.heap.size w w' := by
  by_cases h0 : n = 0
  · obtain ⟨he, hl⟩ := empty_of Hl.out (by rw [← Hn.out]; exact h0)
    rw [hl, pBL_nil, pRL_nil]
    have Hnil := Lib.hid (World.ownsRow_nil w w.heap.size 42 2)
    clear hl h0
    go_enter Tryd.func11, Tryd.ntmps11
    go_wp2_with fail
    go_ret2
    exact ⟨_, rfl, Hnil.out, Below.refl _ _⟩
  · obtain ⟨he, hl⟩ := nonempty_of Hl.out (by rw [← Hn.out]; omega)
    rw [pBL_some hl]
    exact implPL_loop s l Hl n Hn (by omega) hs w Hm0


set_option maxRecDepth 20000 in
theorem walkPL (W : World) (s : ByteArray) (hm0 : ∃ m : Int, W.cell? ⟨0, 0, none⟩ = some (.int .i64 m)) :
    Calls Tryd.prog 4 #[.string s] W fun e w' => e = .returned (.bool true) ∧ Below W.heap.size W w' := by
  have Hm0 := Lib.hid hm0
  clear hm0
  obtain ⟨l, hl⟩ : ∃ l, l = s.data.toList := ⟨_, rfl⟩
  have Hl := Lib.hid hl
  clear hl
  obtain ⟨n, hn⟩ : ∃ n, n = s.size := ⟨_, rfl⟩
  have Hn := Lib.hid hn
  have hsz := hn.symm
  clear hn
  by_cases hs1 : n ≤ 1048576
  · have hsI : (n : Int) ≤ 1048576 := by omega
    have hok : ((pBL l) != (pBL l)) = false := by simp
    have hlen := pRL_length l
    go_enter Tryd.func4, Tryd.ntmps4
    go_wp2_with fail
    refine (specPL_any s l Hl W).mono ?_
    rintro e w2 ⟨vw, rfl, ownvw, bel2⟩
    have b2 : Below W.heap.size W w2 := bel2
    clear bel2
    have Hvw : W.heap.size ≤ W.heap.size := Nat.le_refl _
    have Ovw := Lib.hid ownvw
    clear ownvw
    have OOvw := Ovw
    go_wp2_with fail
    refine (implPL_any s l Hl n Hn hs1 w2 (glob_kept Hm0.out b2)).mono ?_
    rintro e w4 ⟨vg, rfl, ownvg, bel4⟩
    have b4 : Below W.heap.size W w4 := b2.trans (bel4.mono b2.size)
    have Ovw := Lib.hid (own_later Ovw.out bel4)
    clear bel4
    have Hvg : W.heap.size ≤ w2.heap.size := b2.size
    have Ovg := Lib.hid ownvg
    clear ownvg
    have Avwvg := Lib.hid (apart_of OOvw.out Ovg.out)
    have Avgvw := Lib.hid (apart_of' OOvw.out Ovg.out)
    go_wp2_with fail
    refine (eqLetterS_own _ _ (pRL l) (pRL l).length (pRL l).length w4 rfl rfl (by omega) Ovg.out Ovw.out).mono ?_
    rintro e w9 ⟨rfl, bel9⟩
    have b9 : Below W.heap.size W w9 := b4.trans (bel9.mono b4.size)
    have Ovw := Lib.hid (own_later Ovw.out bel9)
    have Ovg := Lib.hid (own_later Ovg.out bel9)
    clear bel9
    go_wp2_with fail
    refine (markLetterS_any _ _ (pRL l) (pRL l).length w9 rfl (by omega) Ovg.out).mono ?_
    rintro e w10 ⟨rfl, ownvg, gr10⟩
    have b10 : Below W.heap.size W w10 := b9.grown gr10 b9.size (fun k hk => Nat.le_trans Hvg (Ovg.out.lt k hk).1)
    have Ovw := Lib.hid (Ovw.out.kept gr10 Avwvg.out)
    have Ovg := Lib.hid ownvg
    clear ownvg gr10
    have hmm : ((1 + 2 * ((pRL l).length : Int)) != (1 + 2 * ((pRL l).length : Int))) = false := by simp
    go_wp2_with fail
    refine (heldLetterS_any _ _ (pRL l) (pRL l).length w10 rfl (by omega) Ovg.out).mono ?_
    rintro e w' ⟨rfl, rfl⟩
    have OOvw := Ovw
    have OOvg := Ovg
    go_wp2_with fail
    refine (implPL_any s l Hl n Hn hs1 w10 (glob_kept Hm0.out b10)).mono ?_
    rintro e w12 ⟨vh, rfl, ownvh, bel12⟩
    have b12 : Below W.heap.size W w12 := b10.trans (bel12.mono b10.size)
    have Ovw := Lib.hid (own_later Ovw.out bel12)
    have Ovg := Lib.hid (own_later Ovg.out bel12)
    clear bel12
    have Ovh := Lib.hid ownvh
    clear ownvh
    go_wp2_with fail
    refine (eqLetterS_own _ _ (pRL l) (pRL l).length (pRL l).length w12 rfl rfl (by omega) Ovh.out Ovw.out).mono ?_
    rintro e w13 ⟨rfl, bel13⟩
    have b13 : Below W.heap.size W w13 := b12.trans (bel13.mono b12.size)
    have Ovg := Lib.hid (own_later Ovg.out bel13)
    clear bel13
    go_wp2_with fail
    refine (heldLetterS_any _ _ (pRL l) (pRL l).length w13 rfl (by omega) Ovg.out).mono ?_
    rintro e w' ⟨rfl, rfl⟩
    go_wp2_with fail
    go_ret
    exact ⟨rfl, b13⟩
  · have hsI : (1048576 : Int) < (n : Int) := by omega
    go_enter Tryd.func4, Tryd.ntmps4
    go_wp2_with fail
    go_ret
    exact ⟨rfl, Below.refl _ _⟩

end Go.Proofs.YtfbkpdmphlgokaaDoor
