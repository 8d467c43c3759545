/- A network with a pair more, at every argument: the model. -/
import Derived.Test.YtbddhjpofijmpaaAddS
namespace Go.Proofs.Ytbddhjpofijmpaa
open Go.ChangeShapes Go.WideShapes Go.ChangeAt Go.RowKit
set_option linter.unusedVariables false


theorem specAdd_any (w : World) (b off cap : Nat) (f X Y : Int) (l : List (Int × Int)) (n : Nat) (Hn : Hid (n = l.length)) (hs : n ≤ 1048576) (hcap : n ≤ cap)
    (Hc : Hid (∀ i, i < l.length → w.cell? ⟨b, off + i * 2, none⟩ = some (.int .i64 (ca l i)) ∧ w.cell? ⟨b, off + i * 2 + 1, none⟩ = some (.int .i64 (cb l i)))) :
    Calls Try.prog 34 #[.int .i64 f, .slice (some ⟨b, off, none⟩) n cap, .agg #[.int .i64 X, .int .i64 Y]] w fun e w' => ∃ v, e = .returned (.tuple #[v, .bool (addB f l X Y)]) ∧ w'.ownsRow w.heap.size 46 2 v (addR f l X Y).length (cs (addR f l X Y)) ∧ Below w.heap.size w w' := by
  have HA : Hid (CallsAt w (some ⟨b, off, none⟩) l) := Lib.hid (.inr ⟨b, off, rfl, Hc.out⟩)
  cases hg : netB f l
  · have Hno : Hid (addB f l X Y = false ∧ addR f l X Y = []) := Lib.hid (by simp [addR, addB, hg])
    have Hg := Lib.hid hg
    clear hg
    go_enter Try.func34, Try.ntmps34
    go_wp2_with fail
    obtain ⟨W0, hW0⟩ : ∃ W0, w.alloc (Obj.cells #[Value.int IntKind.i64 X, Value.int IntKind.i64 Y] 46) = W0 := ⟨_, rfl⟩
    have C0 : Hid (W0.cell? ⟨w.heap.size, 0, none⟩ = some (.int .i64 X)) := Lib.hid (by rw [← hW0]; simp)
    have C1 : Hid (W0.cell? ⟨w.heap.size, 1, none⟩ = some (.int .i64 Y)) := Lib.hid (by rw [← hW0]; simp)
    have HbW : Hid (Below w.heap.size w W0) := Lib.hid (by rw [← hW0]; exact (Below.refl _ _).alloc (Nat.le_refl _) _)
    rw [hW0]
    clear hW0
    have c0 := C0.out
    have c1 := C1.out
    refine (neGood_any f _ cap l n W0 Hn.out (by omega) (HA.out.kept HbW.out)).mono ?_
    rintro e w1 ⟨rfl, hb1⟩
    have hb2 : Below w.heap.size w w1 := HbW.out.trans (hb1.mono HbW.out.size)
    rw [Hg.out]
    clear hb1
    go_wp2_with fail
    go_ret2
    exact ⟨.slice none 0 0, by rw [Hno.out.1]; rfl, by rw [Hno.out.2]; exact World.ownsRow_nil _ _ _ _, hb2⟩
  · have h60 := net_len60 hg
    have hff := net_fr hg
    have hf1 := hff.1
    have hf2 := hff.2
    rw [← Hn.out] at h60
    by_cases hgood : calB f X Y = true ∧ hasC l X Y = false
    · have Hok : Hid (addB f l X Y = true ∧ addR f l X Y = ins l X Y) := Lib.hid (by
        have : addB f l X Y = true := by simp [addB, hg, hgood.1, hgood.2]
        exact ⟨this, by rw [addR, this]; rfl⟩)
      rw [Hok.out.1, Hok.out.2]
      have hk : plc l X Y ≤ n := by rw [Hn.out]; unfold plc; exact (List.takeWhile_sublist _).length_le
      by_cases hc : cap = plc l X Y
      · exact specAdd_at b off off cap f X Y l n _ w Hn hcap hg hgood.1 hgood.2 hk rfl (by rw [if_pos hc]) (by rw [Hn.out]; exact Hc.out) (drop_addr Hn.out hcap hk (by rw [if_pos hc]) Hc.out)
      · exact specAdd_at b off (off + plc l X Y * 2) cap f X Y l n _ w Hn hcap hg hgood.1 hgood.2 hk rfl (by rw [if_neg hc]) (by rw [Hn.out]; exact Hc.out) (drop_addr Hn.out hcap hk (by rw [if_neg hc]) Hc.out)
    · have Hno : Hid (addB f l X Y = false ∧ addR f l X Y = []) := Lib.hid (by
        have : addB f l X Y = false := by
          cases h : addB f l X Y
          · rfl
          · simp only [addB, Bool.and_eq_true, Bool.not_eq_true'] at h
            exact absurd h.2 hgood
        exact ⟨this, by rw [addR, this]; rfl⟩)
      have Hg := Lib.hid hg
      clear hg hff
      cases hcal : calB f X Y
      · have Hcal := Lib.hid hcal
        clear hcal hgood
        go_enter Try.func34, Try.ntmps34
        go_wp2_with fail
        obtain ⟨W0, hW0⟩ : ∃ W0, w.alloc (Obj.cells #[Value.int IntKind.i64 X, Value.int IntKind.i64 Y] 46) = W0 := ⟨_, rfl⟩
        have C0 : Hid (W0.cell? ⟨w.heap.size, 0, none⟩ = some (.int .i64 X)) := Lib.hid (by rw [← hW0]; simp)
        have C1 : Hid (W0.cell? ⟨w.heap.size, 1, none⟩ = some (.int .i64 Y)) := Lib.hid (by rw [← hW0]; simp)
        have HbW : Hid (Below w.heap.size w W0) := Lib.hid (by rw [← hW0]; exact (Below.refl _ _).alloc (Nat.le_refl _) _)
        rw [hW0]
        clear hW0
        have c0 := C0.out
        have c1 := C1.out
        refine (neGood_any f _ cap l n W0 Hn.out (by omega) (HA.out.kept HbW.out)).mono ?_
        rintro e w1 ⟨rfl, hb1⟩
        rw [Hg.out]
        clear c0 c1
        have c0 := cell_old hb1 C0.out
        have c1 := cell_old hb1 C1.out
        go_wp2_with fail
        refine (caCall_any f X Y w1 hf1 hf2).mono ?_
        rintro e w2 ⟨rfl, hb2⟩
        rw [Hcal.out]
        have hb3 : Below w.heap.size w w2 := HbW.out.trans ((hb1.trans (hb2.mono hb1.size)).mono HbW.out.size)
        clear hb1 hb2 c0 c1
        go_wp2_with fail
        go_ret2
        exact ⟨.slice none 0 0, by rw [Hno.out.1]; rfl, by rw [Hno.out.2]; exact World.ownsRow_nil _ _ _ _, hb3⟩
      · have hmm : 0 ≤ X ∧ X < Y := by have := hcal; simp [calB] at this; omega
        have Hcal := Lib.hid hcal
        have Hhas : Hid (hasC l (min X Y) (max X Y) = true) := Lib.hid (by
          rw [show min X Y = X by omega, show max X Y = Y by omega]
          cases h : hasC l X Y
          · exact absurd ⟨hcal, h⟩ hgood
          · rfl)
        clear hcal hgood hmm
        go_enter Try.func34, Try.ntmps34
        go_wp2_with fail
        obtain ⟨W0, hW0⟩ : ∃ W0, w.alloc (Obj.cells #[Value.int IntKind.i64 X, Value.int IntKind.i64 Y] 46) = W0 := ⟨_, rfl⟩
        have C0 : Hid (W0.cell? ⟨w.heap.size, 0, none⟩ = some (.int .i64 X)) := Lib.hid (by rw [← hW0]; simp)
        have C1 : Hid (W0.cell? ⟨w.heap.size, 1, none⟩ = some (.int .i64 Y)) := Lib.hid (by rw [← hW0]; simp)
        have HbW : Hid (Below w.heap.size w W0) := Lib.hid (by rw [← hW0]; exact (Below.refl _ _).alloc (Nat.le_refl _) _)
        rw [hW0]
        clear hW0
        have c0 := C0.out
        have c1 := C1.out
        refine (neGood_any f _ cap l n W0 Hn.out (by omega) (HA.out.kept HbW.out)).mono ?_
        rintro e w1 ⟨rfl, hb1⟩
        rw [Hg.out]
        clear c0 c1
        have c0 := cell_old hb1 C0.out
        have c1 := cell_old hb1 C1.out
        go_wp2_with fail
        refine (caCall_any f X Y w1 hf1 hf2).mono ?_
        rintro e w2 ⟨rfl, hb2⟩
        rw [Hcal.out]
        have hb3 := hb1.trans (hb2.mono hb1.size)
        clear hb1 hb2 c0 c1
        have c0 := cell_old hb3 C0.out
        have c1 := cell_old hb3 C1.out
        have hbel : Below w.heap.size w w2 := HbW.out.trans (hb3.mono HbW.out.size)
        go_wp2_with fail
        refine (neIs_any _ cap l n X Y w2 Hn hs (HA.out.kept hbel)).mono ?_
        rintro e w3 ⟨rfl, hb4⟩
        rw [Hhas.out]
        have hb5 : Below w.heap.size w w3 := hbel.trans (hb4.mono hbel.size)
        clear hb3 hb4 hbel c0 c1
        go_wp2_with fail
        go_ret2
        exact ⟨.slice none 0 0, by rw [Hno.out.1]; rfl, by rw [Hno.out.2]; exact World.ownsRow_nil _ _ _ _, hb5⟩

end Go.Proofs.Ytbddhjpofijmpaa
