/- The walk of the law FnExactAddPair: it answers true and turns nothing that was there. -/
import Derived.Test.YtbddhjpofijmpaaAddZ
import Derived.Test.YtbddhjpofijmpaaOpen
import Derived.Lib.SmallJoins
namespace Go.Proofs.Ytbddhjpofijmpaa
open Go.ChangeShapes Go.WideShapes Go.ChangeAt Go.RowKit
set_option linter.unusedVariables false

theorem own_cap {w : World} {base : Nat} {e : TypeId} {size g n m cap : Nat} {xs : List Value} (h : w.ownsRow base e size (.slice (some ⟨g, 0, none⟩) n cap) m xs) : n ≤ cap := by
  rcases h.2 with ⟨h', _⟩ | ⟨g', cap', cur, h', _, _, hnc, _⟩
  · simp at h'
  · simp only [Value.slice.injEq] at h'
    obtain ⟨_, h2, h3⟩ := h'
    omega


theorem specAdd_law (w : World) (f : Int) (g cap : Nat) (l : List (Int × Int)) (n : Nat) (Hn : Hid (n = l.length)) (hs : n ≤ 1048576) (hc : CallsAt w (some ⟨g, 0, none⟩) l) (hcap : n ≤ cap) (X Y : Int) :
    Calls Try.prog 34 #[.int .i64 f, .slice (some ⟨g, 0, none⟩) n cap, .agg #[.int .i64 X, .int .i64 Y]] w fun e w' => ∃ v, e = .returned (.tuple #[v, .bool (addB f l X Y)]) ∧ w'.ownsRow w.heap.size 46 2 v (addR f l X Y).length (cs (addR f l X Y)) ∧ Below w.heap.size w w' :=
  specAdd_any w g 0 cap f X Y l n Hn hs hcap (by
    rcases hc with h | ⟨b, off, he, hc⟩
    · subst h; exact Lib.hid (fun i hi => by simp at hi)
    · cases he; exact Lib.hid hc)
theorem implAdd_law (w : World) (f : Int) (g cap : Nat) (l : List (Int × Int)) (n : Nat) (Hn : Hid (n = l.length)) (hs : n ≤ 1048576) (hc : CallsAt w (some ⟨g, 0, none⟩) l) (hcap : n ≤ cap) (X Y : Int) :
    Calls Try.prog 36 #[.int .i64 f, .slice (some ⟨g, 0, none⟩) n cap, .agg #[.int .i64 X, .int .i64 Y]] w fun e w' => ∃ v, e = .returned (.tuple #[v, .bool (addB f l X Y)]) ∧ w'.ownsRow w.heap.size 46 2 v (addR f l X Y).length (cs (addR f l X Y)) ∧ Below w.heap.size w w' :=
  implAdd_any w g 0 cap f X Y l n Hn hs hcap (by
    rcases hc with h | ⟨b, off, he, hc⟩
    · subst h; exact Lib.hid (fun i hi => by simp at hi)
    · cases he; exact Lib.hid hc)

set_option maxHeartbeats 4000000 in
set_option maxRecDepth 20000 in
theorem walkAdd (W : World) (a0 : Int) (_w0 : (Lit.int .i64 a0).wf = true) (o1 : Option Addr) (n1 c1' : Nat) (l1 : List (Int × Int)) (q1n : n1 = l1.length) (q1m : n1 ≤ 9223372036854775807) (q1c : CallsAt W o1 l1) (X Y : Int) :
    Calls Try.prog 10 #[.int .i64 a0, .slice o1 n1 c1', .agg #[.int .i64 X, .int .i64 Y]] W fun e w' => e = .returned (.bool true) ∧ Below W.heap.size W w' := by
  have Hn1 := Lib.hid q1n
  clear q1n
  obtain ⟨V, hV⟩ : ∃ V, W.alloc (Obj.cells #[Value.int IntKind.i64 X, Value.int IntKind.i64 Y] 44) = V := ⟨_, rfl⟩
  have C0 : Hid (V.cell? ⟨W.heap.size, 0, none⟩ = some (.int .i64 X)) := Lib.hid (by rw [← hV]; simp)
  have C1 : Hid (V.cell? ⟨W.heap.size, 1, none⟩ = some (.int .i64 Y)) := Lib.hid (by rw [← hV]; simp)
  have bW : Below W.heap.size W V := by rw [← hV]; exact (Below.refl _ _).alloc (Nat.le_refl _) _
  have Hc1 : Hid (CallsAt V o1 l1) := Lib.hid (q1c.kept bW)
  clear q1c
  by_cases hs1 : n1 ≤ 1048576
  · go_enter Try.func10, Try.ntmps10
    go_wp2_with fail
    clear hV
    refine (szCallS_small o1 n1 c1' V hs1).mono ?_
    rintro e w' ⟨rfl, rfl⟩
    go_wp2_with fail
    have bdd : Below V.heap.size V V.drew := (Below.refl V.heap.size V).drew
    have c0 : V.drew.cell? ⟨W.heap.size, 0, none⟩ = some (.int .i64 X) := cell_old bdd C0.out
    have c1 : V.drew.cell? ⟨W.heap.size, 1, none⟩ = some (.int .i64 Y) := cell_old bdd C1.out
    refine wp_region_any (by kernel_rfl) ?_
    change wpAny _ _ _ _ _ _ _ (World.drew _)
    obtain ⟨dd, hdd⟩ : ∃ dd, V.drew = dd := ⟨_, rfl⟩
    rw [hdd] at bdd c0 c1 ⊢
    clear hdd
    refine wpAny_take (i := 0) (v := ?_) rfl (by kernel_rfl) (by kernel_rfl) (by kernel_rfl) (fun _ _ _ h => h) (Or.inl ⟨by rfl, ?y0⟩) ?_
    case y0 => intro w; go_simp; first | done | with_reducible rfl
    refine wpAny_take (i := 1) (v := ?_) rfl (by kernel_rfl) (by kernel_rfl) (by kernel_rfl) (fun _ _ _ h => h) (Or.inl ⟨by rfl, ?y1⟩) ?_
    case y1 => intro w; go_simp; first | done | with_reducible rfl
    refine wpAny_ready (rs := [2, 3]) (by kernel_rfl) (by simp) ?_
    refine AllReady.cons rfl (fun K hK => ?_) ?_
    · go_simp
      go_wp2_with (go_at_call 14; refine (toCallS_any o1 c1' l1 n1 dd Hn1 hs1 (Hc1.out.kept bdd)).mono ?_; rintro e w1 ⟨capy1, rfl, owny1, bel1⟩)
      try (refine hK _ _ ?_; clear hK K)
      have b1 : Below V.heap.size V w1 := bdd.trans (bel1.mono bdd.size)
      clear bel1
      have Hy1 : V.heap.size ≤ V.heap.size := Nat.le_refl _
      have Oy1 := Lib.hid owny1
      clear owny1
      have OOy1 := Oy1
      have c0 := cell_old b1 C0.out
      have c1 := cell_old b1 C1.out
      refine wpAny_ready (rs := [3]) (by kernel_rfl) (by simp) ?_
      refine AllReady.cons rfl (fun K hK => ?_) AllReady.nil
      go_simp
      try (refine hK _ _ ?_; clear hK K)
      refine wpAny_ready (rs := [4]) (by kernel_rfl) (by simp) ?_
      refine AllReady.cons rfl (fun K hK => ?_) AllReady.nil
      go_simp
      go_wp2_with (go_at_call 35; refine (toCall_any X Y w1).mono ?_; rintro e w1b ⟨rfl, belb⟩)
      try (refine hK _ _ ?_; clear hK K)
      have b1 : Below V.heap.size V w1b := b1.trans (belb.mono b1.size)
      have Oy1 := Lib.hid (own_later Oy1.out belb)
      have OOy1 := Oy1
      clear belb
      refine wpAny_ready (rs := [5]) (by kernel_rfl) (by simp) ?_
      refine AllReady.cons rfl (fun K hK => ?_) AllReady.nil
      go_simp
      go_wp2_with (go_at_call 34; refine (specAdd_law w1b a0 _ capy1 l1 n1 Hn1 hs1 (own_at Oy1.out Hn1.out) (own_cap Oy1.out) X Y).mono ?_; rintro e w2 ⟨vw, rfl, ownvw, bel2⟩)
      try (refine hK _ _ ?_; clear hK K)
      have b2 : Below V.heap.size V w2 := b1.trans (bel2.mono b1.size)
      have Oy1 := Lib.hid (own_later Oy1.out bel2)
      clear bel2
      have Hvw : V.heap.size ≤ w1b.heap.size := b1.size
      have Ovw := Lib.hid ownvw
      clear ownvw
      have Ay1vw := Lib.hid (apart_of OOy1.out Ovw.out)
      have Avwy1 := Lib.hid (apart_of' OOy1.out Ovw.out)
      have OOvw := Ovw
      refine wpAny_take (i := 6) (v := ?_) rfl (by kernel_rfl) (by kernel_rfl) (by kernel_rfl) (fun _ _ _ h => h) (Or.inl ⟨by rfl, ?y6⟩) ?_
      case y6 => intro w; go_simp; first | done | with_reducible rfl
      refine wpAny_take (i := 7) (v := ?_) rfl (by kernel_rfl) (by kernel_rfl) (by kernel_rfl) (fun _ _ _ h => h) (Or.inl ⟨by rfl, ?y7⟩) ?_
      case y7 => intro w; go_simp; first | done | with_reducible rfl
      refine wpAny_take (i := 8) (v := ?_) rfl (by kernel_rfl) (by kernel_rfl) (by kernel_rfl) (fun _ _ _ h => h) (Or.inl ⟨by rfl, ?y8⟩) ?_
      case y8 => intro w; go_simp; first | done | with_reducible rfl
      refine wpAny_ready (rs := [9]) (by kernel_rfl) (by simp) ?_
      refine AllReady.cons rfl (fun K hK => ?_) AllReady.nil
      go_simp
      try (refine hK _ _ ?_; clear hK K)
      refine wpAny_ready (rs := [10]) (by kernel_rfl) (by simp) ?_
      refine AllReady.cons rfl (fun K hK => ?_) AllReady.nil
      go_simp
      try (refine hK _ _ ?_; clear hK K)
      refine wpAny_done (by kernel_rfl) ?_ _
      go_wp2_with fail
      refine (toCallS_any o1 c1' l1 n1 w2 Hn1 hs1 (Hc1.out.kept b2)).mono ?_
      rintro e w3 ⟨capx1, rfl, ownx1, bel3⟩
      have b3 : Below V.heap.size V w3 := b2.trans (bel3.mono b2.size)
      have Ovw := Lib.hid (own_later Ovw.out bel3)
      clear bel3
      have Hx1 : V.heap.size ≤ w2.heap.size := b2.size
      have Ox1 := Lib.hid ownx1
      clear ownx1
      have Avwx1 := Lib.hid (apart_of OOvw.out Ox1.out)
      have Ax1vw := Lib.hid (apart_of' OOvw.out Ox1.out)
      have hok : ((addB a0 l1 X Y) != (addB a0 l1 X Y)) = false := by simp
      have OOvw := Ovw
      have OOx1 := Ox1
      have c0 := cell_old b3 C0.out
      have c1 := cell_old b3 C1.out
      go_wp2_with fail
      refine (toCall_any X Y w3).mono ?_
      rintro e w3b ⟨rfl, belb⟩
      have b3 : Below V.heap.size V w3b := b3.trans (belb.mono b3.size)
      have Ovw := Lib.hid (own_later Ovw.out belb)
      have Ox1 := Lib.hid (own_later Ox1.out belb)
      have OOvw := Ovw
      have OOx1 := Ox1
      clear belb c0 c1
      go_wp2_with fail
      refine (implAdd_law w3b a0 _ capx1 l1 n1 Hn1 hs1 (own_at Ox1.out Hn1.out) (own_cap Ox1.out) X Y).mono ?_
      rintro e w4 ⟨vg, rfl, ownvg, bel4⟩
      have b4 : Below V.heap.size V w4 := b3.trans (bel4.mono b3.size)
      have Ovw := Lib.hid (own_later Ovw.out bel4)
      have Ox1 := Lib.hid (own_later Ox1.out bel4)
      clear bel4
      have Hvg : V.heap.size ≤ w3b.heap.size := b3.size
      have Ovg := Lib.hid ownvg
      clear ownvg
      have Avwvg := Lib.hid (apart_of OOvw.out Ovg.out)
      have Avgvw := Lib.hid (apart_of' OOvw.out Ovg.out)
      have Ax1vg := Lib.hid (apart_of OOx1.out Ovg.out)
      have Avgx1 := Lib.hid (apart_of' OOx1.out Ovg.out)
      have hlen := addR_len a0 l1 X Y
      go_wp2_with fail
      refine (eqCallS_own _ _ (addR a0 l1 X Y) (addR a0 l1 X Y).length (addR a0 l1 X Y).length w4 rfl rfl (by omega) Ovg.out Ovw.out).mono ?_
      rintro e w5 ⟨rfl, bel5⟩
      have b5 : Below V.heap.size V w5 := b4.trans (bel5.mono b4.size)
      have Ovw := Lib.hid (own_later Ovw.out bel5)
      have Ox1 := Lib.hid (own_later Ox1.out bel5)
      have Ovg := Lib.hid (own_later Ovg.out bel5)
      clear bel5
      have OOvw := Ovw
      have OOx1 := Ox1
      have OOvg := Ovg
      go_wp2_with fail
      refine (toCallS_any o1 c1' l1 n1 w5 Hn1 hs1 (Hc1.out.kept b5)).mono ?_
      rintro e w6 ⟨capz1, rfl, ownz1, bel6⟩
      have b6 : Below V.heap.size V w6 := b5.trans (bel6.mono b5.size)
      have Ovw := Lib.hid (own_later Ovw.out bel6)
      have Ox1 := Lib.hid (own_later Ox1.out bel6)
      have Ovg := Lib.hid (own_later Ovg.out bel6)
      clear bel6
      have Hz1 : V.heap.size ≤ w5.heap.size := b5.size
      have Oz1 := Lib.hid ownz1
      clear ownz1
      have Avwz1 := Lib.hid (apart_of OOvw.out Oz1.out)
      have Az1vw := Lib.hid (apart_of' OOvw.out Oz1.out)
      have Ax1z1 := Lib.hid (apart_of OOx1.out Oz1.out)
      have Az1x1 := Lib.hid (apart_of' OOx1.out Oz1.out)
      have Avgz1 := Lib.hid (apart_of OOvg.out Oz1.out)
      have Az1vg := Lib.hid (apart_of' OOvg.out Oz1.out)
      go_wp2_with fail
      refine (eqCallS_own _ _ l1 n1 n1 w6 Hn1.out Hn1.out (by omega) Ox1.out Oz1.out).mono ?_
      rintro e w7 ⟨rfl, bel7⟩
      have b7 : Below V.heap.size V w7 := b6.trans (bel7.mono b6.size)
      have Ovw := Lib.hid (own_later Ovw.out bel7)
      have Ox1 := Lib.hid (own_later Ox1.out bel7)
      have Ovg := Lib.hid (own_later Ovg.out bel7)
      have Oz1 := Lib.hid (own_later Oz1.out bel7)
      clear bel7
      go_wp2_with fail
      refine (markCallS_any _ _ l1 n1 w7  Hn1.out (by omega) Ox1.out).mono ?_
      rintro e w8 ⟨rfl, ownx1, gr8⟩
      have b8 : Below V.heap.size V w8 := b7.grown gr8 b7.size (fun k hk => Nat.le_trans Hx1 (Ox1.out.lt k hk).1)
      have Ovw := Lib.hid (Ovw.out.kept gr8 Avwx1.out)
      have Ovg := Lib.hid (Ovg.out.kept gr8 Avgx1.out)
      have Ox1 := Lib.hid ownx1
      clear ownx1 gr8
      go_wp2_with fail
      refine (eqCallS_own _ _ (addR a0 l1 X Y) (addR a0 l1 X Y).length (addR a0 l1 X Y).length w8 rfl rfl (by omega) Ovg.out Ovw.out).mono ?_
      rintro e w9 ⟨rfl, bel9⟩
      have b9 : Below V.heap.size V w9 := b8.trans (bel9.mono b8.size)
      have Ovw := Lib.hid (own_later Ovw.out bel9)
      have Ox1 := Lib.hid (own_later Ox1.out bel9)
      have Ovg := Lib.hid (own_later Ovg.out bel9)
      clear bel9
      go_wp2_with fail
      refine (markCallS_any _ _ (addR a0 l1 X Y) (addR a0 l1 X Y).length w9 rfl (by omega) Ovg.out).mono ?_
      rintro e w10 ⟨rfl, ownvg, gr10⟩
      have b10 : Below V.heap.size V w10 := b9.grown gr10 b9.size (fun k hk => Nat.le_trans Hvg (Ovg.out.lt k hk).1)
      have Ovw := Lib.hid (Ovw.out.kept gr10 Avwvg.out)
      have Ovg := Lib.hid ownvg
      clear ownvg gr10
      have hmm : ((1 + 2 * ((addR a0 l1 X Y).length : Int)) != (1 + 2 * ((addR a0 l1 X Y).length : Int))) = false := by simp
      go_wp2_with fail
      refine (heldCallS_any _ _ (addR a0 l1 X Y) (addR a0 l1 X Y).length w10 rfl (by omega) Ovg.out).mono ?_
      rintro e w' ⟨rfl, rfl⟩
      have OOvw := Ovw
      have OOvg := Ovg
      go_wp2_with fail
      have bdd : Below V.heap.size V w10.drew := b10.drew
      have c0 : w10.drew.cell? ⟨W.heap.size, 0, none⟩ = some (.int .i64 X) := cell_old bdd C0.out
      have c1 : w10.drew.cell? ⟨W.heap.size, 1, none⟩ = some (.int .i64 Y) := cell_old bdd C1.out
      have DOvw := Lib.hid (own_later Ovw.out (Below.refl _ _).drew)
      have DOvg := Lib.hid (own_later Ovg.out (Below.refl _ _).drew)
      refine wp_region_any (by kernel_rfl) ?_
      change wpAny _ _ _ _ _ _ _ (World.drew _)
      obtain ⟨dd, hdd⟩ : ∃ dd, w10.drew = dd := ⟨_, rfl⟩
      rw [hdd] at bdd c0 c1 DOvw DOvg ⊢
      clear hdd
      have Ovw := DOvw
      have Ovg := DOvg
      have OOvw := DOvw
      have OOvg := DOvg
      refine wpAny_take (i := 0) (v := ?_) rfl (by kernel_rfl) (by kernel_rfl) (by kernel_rfl) (fun _ _ _ h => h) (Or.inl ⟨by rfl, ?y0⟩) ?_
      case y0 => intro w; go_simp; first | done | with_reducible rfl
      refine wpAny_take (i := 1) (v := ?_) rfl (by kernel_rfl) (by kernel_rfl) (by kernel_rfl) (fun _ _ _ h => h) (Or.inl ⟨by rfl, ?y1⟩) ?_
      case y1 => intro w; go_simp; first | done | with_reducible rfl
      refine wpAny_ready (rs := [2, 3]) (by kernel_rfl) (by simp) ?_
      refine AllReady.cons rfl (fun K hK => ?_) ?_
      · go_simp
        go_wp2_with (go_at_call 14; refine (toCallS_any o1 c1' l1 n1 dd Hn1 hs1 (Hc1.out.kept bdd)).mono ?_; rintro e w11 ⟨capu1, rfl, ownu1, bel11⟩)
        try (refine hK _ _ ?_; clear hK K)
        have b11 : Below V.heap.size V w11 := bdd.trans (bel11.mono bdd.size)
        have Ovw := Lib.hid (own_later Ovw.out bel11)
        have Ovg := Lib.hid (own_later Ovg.out bel11)
        clear bel11
        have Hu1 : V.heap.size ≤ w10.heap.size := b10.size
        have Ou1 := Lib.hid ownu1
        clear ownu1
        have Avwu1 := Lib.hid (apart_of OOvw.out Ou1.out)
        have Au1vw := Lib.hid (apart_of' OOvw.out Ou1.out)
        have Avgu1 := Lib.hid (apart_of OOvg.out Ou1.out)
        have Au1vg := Lib.hid (apart_of' OOvg.out Ou1.out)
        have OOvw := Ovw
        have OOvg := Ovg
        have OOu1 := Ou1
        have c0 := cell_old b11 C0.out
        have c1 := cell_old b11 C1.out
        refine wpAny_ready (rs := [3]) (by kernel_rfl) (by simp) ?_
        refine AllReady.cons rfl (fun K hK => ?_) AllReady.nil
        go_simp
        try (refine hK _ _ ?_; clear hK K)
        refine wpAny_ready (rs := [4]) (by kernel_rfl) (by simp) ?_
        refine AllReady.cons rfl (fun K hK => ?_) AllReady.nil
        go_simp
        go_wp2_with (go_at_call 35; refine (toCall_any X Y w11).mono ?_; rintro e w11b ⟨rfl, belb⟩)
        try (refine hK _ _ ?_; clear hK K)
        have b11 : Below V.heap.size V w11b := b11.trans (belb.mono b11.size)
        have Ovw := Lib.hid (own_later Ovw.out belb)
        have Ovg := Lib.hid (own_later Ovg.out belb)
        have Ou1 := Lib.hid (own_later Ou1.out belb)
        have OOvw := Ovw
        have OOvg := Ovg
        have OOu1 := Ou1
        clear belb
        refine wpAny_ready (rs := [5]) (by kernel_rfl) (by simp) ?_
        refine AllReady.cons rfl (fun K hK => ?_) AllReady.nil
        go_simp
        go_wp2_with (go_at_call 36; refine (implAdd_law w11b a0 _ capu1 l1 n1 Hn1 hs1 (own_at Ou1.out Hn1.out) (own_cap Ou1.out) X Y).mono ?_; rintro e w12 ⟨vh, rfl, ownvh, bel12⟩)
        try (refine hK _ _ ?_; clear hK K)
        have b12 : Below V.heap.size V w12 := b11.trans (bel12.mono b11.size)
        have Ovw := Lib.hid (own_later Ovw.out bel12)
        have Ovg := Lib.hid (own_later Ovg.out bel12)
        have Ou1 := Lib.hid (own_later Ou1.out bel12)
        clear bel12
        have Hvh : V.heap.size ≤ w11b.heap.size := b11.size
        have Ovh := Lib.hid ownvh
        clear ownvh
        have Avwvh := Lib.hid (apart_of OOvw.out Ovh.out)
        have Avhvw := Lib.hid (apart_of' OOvw.out Ovh.out)
        have Avgvh := Lib.hid (apart_of OOvg.out Ovh.out)
        have Avhvg := Lib.hid (apart_of' OOvg.out Ovh.out)
        have Au1vh := Lib.hid (apart_of OOu1.out Ovh.out)
        have Avhu1 := Lib.hid (apart_of' OOu1.out Ovh.out)
        refine wpAny_take (i := 6) (v := ?_) rfl (by kernel_rfl) (by kernel_rfl) (by kernel_rfl) (fun _ _ _ h => h) (Or.inl ⟨by rfl, ?y6⟩) ?_
        case y6 => intro w; go_simp; first | done | with_reducible rfl
        refine wpAny_take (i := 7) (v := ?_) rfl (by kernel_rfl) (by kernel_rfl) (by kernel_rfl) (fun _ _ _ h => h) (Or.inl ⟨by rfl, ?y7⟩) ?_
        case y7 => intro w; go_simp; first | done | with_reducible rfl
        refine wpAny_take (i := 8) (v := ?_) rfl (by kernel_rfl) (by kernel_rfl) (by kernel_rfl) (fun _ _ _ h => h) (Or.inl ⟨by rfl, ?y8⟩) ?_
        case y8 => intro w; go_simp; first | done | with_reducible rfl
        refine wpAny_ready (rs := [9]) (by kernel_rfl) (by simp) ?_
        refine AllReady.cons rfl (fun K hK => ?_) AllReady.nil
        go_simp
        try (refine hK _ _ ?_; clear hK K)
        refine wpAny_ready (rs := [10]) (by kernel_rfl) (by simp) ?_
        refine AllReady.cons rfl (fun K hK => ?_) AllReady.nil
        go_simp
        try (refine hK _ _ ?_; clear hK K)
        refine wpAny_done (by kernel_rfl) ?_ _
        go_wp2_with fail
        refine (eqCallS_own _ _ (addR a0 l1 X Y) (addR a0 l1 X Y).length (addR a0 l1 X Y).length w12 rfl rfl (by omega) Ovh.out Ovw.out).mono ?_
        rintro e w13 ⟨rfl, bel13⟩
        have b13 : Below V.heap.size V w13 := b12.trans (bel13.mono b12.size)
        have Ovw := Lib.hid (own_later Ovw.out bel13)
        have Ovg := Lib.hid (own_later Ovg.out bel13)
        have Ovh := Lib.hid (own_later Ovh.out bel13)
        clear bel13
        go_wp2_with fail
        refine (heldCallS_any _ _ (addR a0 l1 X Y) (addR a0 l1 X Y).length w13 rfl (by omega) Ovg.out).mono ?_
        rintro e w' ⟨rfl, rfl⟩
        go_wp2_with fail
        go_ret
        exact ⟨rfl, bW.trans (b13.mono bW.size)⟩
      refine AllReady.cons rfl (fun K hK => ?_) AllReady.nil
      go_simp
      try (refine hK _ _ ?_; clear hK K)
      refine wpAny_ready (rs := [2]) (by kernel_rfl) (by simp) ?_
      refine AllReady.cons rfl (fun K hK => ?_) AllReady.nil
      go_simp
      go_wp2_with (go_at_call 14; refine (toCallS_any o1 c1' l1 n1 dd Hn1 hs1 (Hc1.out.kept bdd)).mono ?_; rintro e w11 ⟨capu1, rfl, ownu1, bel11⟩)
      try (refine hK _ _ ?_; clear hK K)
      have b11 : Below V.heap.size V w11 := bdd.trans (bel11.mono bdd.size)
      have Ovw := Lib.hid (own_later Ovw.out bel11)
      have Ovg := Lib.hid (own_later Ovg.out bel11)
      clear bel11
      have Hu1 : V.heap.size ≤ w10.heap.size := b10.size
      have Ou1 := Lib.hid ownu1
      clear ownu1
      have Avwu1 := Lib.hid (apart_of OOvw.out Ou1.out)
      have Au1vw := Lib.hid (apart_of' OOvw.out Ou1.out)
      have Avgu1 := Lib.hid (apart_of OOvg.out Ou1.out)
      have Au1vg := Lib.hid (apart_of' OOvg.out Ou1.out)
      have OOvw := Ovw
      have OOvg := Ovg
      have OOu1 := Ou1
      have c0 := cell_old b11 C0.out
      have c1 := cell_old b11 C1.out
      refine wpAny_ready (rs := [4]) (by kernel_rfl) (by simp) ?_
      refine AllReady.cons rfl (fun K hK => ?_) AllReady.nil
      go_simp
      go_wp2_with (go_at_call 35; refine (toCall_any X Y w11).mono ?_; rintro e w11b ⟨rfl, belb⟩)
      try (refine hK _ _ ?_; clear hK K)
      have b11 : Below V.heap.size V w11b := b11.trans (belb.mono b11.size)
      have Ovw := Lib.hid (own_later Ovw.out belb)
      have Ovg := Lib.hid (own_later Ovg.out belb)
      have Ou1 := Lib.hid (own_later Ou1.out belb)
      have OOvw := Ovw
      have OOvg := Ovg
      have OOu1 := Ou1
      clear belb
      refine wpAny_ready (rs := [5]) (by kernel_rfl) (by simp) ?_
      refine AllReady.cons rfl (fun K hK => ?_) AllReady.nil
      go_simp
      go_wp2_with (go_at_call 36; refine (implAdd_law w11b a0 _ capu1 l1 n1 Hn1 hs1 (own_at Ou1.out Hn1.out) (own_cap Ou1.out) X Y).mono ?_; rintro e w12 ⟨vh, rfl, ownvh, bel12⟩)
      try (refine hK _ _ ?_; clear hK K)
      have b12 : Below V.heap.size V w12 := b11.trans (bel12.mono b11.size)
      have Ovw := Lib.hid (own_later Ovw.out bel12)
      have Ovg := Lib.hid (own_later Ovg.out bel12)
      have Ou1 := Lib.hid (own_later Ou1.out bel12)
      clear bel12
      have Hvh : V.heap.size ≤ w11b.heap.size := b11.size
      have Ovh := Lib.hid ownvh
      clear ownvh
      have Avwvh := Lib.hid (apart_of OOvw.out Ovh.out)
      have Avhvw := Lib.hid (apart_of' OOvw.out Ovh.out)
      have Avgvh := Lib.hid (apart_of OOvg.out Ovh.out)
      have Avhvg := Lib.hid (apart_of' OOvg.out Ovh.out)
      have Au1vh := Lib.hid (apart_of OOu1.out Ovh.out)
      have Avhu1 := Lib.hid (apart_of' OOu1.out Ovh.out)
      refine wpAny_take (i := 6) (v := ?_) rfl (by kernel_rfl) (by kernel_rfl) (by kernel_rfl) (fun _ _ _ h => h) (Or.inl ⟨by rfl, ?y6⟩) ?_
      case y6 => intro w; go_simp; first | done | with_reducible rfl
      refine wpAny_take (i := 7) (v := ?_) rfl (by kernel_rfl) (by kernel_rfl) (by kernel_rfl) (fun _ _ _ h => h) (Or.inl ⟨by rfl, ?y7⟩) ?_
      case y7 => intro w; go_simp; first | done | with_reducible rfl
      refine wpAny_take (i := 8) (v := ?_) rfl (by kernel_rfl) (by kernel_rfl) (by kernel_rfl) (fun _ _ _ h => h) (Or.inl ⟨by rfl, ?y8⟩) ?_
      case y8 => intro w; go_simp; first | done | with_reducible rfl
      refine wpAny_ready (rs := [9]) (by kernel_rfl) (by simp) ?_
      refine AllReady.cons rfl (fun K hK => ?_) AllReady.nil
      go_simp
      try (refine hK _ _ ?_; clear hK K)
      refine wpAny_ready (rs := [10]) (by kernel_rfl) (by simp) ?_
      refine AllReady.cons rfl (fun K hK => ?_) AllReady.nil
      go_simp
      try (refine hK _ _ ?_; clear hK K)
      refine wpAny_done (by kernel_rfl) ?_ _
      go_wp2_with fail
      refine (eqCallS_own _ _ (addR a0 l1 X Y) (addR a0 l1 X Y).length (addR a0 l1 X Y).length w12 rfl rfl (by omega) Ovh.out Ovw.out).mono ?_
      rintro e w13 ⟨rfl, bel13⟩
      have b13 : Below V.heap.size V w13 := b12.trans (bel13.mono b12.size)
      have Ovw := Lib.hid (own_later Ovw.out bel13)
      have Ovg := Lib.hid (own_later Ovg.out bel13)
      have Ovh := Lib.hid (own_later Ovh.out bel13)
      clear bel13
      go_wp2_with fail
      refine (heldCallS_any _ _ (addR a0 l1 X Y) (addR a0 l1 X Y).length w13 rfl (by omega) Ovg.out).mono ?_
      rintro e w' ⟨rfl, rfl⟩
      go_wp2_with fail
      go_ret
      exact ⟨rfl, bW.trans (b13.mono bW.size)⟩
    refine AllReady.cons rfl (fun K hK => ?_) AllReady.nil
    go_simp
    try (refine hK _ _ ?_; clear hK K)
    refine wpAny_ready (rs := [2]) (by kernel_rfl) (by simp) ?_
    refine AllReady.cons rfl (fun K hK => ?_) AllReady.nil
    go_simp
    go_wp2_with (go_at_call 14; refine (toCallS_any o1 c1' l1 n1 dd Hn1 hs1 (Hc1.out.kept bdd)).mono ?_; rintro e w1 ⟨capy1, rfl, owny1, bel1⟩)
    try (refine hK _ _ ?_; clear hK K)
    have b1 : Below V.heap.size V w1 := bdd.trans (bel1.mono bdd.size)
    clear bel1
    have Hy1 : V.heap.size ≤ V.heap.size := Nat.le_refl _
    have Oy1 := Lib.hid owny1
    clear owny1
    have OOy1 := Oy1
    have c0 := cell_old b1 C0.out
    have c1 := cell_old b1 C1.out
    refine wpAny_ready (rs := [4]) (by kernel_rfl) (by simp) ?_
    refine AllReady.cons rfl (fun K hK => ?_) AllReady.nil
    go_simp
    go_wp2_with (go_at_call 35; refine (toCall_any X Y w1).mono ?_; rintro e w1b ⟨rfl, belb⟩)
    try (refine hK _ _ ?_; clear hK K)
    have b1 : Below V.heap.size V w1b := b1.trans (belb.mono b1.size)
    have Oy1 := Lib.hid (own_later Oy1.out belb)
    have OOy1 := Oy1
    clear belb
    refine wpAny_ready (rs := [5]) (by kernel_rfl) (by simp) ?_
    refine AllReady.cons rfl (fun K hK => ?_) AllReady.nil
    go_simp
    go_wp2_with (go_at_call 34; refine (specAdd_law w1b a0 _ capy1 l1 n1 Hn1 hs1 (own_at Oy1.out Hn1.out) (own_cap Oy1.out) X Y).mono ?_; rintro e w2 ⟨vw, rfl, ownvw, bel2⟩)
    try (refine hK _ _ ?_; clear hK K)
    have b2 : Below V.heap.size V w2 := b1.trans (bel2.mono b1.size)
    have Oy1 := Lib.hid (own_later Oy1.out bel2)
    clear bel2
    have Hvw : V.heap.size ≤ w1b.heap.size := b1.size
    have Ovw := Lib.hid ownvw
    clear ownvw
    have Ay1vw := Lib.hid (apart_of OOy1.out Ovw.out)
    have Avwy1 := Lib.hid (apart_of' OOy1.out Ovw.out)
    have OOvw := Ovw
    refine wpAny_take (i := 6) (v := ?_) rfl (by kernel_rfl) (by kernel_rfl) (by kernel_rfl) (fun _ _ _ h => h) (Or.inl ⟨by rfl, ?y6⟩) ?_
    case y6 => intro w; go_simp; first | done | with_reducible rfl
    refine wpAny_take (i := 7) (v := ?_) rfl (by kernel_rfl) (by kernel_rfl) (by kernel_rfl) (fun _ _ _ h => h) (Or.inl ⟨by rfl, ?y7⟩) ?_
    case y7 => intro w; go_simp; first | done | with_reducible rfl
    refine wpAny_take (i := 8) (v := ?_) rfl (by kernel_rfl) (by kernel_rfl) (by kernel_rfl) (fun _ _ _ h => h) (Or.inl ⟨by rfl, ?y8⟩) ?_
    case y8 => intro w; go_simp; first | done | with_reducible rfl
    refine wpAny_ready (rs := [9]) (by kernel_rfl) (by simp) ?_
    refine AllReady.cons rfl (fun K hK => ?_) AllReady.nil
    go_simp
    try (refine hK _ _ ?_; clear hK K)
    refine wpAny_ready (rs := [10]) (by kernel_rfl) (by simp) ?_
    refine AllReady.cons rfl (fun K hK => ?_) AllReady.nil
    go_simp
    try (refine hK _ _ ?_; clear hK K)
    refine wpAny_done (by kernel_rfl) ?_ _
    go_wp2_with fail
    refine (toCallS_any o1 c1' l1 n1 w2 Hn1 hs1 (Hc1.out.kept b2)).mono ?_
    rintro e w3 ⟨capx1, rfl, ownx1, bel3⟩
    have b3 : Below V.heap.size V w3 := b2.trans (bel3.mono b2.size)
    have Ovw := Lib.hid (own_later Ovw.out bel3)
    clear bel3
    have Hx1 : V.heap.size ≤ w2.heap.size := b2.size
    have Ox1 := Lib.hid ownx1
    clear ownx1
    have Avwx1 := Lib.hid (apart_of OOvw.out Ox1.out)
    have Ax1vw := Lib.hid (apart_of' OOvw.out Ox1.out)
    have hok : ((addB a0 l1 X Y) != (addB a0 l1 X Y)) = false := by simp
    have OOvw := Ovw
    have OOx1 := Ox1
    have c0 := cell_old b3 C0.out
    have c1 := cell_old b3 C1.out
    go_wp2_with fail
    refine (toCall_any X Y w3).mono ?_
    rintro e w3b ⟨rfl, belb⟩
    have b3 : Below V.heap.size V w3b := b3.trans (belb.mono b3.size)
    have Ovw := Lib.hid (own_later Ovw.out belb)
    have Ox1 := Lib.hid (own_later Ox1.out belb)
    have OOvw := Ovw
    have OOx1 := Ox1
    clear belb c0 c1
    go_wp2_with fail
    refine (implAdd_law w3b a0 _ capx1 l1 n1 Hn1 hs1 (own_at Ox1.out Hn1.out) (own_cap Ox1.out) X Y).mono ?_
    rintro e w4 ⟨vg, rfl, ownvg, bel4⟩
    have b4 : Below V.heap.size V w4 := b3.trans (bel4.mono b3.size)
    have Ovw := Lib.hid (own_later Ovw.out bel4)
    have Ox1 := Lib.hid (own_later Ox1.out bel4)
    clear bel4
    have Hvg : V.heap.size ≤ w3b.heap.size := b3.size
    have Ovg := Lib.hid ownvg
    clear ownvg
    have Avwvg := Lib.hid (apart_of OOvw.out Ovg.out)
    have Avgvw := Lib.hid (apart_of' OOvw.out Ovg.out)
    have Ax1vg := Lib.hid (apart_of OOx1.out Ovg.out)
    have Avgx1 := Lib.hid (apart_of' OOx1.out Ovg.out)
    have hlen := addR_len a0 l1 X Y
    go_wp2_with fail
    refine (eqCallS_own _ _ (addR a0 l1 X Y) (addR a0 l1 X Y).length (addR a0 l1 X Y).length w4 rfl rfl (by omega) Ovg.out Ovw.out).mono ?_
    rintro e w5 ⟨rfl, bel5⟩
    have b5 : Below V.heap.size V w5 := b4.trans (bel5.mono b4.size)
    have Ovw := Lib.hid (own_later Ovw.out bel5)
    have Ox1 := Lib.hid (own_later Ox1.out bel5)
    have Ovg := Lib.hid (own_later Ovg.out bel5)
    clear bel5
    have OOvw := Ovw
    have OOx1 := Ox1
    have OOvg := Ovg
    go_wp2_with fail
    refine (toCallS_any o1 c1' l1 n1 w5 Hn1 hs1 (Hc1.out.kept b5)).mono ?_
    rintro e w6 ⟨capz1, rfl, ownz1, bel6⟩
    have b6 : Below V.heap.size V w6 := b5.trans (bel6.mono b5.size)
    have Ovw := Lib.hid (own_later Ovw.out bel6)
    have Ox1 := Lib.hid (own_later Ox1.out bel6)
    have Ovg := Lib.hid (own_later Ovg.out bel6)
    clear bel6
    have Hz1 : V.heap.size ≤ w5.heap.size := b5.size
    have Oz1 := Lib.hid ownz1
    clear ownz1
    have Avwz1 := Lib.hid (apart_of OOvw.out Oz1.out)
    have Az1vw := Lib.hid (apart_of' OOvw.out Oz1.out)
    have Ax1z1 := Lib.hid (apart_of OOx1.out Oz1.out)
    have Az1x1 := Lib.hid (apart_of' OOx1.out Oz1.out)
    have Avgz1 := Lib.hid (apart_of OOvg.out Oz1.out)
    have Az1vg := Lib.hid (apart_of' OOvg.out Oz1.out)
    go_wp2_with fail
    refine (eqCallS_own _ _ l1 n1 n1 w6 Hn1.out Hn1.out (by omega) Ox1.out Oz1.out).mono ?_
    rintro e w7 ⟨rfl, bel7⟩
    have b7 : Below V.heap.size V w7 := b6.trans (bel7.mono b6.size)
    have Ovw := Lib.hid (own_later Ovw.out bel7)
    have Ox1 := Lib.hid (own_later Ox1.out bel7)
    have Ovg := Lib.hid (own_later Ovg.out bel7)
    have Oz1 := Lib.hid (own_later Oz1.out bel7)
    clear bel7
    go_wp2_with fail
    refine (markCallS_any _ _ l1 n1 w7  Hn1.out (by omega) Ox1.out).mono ?_
    rintro e w8 ⟨rfl, ownx1, gr8⟩
    have b8 : Below V.heap.size V w8 := b7.grown gr8 b7.size (fun k hk => Nat.le_trans Hx1 (Ox1.out.lt k hk).1)
    have Ovw := Lib.hid (Ovw.out.kept gr8 Avwx1.out)
    have Ovg := Lib.hid (Ovg.out.kept gr8 Avgx1.out)
    have Ox1 := Lib.hid ownx1
    clear ownx1 gr8
    go_wp2_with fail
    refine (eqCallS_own _ _ (addR a0 l1 X Y) (addR a0 l1 X Y).length (addR a0 l1 X Y).length w8 rfl rfl (by omega) Ovg.out Ovw.out).mono ?_
    rintro e w9 ⟨rfl, bel9⟩
    have b9 : Below V.heap.size V w9 := b8.trans (bel9.mono b8.size)
    have Ovw := Lib.hid (own_later Ovw.out bel9)
    have Ox1 := Lib.hid (own_later Ox1.out bel9)
    have Ovg := Lib.hid (own_later Ovg.out bel9)
    clear bel9
    go_wp2_with fail
    refine (markCallS_any _ _ (addR a0 l1 X Y) (addR a0 l1 X Y).length w9 rfl (by omega) Ovg.out).mono ?_
    rintro e w10 ⟨rfl, ownvg, gr10⟩
    have b10 : Below V.heap.size V w10 := b9.grown gr10 b9.size (fun k hk => Nat.le_trans Hvg (Ovg.out.lt k hk).1)
    have Ovw := Lib.hid (Ovw.out.kept gr10 Avwvg.out)
    have Ovg := Lib.hid ownvg
    clear ownvg gr10
    have hmm : ((1 + 2 * ((addR a0 l1 X Y).length : Int)) != (1 + 2 * ((addR a0 l1 X Y).length : Int))) = false := by simp
    go_wp2_with fail
    refine (heldCallS_any _ _ (addR a0 l1 X Y) (addR a0 l1 X Y).length w10 rfl (by omega) Ovg.out).mono ?_
    rintro e w' ⟨rfl, rfl⟩
    have OOvw := Ovw
    have OOvg := Ovg
    go_wp2_with fail
    have bdd : Below V.heap.size V w10.drew := b10.drew
    have c0 : w10.drew.cell? ⟨W.heap.size, 0, none⟩ = some (.int .i64 X) := cell_old bdd C0.out
    have c1 : w10.drew.cell? ⟨W.heap.size, 1, none⟩ = some (.int .i64 Y) := cell_old bdd C1.out
    have DOvw := Lib.hid (own_later Ovw.out (Below.refl _ _).drew)
    have DOvg := Lib.hid (own_later Ovg.out (Below.refl _ _).drew)
    refine wp_region_any (by kernel_rfl) ?_
    change wpAny _ _ _ _ _ _ _ (World.drew _)
    obtain ⟨dd, hdd⟩ : ∃ dd, w10.drew = dd := ⟨_, rfl⟩
    rw [hdd] at bdd c0 c1 DOvw DOvg ⊢
    clear hdd
    have Ovw := DOvw
    have Ovg := DOvg
    have OOvw := DOvw
    have OOvg := DOvg
    refine wpAny_take (i := 0) (v := ?_) rfl (by kernel_rfl) (by kernel_rfl) (by kernel_rfl) (fun _ _ _ h => h) (Or.inl ⟨by rfl, ?y0⟩) ?_
    case y0 => intro w; go_simp; first | done | with_reducible rfl
    refine wpAny_take (i := 1) (v := ?_) rfl (by kernel_rfl) (by kernel_rfl) (by kernel_rfl) (fun _ _ _ h => h) (Or.inl ⟨by rfl, ?y1⟩) ?_
    case y1 => intro w; go_simp; first | done | with_reducible rfl
    refine wpAny_ready (rs := [2, 3]) (by kernel_rfl) (by simp) ?_
    refine AllReady.cons rfl (fun K hK => ?_) ?_
    · go_simp
      go_wp2_with (go_at_call 14; refine (toCallS_any o1 c1' l1 n1 dd Hn1 hs1 (Hc1.out.kept bdd)).mono ?_; rintro e w11 ⟨capu1, rfl, ownu1, bel11⟩)
      try (refine hK _ _ ?_; clear hK K)
      have b11 : Below V.heap.size V w11 := bdd.trans (bel11.mono bdd.size)
      have Ovw := Lib.hid (own_later Ovw.out bel11)
      have Ovg := Lib.hid (own_later Ovg.out bel11)
      clear bel11
      have Hu1 : V.heap.size ≤ w10.heap.size := b10.size
      have Ou1 := Lib.hid ownu1
      clear ownu1
      have Avwu1 := Lib.hid (apart_of OOvw.out Ou1.out)
      have Au1vw := Lib.hid (apart_of' OOvw.out Ou1.out)
      have Avgu1 := Lib.hid (apart_of OOvg.out Ou1.out)
      have Au1vg := Lib.hid (apart_of' OOvg.out Ou1.out)
      have OOvw := Ovw
      have OOvg := Ovg
      have OOu1 := Ou1
      have c0 := cell_old b11 C0.out
      have c1 := cell_old b11 C1.out
      refine wpAny_ready (rs := [3]) (by kernel_rfl) (by simp) ?_
      refine AllReady.cons rfl (fun K hK => ?_) AllReady.nil
      go_simp
      try (refine hK _ _ ?_; clear hK K)
      refine wpAny_ready (rs := [4]) (by kernel_rfl) (by simp) ?_
      refine AllReady.cons rfl (fun K hK => ?_) AllReady.nil
      go_simp
      go_wp2_with (go_at_call 35; refine (toCall_any X Y w11).mono ?_; rintro e w11b ⟨rfl, belb⟩)
      try (refine hK _ _ ?_; clear hK K)
      have b11 : Below V.heap.size V w11b := b11.trans (belb.mono b11.size)
      have Ovw := Lib.hid (own_later Ovw.out belb)
      have Ovg := Lib.hid (own_later Ovg.out belb)
      have Ou1 := Lib.hid (own_later Ou1.out belb)
      have OOvw := Ovw
      have OOvg := Ovg
      have OOu1 := Ou1
      clear belb
      refine wpAny_ready (rs := [5]) (by kernel_rfl) (by simp) ?_
      refine AllReady.cons rfl (fun K hK => ?_) AllReady.nil
      go_simp
      go_wp2_with (go_at_call 36; refine (implAdd_law w11b a0 _ capu1 l1 n1 Hn1 hs1 (own_at Ou1.out Hn1.out) (own_cap Ou1.out) X Y).mono ?_; rintro e w12 ⟨vh, rfl, ownvh, bel12⟩)
      try (refine hK _ _ ?_; clear hK K)
      have b12 : Below V.heap.size V w12 := b11.trans (bel12.mono b11.size)
      have Ovw := Lib.hid (own_later Ovw.out bel12)
      have Ovg := Lib.hid (own_later Ovg.out bel12)
      have Ou1 := Lib.hid (own_later Ou1.out bel12)
      clear bel12
      have Hvh : V.heap.size ≤ w11b.heap.size := b11.size
      have Ovh := Lib.hid ownvh
      clear ownvh
      have Avwvh := Lib.hid (apart_of OOvw.out Ovh.out)
      have Avhvw := Lib.hid (apart_of' OOvw.out Ovh.out)
      have Avgvh := Lib.hid (apart_of OOvg.out Ovh.out)
      have Avhvg := Lib.hid (apart_of' OOvg.out Ovh.out)
      have Au1vh := Lib.hid (apart_of OOu1.out Ovh.out)
      have Avhu1 := Lib.hid (apart_of' OOu1.out Ovh.out)
      refine wpAny_take (i := 6) (v := ?_) rfl (by kernel_rfl) (by kernel_rfl) (by kernel_rfl) (fun _ _ _ h => h) (Or.inl ⟨by rfl, ?y6⟩) ?_
      case y6 => intro w; go_simp; first | done | with_reducible rfl
      refine wpAny_take (i := 7) (v := ?_) rfl (by kernel_rfl) (by kernel_rfl) (by kernel_rfl) (fun _ _ _ h => h) (Or.inl ⟨by rfl, ?y7⟩) ?_
      case y7 => intro w; go_simp; first | done | with_reducible rfl
      refine wpAny_take (i := 8) (v := ?_) rfl (by kernel_rfl) (by kernel_rfl) (by kernel_rfl) (fun _ _ _ h => h) (Or.inl ⟨by rfl, ?y8⟩) ?_
      case y8 => intro w; go_simp; first | done | with_reducible rfl
      refine wpAny_ready (rs := [9]) (by kernel_rfl) (by simp) ?_
      refine AllReady.cons rfl (fun K hK => ?_) AllReady.nil
      go_simp
      try (refine hK _ _ ?_; clear hK K)
      refine wpAny_ready (rs := [10]) (by kernel_rfl) (by simp) ?_
      refine AllReady.cons rfl (fun K hK => ?_) AllReady.nil
      go_simp
      try (refine hK _ _ ?_; clear hK K)
      refine wpAny_done (by kernel_rfl) ?_ _
      go_wp2_with fail
      refine (eqCallS_own _ _ (addR a0 l1 X Y) (addR a0 l1 X Y).length (addR a0 l1 X Y).length w12 rfl rfl (by omega) Ovh.out Ovw.out).mono ?_
      rintro e w13 ⟨rfl, bel13⟩
      have b13 : Below V.heap.size V w13 := b12.trans (bel13.mono b12.size)
      have Ovw := Lib.hid (own_later Ovw.out bel13)
      have Ovg := Lib.hid (own_later Ovg.out bel13)
      have Ovh := Lib.hid (own_later Ovh.out bel13)
      clear bel13
      go_wp2_with fail
      refine (heldCallS_any _ _ (addR a0 l1 X Y) (addR a0 l1 X Y).length w13 rfl (by omega) Ovg.out).mono ?_
      rintro e w' ⟨rfl, rfl⟩
      go_wp2_with fail
      go_ret
      exact ⟨rfl, bW.trans (b13.mono bW.size)⟩
    refine AllReady.cons rfl (fun K hK => ?_) AllReady.nil
    go_simp
    try (refine hK _ _ ?_; clear hK K)
    refine wpAny_ready (rs := [2]) (by kernel_rfl) (by simp) ?_
    refine AllReady.cons rfl (fun K hK => ?_) AllReady.nil
    go_simp
    go_wp2_with (go_at_call 14; refine (toCallS_any o1 c1' l1 n1 dd Hn1 hs1 (Hc1.out.kept bdd)).mono ?_; rintro e w11 ⟨capu1, rfl, ownu1, bel11⟩)
    try (refine hK _ _ ?_; clear hK K)
    have b11 : Below V.heap.size V w11 := bdd.trans (bel11.mono bdd.size)
    have Ovw := Lib.hid (own_later Ovw.out bel11)
    have Ovg := Lib.hid (own_later Ovg.out bel11)
    clear bel11
    have Hu1 : V.heap.size ≤ w10.heap.size := b10.size
    have Ou1 := Lib.hid ownu1
    clear ownu1
    have Avwu1 := Lib.hid (apart_of OOvw.out Ou1.out)
    have Au1vw := Lib.hid (apart_of' OOvw.out Ou1.out)
    have Avgu1 := Lib.hid (apart_of OOvg.out Ou1.out)
    have Au1vg := Lib.hid (apart_of' OOvg.out Ou1.out)
    have OOvw := Ovw
    have OOvg := Ovg
    have OOu1 := Ou1
    have c0 := cell_old b11 C0.out
    have c1 := cell_old b11 C1.out
    refine wpAny_ready (rs := [4]) (by kernel_rfl) (by simp) ?_
    refine AllReady.cons rfl (fun K hK => ?_) AllReady.nil
    go_simp
    go_wp2_with (go_at_call 35; refine (toCall_any X Y w11).mono ?_; rintro e w11b ⟨rfl, belb⟩)
    try (refine hK _ _ ?_; clear hK K)
    have b11 : Below V.heap.size V w11b := b11.trans (belb.mono b11.size)
    have Ovw := Lib.hid (own_later Ovw.out belb)
    have Ovg := Lib.hid (own_later Ovg.out belb)
    have Ou1 := Lib.hid (own_later Ou1.out belb)
    have OOvw := Ovw
    have OOvg := Ovg
    have OOu1 := Ou1
    clear belb
    refine wpAny_ready (rs := [5]) (by kernel_rfl) (by simp) ?_
    refine AllReady.cons rfl (fun K hK => ?_) AllReady.nil
    go_simp
    go_wp2_with (go_at_call 36; refine (implAdd_law w11b a0 _ capu1 l1 n1 Hn1 hs1 (own_at Ou1.out Hn1.out) (own_cap Ou1.out) X Y).mono ?_; rintro e w12 ⟨vh, rfl, ownvh, bel12⟩)
    try (refine hK _ _ ?_; clear hK K)
    have b12 : Below V.heap.size V w12 := b11.trans (bel12.mono b11.size)
    have Ovw := Lib.hid (own_later Ovw.out bel12)
    have Ovg := Lib.hid (own_later Ovg.out bel12)
    have Ou1 := Lib.hid (own_later Ou1.out bel12)
    clear bel12
    have Hvh : V.heap.size ≤ w11b.heap.size := b11.size
    have Ovh := Lib.hid ownvh
    clear ownvh
    have Avwvh := Lib.hid (apart_of OOvw.out Ovh.out)
    have Avhvw := Lib.hid (apart_of' OOvw.out Ovh.out)
    have Avgvh := Lib.hid (apart_of OOvg.out Ovh.out)
    have Avhvg := Lib.hid (apart_of' OOvg.out Ovh.out)
    have Au1vh := Lib.hid (apart_of OOu1.out Ovh.out)
    have Avhu1 := Lib.hid (apart_of' OOu1.out Ovh.out)
    refine wpAny_take (i := 6) (v := ?_) rfl (by kernel_rfl) (by kernel_rfl) (by kernel_rfl) (fun _ _ _ h => h) (Or.inl ⟨by rfl, ?y6⟩) ?_
    case y6 => intro w; go_simp; first | done | with_reducible rfl
    refine wpAny_take (i := 7) (v := ?_) rfl (by kernel_rfl) (by kernel_rfl) (by kernel_rfl) (fun _ _ _ h => h) (Or.inl ⟨by rfl, ?y7⟩) ?_
    case y7 => intro w; go_simp; first | done | with_reducible rfl
    refine wpAny_take (i := 8) (v := ?_) rfl (by kernel_rfl) (by kernel_rfl) (by kernel_rfl) (fun _ _ _ h => h) (Or.inl ⟨by rfl, ?y8⟩) ?_
    case y8 => intro w; go_simp; first | done | with_reducible rfl
    refine wpAny_ready (rs := [9]) (by kernel_rfl) (by simp) ?_
    refine AllReady.cons rfl (fun K hK => ?_) AllReady.nil
    go_simp
    try (refine hK _ _ ?_; clear hK K)
    refine wpAny_ready (rs := [10]) (by kernel_rfl) (by simp) ?_
    refine AllReady.cons rfl (fun K hK => ?_) AllReady.nil
    go_simp
    try (refine hK _ _ ?_; clear hK K)
    refine wpAny_done (by kernel_rfl) ?_ _
    go_wp2_with fail
    refine (eqCallS_own _ _ (addR a0 l1 X Y) (addR a0 l1 X Y).length (addR a0 l1 X Y).length w12 rfl rfl (by omega) Ovh.out Ovw.out).mono ?_
    rintro e w13 ⟨rfl, bel13⟩
    have b13 : Below V.heap.size V w13 := b12.trans (bel13.mono b12.size)
    have Ovw := Lib.hid (own_later Ovw.out bel13)
    have Ovg := Lib.hid (own_later Ovg.out bel13)
    have Ovh := Lib.hid (own_later Ovh.out bel13)
    clear bel13
    go_wp2_with fail
    refine (heldCallS_any _ _ (addR a0 l1 X Y) (addR a0 l1 X Y).length w13 rfl (by omega) Ovg.out).mono ?_
    rintro e w' ⟨rfl, rfl⟩
    go_wp2_with fail
    go_ret
    exact ⟨rfl, bW.trans (b13.mono bW.size)⟩
  · go_enter Try.func10, Try.ntmps10
    go_wp2_with fail
    clear hV
    refine (szCallS_great o1 n1 c1' V (by omega) q1m).mono ?_
    rintro e w' ⟨rfl, rfl⟩
    go_wp2_with fail
    go_ret
    exact ⟨rfl, bW⟩

end Go.Proofs.Ytbddhjpofijmpaa
