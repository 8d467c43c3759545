/- The letters told backwards: the program, by a loop over slices.Backward. -/
import Derived.Test.YtolkfgjgnpjpkaaBackIt
namespace Go.Proofs.Ytolkfgjgnpjpkaa
open Go.ChangeShapes Go.WideShapes Go.ChangeAt Go.RowKit Go.Shelf
set_option linter.unusedVariables false


attribute [local go_sem] Oper.semAt_some

theorem KpB.put {n₀ Bs : Nat} {w : World} (hn : n₀ ≤ w.heap.size) (hB : Bs < w.heap.size) (W : World) (l : Nat) (o o' : Obj) (hl : w.heap.size ≤ l) (h : W.heap[l]? = some o) (a : o.isCells = false) (b : o.isWalk = false) : KpB n₀ Bs W (W.putObj l o') :=
  ⟨belowK_b hn W l o o' hl h a b, World.putObj_heap_other (by omega)⟩

/-- What has been written when these have come. -/
def bkl (pre : List (Int × Int × Int)) : List (Int × Int) := pre.map fun x => (x.2.2, x.2.1)
theorem bkl_snoc (pre : List (Int × Int × Int)) (x : Int × Int × Int) : bkl (pre ++ [x]) = bkl pre ++ [(x.2.2, x.2.1)] := by simp [bkl]
theorem bkl_all (l : List (Int × Int)) (n : Nat) (hn : n = l.length) : ∀ k, k ≤ n → bkl (upt (bwd l n) k) = (swp l).reverse.take k
  | 0, _ => by simp [bkl, upt]
  | k + 1, h => by
    rw [upt_succ, bkl_snoc, bkl_all l n hn k (by omega), rev_step l n k hn (by omega)]
    rfl
theorem callsAt_block {w : World} {b off : Nat} {l : List (Int × Int)} (h : CallsAt w (some ⟨b, off, none⟩) l) (h0 : 0 < l.length) : b < w.heap.size := by
  rcases h with h | ⟨b', off', e, hc⟩
  · simp [h] at h0
  · simp only [Option.some.injEq, Addr.mk.injEq] at e
    obtain ⟨rfl, rfl, _⟩ := e
    exact World.block_lt_of_cell? w _ (hc 0 h0).1

set_option maxRecDepth 100000 in
set_option maxHeartbeats 4000000 in
theorem implBackL_yes (w : World) (f : Int) (ao : Option Addr) (cap : Nat) (l : List (Int × Int)) (n : Nat) (Hn : Hid (n = l.length)) (hs : n ≤ 60) (HHA : Hid (CallsAt w ao l)) (Hg : Hid (gdL f l = true)) :
    Calls Try.prog 48 #[.int .i64 f, .slice ao n cap] w fun e w' => ∃ v, e = .returned (.tuple #[v, .bool true]) ∧ w'.ownsRow w.heap.size 62 2 v n (cs (swp l).reverse) ∧ Below w.heap.size w w' := by
  obtain ⟨i0, hi, hz0, hz1, hz2⟩ := info_parts info62
  refine (callsIn_wide (n := 4)).1 ?_
  refine callsIn_of_wp_marks Try.func48 rfl trivial ?_ rfl
  simp only [Try.ntmps48, List.size_toArray, List.length_cons, List.length_nil, Nat.reduceAdd, Nat.reduceSub, Array.replicate_succ, Array.replicate_zero, List.push_toArray, List.append_toArray, List.nil_append, List.cons_append]
  have t21 : Fence.wide.fn 21 := trivial
  have t85 : Fence.wide.fn 85 := trivial
  gi_wp2_with (gi_at_call 21; refine (callsIn_wide.2 (areLetters_any f ao cap l n w Hn.out (by omega) HHA.out)).mono ?_; rintro e w1 ⟨rfl, hb1⟩; rw [Hg.out])
  gi_wp2_with (gi_at_call 85; refine (backward_in Fence.wide (4 - 1) t85 rfl _ _ _ _).mono ?_; rintro e w' ⟨rfl, rfl⟩)
  have hs1 := hb1.size
  have bO := (Boxed.new w1 25 (.slice none 0 0)).alloc (.cells #[.slice ao n cap] 25)
  have bN := Boxed.new (w1.alloc (.cells #[.slice none 0 0] 25)) 25 (.slice ao n cap)
  rw [World.size_alloc] at bN
  have hB0 : Below w.heap.size w ((w1.alloc (.cells #[.slice none 0 0] 25)).alloc (.cells #[.slice ao n cap] 25)) := (hb1.alloc hs1 _).alloc (by simp; omega) _
  have hsz : ((w1.alloc (.cells #[.slice none 0 0] 25)).alloc (.cells #[.slice ao n cap] 25)).heap.size = w1.heap.size + 2 := by simp
  obtain ⟨W0, hW0⟩ : ∃ W0, (w1.alloc (.cells #[.slice none 0 0] 25)).alloc (.cells #[.slice ao n cap] 25) = W0 := ⟨_, rfl⟩
  rw [hW0] at bO bN hB0 hsz ⊢
  clear hW0
  generalize hB6 : w1.heap.size = B6 at *
  have hA0 : CallsAt W0 ao l := HHA.out.kept hB0
  refine wpIn_rangeFunc_ownH rfl (by omega) (gf := 106) (lb := #[.pointer (some ⟨B6 + 1, 0, none⟩)]) rfl trivial (enters_of Try.func106 (by kernel_rfl) rfl)
    (backward_stops Fence.wide (4 - 1) trivial rfl (by omega) (B6 + 1) w.heap.size n cap ao l (by omega) Hn.out W0 (by omega) (by omega) bN.cell
      (fun b off e h0 => by subst e; exact callsAt_block HHA.out (by rw [← Hn.out]; exact h0)) hA0) KpB.trans (KpB.put (by omega) (by omega)) (Below.refl _ _) (fun _ => rfl)
    (fun pre W => ((∃ v, Boxed W B6 25 v ∧ W.ownsRow w.heap.size 62 2 v pre.length (cs (bkl pre)) ∧ True) ∧ Boxed W (B6 + 1) 25 (.slice ao n cap)) ∧ Below w.heap.size w W)
    (fun _ _ _ => False)
    (OwnFrom.and (OwnFrom.and (Own.from (holdsRow_own w.heap.size B6 25 62 2 (fun pre => pre.length) (fun pre => cs (bkl pre)) (fun _ _ => True)) _) (Own.from (boxed_own _ _ _) _)) (ownFrom_below (Nat.le_refl _) (by omega)))
    (fun _ _ _ _ _ hs _ _ => hs)
    ⟨⟨⟨_, bO, World.ownsRow_nil _ _ _ _, trivial⟩, bN⟩, hB0⟩
    (fun x a' W => ∃ Bx, B6 + 1 < Bx ∧ W.heap[Bx]? = some (.cells #[.int .i64 x.2.1, .int .i64 x.2.2] 62 (0, 0)) ∧ a' = { tmps := #[.int .i64 f, .slice ao n cap, undef, undef, .slice none 0 0, .bool false, .pointer (some ⟨B6, 0, none⟩), undef, .pointer (some ⟨Bx, 0, none⟩), .int .i64 f, .slice ao n cap, .bool true, .bool false, .slice ao n cap, .func (.func 106) #[] #[.pointer (some ⟨B6 + 1, 0, none⟩)], .int .i64 x.1, .agg #[.int .i64 x.2.1, .int .i64 x.2.2], undef, undef, undef, undef, undef, undef, undef, undef, undef], defers := [] })
    (fun x a' _ X Y row hs hg hr => by
      obtain ⟨Bx, h1, h2, h3⟩ := hs
      refine ⟨Bx, h1, (hg.block Bx (Array.getElem?_eq_some_iff.1 h2).1 (fun e => ?_)).trans h2, h3⟩
      obtain ⟨o, ho, hc⟩ := (hr Bx e.symm).2
      rw [h2] at ho; cases ho; cases hc)
    ?assign ?body ?done ?stop
  case assign =>
    rintro lr pre x W K ⟨⟨⟨v, hv, hrow, _⟩, bN1⟩, hB1⟩ hK
    dsimp only [encB]
    gi_wp2
    exact hK _ _ ((KeepsOthers.alloc _ _).from _) ⟨(Below.refl _ W).alloc hB1.size _, Below.heap_alloc W _ _ bN1.lt⟩ ⟨⟨⟨v, hv.alloc _, hrow.alloc _, trivial⟩, bN1.alloc _⟩, hB1.alloc hB1.size _⟩ ⟨W.heap.size, bN1.lt, World.alloc_heap_new W _, rfl⟩
  case body =>
    rintro lr pre x a' W hl ⟨r, hr⟩ ⟨⟨⟨v, hv, hrow, _⟩, bN1⟩, hB1⟩ ⟨Bx, hBx, hx, rfl⟩ hlt
    have hc := hv.cell
    have hx0 : W.cell? ⟨Bx, 0, none⟩ = some (.int .i64 x.2.1) := cell_of_row W Bx 0 _ _ _ hx
    have hx1 : W.cell? ⟨Bx, 1, none⟩ = some (.int .i64 x.2.2) := cell_of_row W Bx 1 _ _ _ hx
    have hWs := hB1.size
    gi_wp2_with (gi_at_builtin; refine wpListIn_append_own _ rfl _ _ 25 rfl w.heap.size 62 i0 (.agg #[.int .i64 0, .int .i64 0]) 2 16 Try.underlying25 hi hz0 hz1 hz2 rfl (by decide) _ _ _ rfl (hrow.alloc _) ⟨W.heap.size, 0, none⟩ 1 1 [.int .i64 x.2.2, .int .i64 x.2.1] rfl rfl (World.news_of_block (cs := #[.int .i64 x.2.2, .int .i64 x.2.1]) (t := 62) (fr := (0, 0)) (heap_alloc_new _ _)) (by intro u hu; simp at hu; rcases hu with rfl | rfl <;> rfl) (by unfold maxLen; omega) (by omega) (by simp; omega) ?_; intro v' w2 hown' hgrow _; obtain ⟨g', cap', rfl⟩ := ownsRow_succ hown'; obtain ⟨hv1, hv2, hr2, hk2, hb2⟩ := hv.appended (by decide) hrow hB1.size (by omega) hown' hgrow; have hc1 := hv1.cell; have hf1 := hv1.frozen)
    have bN2 : Boxed w2 (B6 + 1) 25 (.slice ao n cap) := (bN1.alloc _).kept hgrow (bN1.not_row (by decide) hrow)
    have bN3 := bN2.other (B' := B6) (by omega) (.slice (some ⟨g', 0, none⟩) (pre.length + 1) cap')
    exact ⟨hk2.from _, ⟨hb2, bN3.trans bN1.symm⟩, ⟨⟨_, hv2, by rw [List.length_append, List.length_singleton, bkl_snoc, cs_append]; exact hr2, trivial⟩, bN3⟩, hB1.trans hb2⟩
  case done =>
    rintro D ys W hD rfl ⟨⟨⟨v, hv, hrow, _⟩, bN1⟩, hB1⟩ hK
    have hc := hv.cell
    have hall : bkl (upt (bwd l n) n) = (swp l).reverse := by rw [bkl_all l n Hn.out n (Nat.le_refl _)]; exact List.take_of_length_le (by simp [swp_length, ← Hn.out])
    rw [hall, upt_length] at hrow
    gi_wp2
    refine ⟨by simp, .inl ⟨_, _, rfl, run_takeDeferred hK, ?_⟩⟩
    exact ⟨_, results_tmp2 rfl _ _ _, v, rfl, ownsRow_putObj hrow _ hK rfl, hB1.trans (belowK_b (w := w) (Nat.le_refl _) W D _ _ (by omega) hK rfl rfl)⟩
  case stop =>
    rintro D c pre W _ _ h _
    exact h.elim


theorem implBackL_no (w : World) (f : Int) (ao : Option Addr) (cap : Nat) (l : List (Int × Int)) (n : Nat) (Hn : Hid (n = l.length)) (hs : n ≤ 1048576) (Hc : CallsAt w ao l) (hg : gdL f l = false) :
    Calls Try.prog 48 #[.int .i64 f, .slice ao n cap] w fun e w' => ∃ v, e = .returned (.tuple #[v, .bool false]) ∧ w'.ownsRow w.heap.size 62 2 v 0 (cs []) ∧ Below w.heap.size w w' := by
  have HHc := Lib.hid Hc
  have Hg := Lib.hid hg
  clear hg Hc
  go_enter Try.func48, Try.ntmps48
  go_wp2_with fail
  refine (areLetters_any f ao cap l n w Hn.out (by omega) HHc.out).mono ?_
  rintro e w1 ⟨rfl, hb⟩
  have Hown1 := Lib.hid (World.ownsRow_nil w1 w.heap.size 62 2)
  rw [Hg.out]
  go_wp2_with fail
  go_ret2
  exact ⟨_, rfl, Hown1.out, hb⟩

theorem implBackL_any (w : World) (f : Int) (ao : Option Addr) (cap : Nat) (l : List (Int × Int)) (n : Nat) (Hn : Hid (n = l.length)) (hs : n ≤ 1048576) (Hc : CallsAt w ao l) :
    Calls Try.prog 48 #[.int .i64 f, .slice ao n cap] w fun e w' => ∃ v, e = .returned (.tuple #[v, .bool (gdL f l)]) ∧ w'.ownsRow w.heap.size 62 2 v (backL f l).length (cs (backL f l)) ∧ Below w.heap.size w w' := by
  cases hg : gdL f l
  · rw [show backL f l = [] by simp [backL, hg]]
    exact implBackL_no w f ao cap l n Hn hs Hc hg
  · rw [show backL f l = (swp l).reverse by simp [backL, hg], List.length_reverse, swp_length, ← Hn.out]
    exact implBackL_yes w f ao cap l n Hn (by rw [Hn.out]; exact gl_len2 hg) Hc hg

end Go.Proofs.Ytolkfgjgnpjpkaa
