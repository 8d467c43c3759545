/- A call is put into its place: the model, at every round. -/
import Derived.Test.YtnngdoiempmkkaaPut
namespace Go.Proofs.Ytnngdoiempmkkaa
open Go.ChangeShapes Go.WideShapes Go.ChangeAt Go.RowKit
set_option linter.unusedVariables false


set_option maxRecDepth 20000 in
set_option maxHeartbeats 4000000 in
theorem roPut_nil (x y : Int) (w : World) :
    Calls Try.prog 32 #[.slice none 0 0, .agg #[.int .i64 x, .int .i64 y]] w fun e w' => ∃ v, e = .returned v ∧ w'.ownsRow w.heap.size 46 2 v 1 (cs [(x, y)]) ∧ Below w.heap.size w w' := by
  obtain ⟨i0, hi, hz0, hz1, hz2⟩ := info_parts info46
  go_enter Try.func32, Try.ntmps32
  go_wp2_with fail
  obtain ⟨W, hW⟩ : ∃ W, w.alloc (Obj.cells #[Value.int IntKind.i64 x, Value.int IntKind.i64 y] 46) = W := ⟨_, rfl⟩
  have hc0 : W.cell? ⟨w.heap.size, 0, none⟩ = some (.int .i64 x) := by rw [← hW]; simp
  have hc1 : W.cell? ⟨w.heap.size, 1, none⟩ = some (.int .i64 y) := by rw [← hW]; simp
  have hbW : Hid (Below w.heap.size w W) := by rw [← hW]; exact (Below.refl _ _).alloc (Nat.le_refl _) _
  try rw [hW]
  clear hW
  have HC0 := Lib.hid hc0
  have HC1 := Lib.hid hc1
  clear hc0 hc1
  go_loopw [5] (fun i wr => i = .int .i64 0 ∧ Below W.heap.size W wr) (fun _ _ => 0)
  case atStart => exact ⟨rfl, Below.refl _ _⟩
  case round =>
    obtain ⟨rfl, hbel⟩ := hrel
    have C0 := cell_old hbel HC0.out
    have C1 := cell_old hbel HC1.out
    have c0g : ∀ m os, (Sort.grow (wr.drewN m) os).cell? ⟨w.heap.size, 0, none⟩ = some (.int .i64 x) := cell_grown (World.block_lt_of_cell? _ _ C0) C0
    have c1g : ∀ m os, (Sort.grow (wr.drewN m) os).cell? ⟨w.heap.size, 1, none⟩ = some (.int .i64 y) := cell_grown (World.block_lt_of_cell? _ _ C1) C1
    go_wp2_with fail
    refine wp_region_quiet_grown mixedT (by kernel_rfl) ?_
    repeat (go_big_quiet_step (first | fail))
    refine wpQuiet_nil ?_
    intro _ hwz
    obtain ⟨⟨nq, osq⟩, hwz2⟩ := hwz
    subst hwz2
    have hb3 : Below W.heap.size W (Sort.grow (wr.drewN nq) osq) := hbel.trans ((grown_below ⟨⟨nq, osq⟩, rfl⟩).mono hbel.size)
    have d0 := c0g nq osq
    have d1 := c1g nq osq
    clear c0g c1g hbel C0 C1
    generalize Sort.grow (wr.drewN nq) osq = w3 at *
    have Hw3 := Lib.hid (hbW.out.trans (hb3.mono hbW.out.size))
    have hs3 := hb3.size
    have HB1 : Hid (∀ o, Below w3.heap.size w3 (w3.alloc o).drew) := fun o => ((Below.refl _ _).alloc (Nat.le_refl _) _).drew
    have HB2 : Hid (∀ o o', Below w3.heap.size w3 ((w3.alloc o).alloc o').drew) := fun o o' => (((Below.refl _ _).alloc (Nat.le_refl _) _).alloc (by simp) _).drew
    have HE1 : Hid ((w3.alloc (.cells #[] 46)).drew.ownsRow w3.heap.size 46 2 (.slice (some ⟨w3.heap.size, 0, none⟩) 0 0) 0 []) := (World.ownsRow_lit w3 #[] 0 (Nat.le_refl _) (by unfold maxLen; omega) rfl).drew
    have HE2 : Hid (((w3.alloc (.cells #[] 46)).alloc (.cells #[.int .i64 x, .int .i64 y] 46)).drew.ownsRow w3.heap.size 46 2 (.slice (some ⟨w3.heap.size, 0, none⟩) 0 0) 0 []) := ((World.ownsRow_lit w3 #[] 0 (Nat.le_refl _) (by unfold maxLen; omega) rfl).alloc _).drew
    have HE3 : Hid (((w3.alloc (.cells #[.int .i64 x, .int .i64 y] 46)).alloc (.cells #[] 46)).drew.ownsRow w3.heap.size 46 2 (.slice (some ⟨w3.heap.size + 1, 0, none⟩) 0 0) 0 []) := by
      have h := (World.ownsRow_lit (base := w3.heap.size) (w3.alloc (.cells #[.int .i64 x, .int .i64 y] 46)) #[] 0 (e := 46) (size := 2) (by simp) (by unfold maxLen; omega) rfl).drew
      exact Lib.hid (by simpa using h)
    have HNE2 : Hid (∀ (j : Nat) u, [Value.int .i64 x, .int .i64 y][j]? = some u → (((w3.alloc (.cells #[] 46)).alloc (.cells #[.int .i64 x, .int .i64 y] 46)).drew).cell? ((⟨w3.heap.size + 1, 0, none⟩ : Addr).add j) = some u) := by
      have h := World.news_of_block (cs := #[.int .i64 x, .int .i64 y]) (t := 46) (fr := (0, 0)) (heap_alloc_new (w3.alloc (.cells #[] 46)) (.cells #[.int .i64 x, .int .i64 y] 46))
      exact Lib.hid (by simpa using h)
    have HNE3 : Hid (∀ (j : Nat) u, [Value.int .i64 x, .int .i64 y][j]? = some u → (((w3.alloc (.cells #[.int .i64 x, .int .i64 y] 46)).alloc (.cells #[] 46)).drew).cell? ((⟨w3.heap.size, 0, none⟩ : Addr).add j) = some u) := by
      intro j u hu
      have h := World.news_of_block (cs := #[.int .i64 x, .int .i64 y]) (t := 46) (fr := (0, 0)) (heap_alloc_new w3 (.cells #[.int .i64 x, .int .i64 y] 46)) j u hu
      rw [add_at] at h ⊢
      have := cell_old ((Below.refl _ (w3.alloc (.cells #[.int .i64 x, .int .i64 y] 46))).alloc (Nat.le_refl _) (.cells #[] 46)) h
      exact this
    have HONE : Hid (∀ u ∈ [Value.int .i64 x, .int .i64 y], u.oneCell' = true) := by intro u hu; simp at hu; rcases hu with rfl | rfl <;> rfl
    have H0 := Lib.hid d0
    have H1 := Lib.hid d1
    clear d0 d1
    go_wp2_with fail
    go_region_held3 (fun w' => w'.cell? ⟨w.heap.size, 0, none⟩ = some (.int .i64 x) ∧ w'.cell? ⟨w.heap.size, 1, none⟩ = some (.int .i64 y) ∧ Hid (Below w3.heap.size w3 w'))
      (first | exact keepS H0.out H1.out (Below.refl _ _).drew | exact keepS H0.out H1.out (HB1.out _) | exact keepS H0.out H1.out (HB2.out _ _) | assumption | exact keepS H0.out H1.out hb29)
      (first
        | (refine step_append_nil _ (by rfl) _ _ _ (by rfl) w3.heap.size 46 i0 2 Try.underlying29 hi _ 0 [] (by rfl) HE1.out (by rfl) ?_)
        | (refine step_append_nil _ (by rfl) _ _ _ (by rfl) w3.heap.size 46 i0 2 Try.underlying29 hi _ 0 [] (by rfl) HE2.out (by rfl) ?_)
        | (refine step_append_nil _ (by rfl) _ _ _ (by rfl) w3.heap.size 46 i0 2 Try.underlying29 hi _ 0 [] (by rfl) HE3.out (by rfl) ?_)
        | (refine step_append_mine _ (by rfl) _ _ _ (by rfl) w3.heap.size 46 i0 _ 2 16 Try.underlying29 hi hz0 hz1 hz2 rfl (by omega) _ _ _ (by rfl) HE2.out ⟨w3.heap.size + 1, 0, none⟩ 1 _ [.int .i64 x, .int .i64 y] (by rfl) (by rfl) HNE2.out HONE.out (by unfold maxLen; omega) (by omega) (HB2.out _ _).size ?_
           intro v29 w29 own29 gr29
           have hb29 : Below w3.heap.size w3 w29 := (HB2.out _ _).grown gr29 (HB2.out _ _).size (fun b hb => by cases hb; exact Nat.le_refl _))
        | (refine step_append_mine _ (by rfl) _ _ _ (by rfl) w3.heap.size 46 i0 _ 2 16 Try.underlying29 hi hz0 hz1 hz2 rfl (by omega) _ _ _ (by rfl) HE3.out ⟨w3.heap.size, 0, none⟩ 1 _ [.int .i64 x, .int .i64 y] (by rfl) (by rfl) HNE3.out HONE.out (by unfold maxLen; omega) (by omega) (HB2.out _ _).size ?_
           intro v29 w29 own29 gr29
           have hb29 : Below w3.heap.size w3 w29 := (HB2.out _ _).grown gr29 (HB2.out _ _).size (fun b hb => by cases hb; exact Nat.le_succ _))
        | fail)
    all_goals
      have Own29 := Lib.hid own29
      have Hb29 := Lib.hid hb29
      clear own29 hb29
      go_wp2_with (at_builtin; refine wpList_append_own_none rfl _ _ 29 rfl w3.heap.size 46 i0 2 Try.underlying29 hi _ _ _ rfl Own29.out rfl ?_)
      go_wp2_with fail
      go_ret
      exact ⟨_, rfl, own_base Hw3.out.size Own29.out, Hw3.out.trans (Hb29.out.mono Hw3.out.size)⟩


theorem roPut_own (base : Nat) (v : Value) (l : List (Int × Int)) (n : Nat) (x y : Int) (w : World) (hn : n = l.length) (hl : n ≤ 1000) (h : w.ownsRow base 46 2 v n (cs l)) :
    Calls Try.prog 32 #[v, .agg #[.int .i64 x, .int .i64 y]] w fun e w' => ∃ v', e = .returned v' ∧ w'.ownsRow w.heap.size 46 2 v' (n + 1) (cs (putL l (x, y))) ∧ Below w.heap.size w w' := by
  have h2 := h.2
  rcases h2 with ⟨rfl, rfl⟩ | ⟨g, cap, cur, rfl, hb, hg, hcap, _⟩
  · have hl0 : l = [] := List.eq_nil_of_length_eq_zero hn.symm
    subst hl0
    exact roPut_nil x y w
  · refine roPut_pos g 0 cap l n x y w hn hl hcap (fun i hi => ?_)
    have := own_cells h hn i hi
    simpa using this

end Go.Proofs.Ytnngdoiempmkkaa
