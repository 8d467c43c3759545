/- A rumor told and heard. -/
import Derived.Test.YtaangjidkkpogaaDoorFs
import Derived.Conc.LoneCalls
import Derived.Conc.LoneSelectN
import Derived.KernelRfl
import Derived.Laws.Rows
namespace Go.Proofs.YtaangjidkkpogaaDoor
open Go.ChangeShapes Go.WideShapes Go.ChangeAt Go.RowKit Go.Conc
set_option linter.unusedVariables false


theorem res_0 (a b : Nat) (z z' v : Value) (ok : Bool) : commResult #[rcase a z, rcase b z'] .select ((0 : Nat) : Int) v ok = .tuple #[goInt 0, .bool ok, v, z'] := by
  simp [commResult, rcase, List.zipIdx_cons]
theorem res_1 (a b : Nat) (z z' v : Value) (ok : Bool) : commResult #[rcase a z, rcase b z'] .select ((1 : Nat) : Int) v ok = .tuple #[goInt 1, .bool ok, z, v] := by
  simp [commResult, rcase, List.zipIdx_cons]

set_option maxRecDepth 100000 in
theorem tell_true (c0 c1 s r : Nat) (w : World) (h0 : w.heap[c0]? = some (.chan 1 #[] false s r false)) :
    Calls Tryd.prog 40 #[.agg #[.chan (some c0), .chan (some c1)], .bool true] w fun e w' => e = .returned (.tuple #[]) ∧ w' = (w.alloc (.cells #[.chan (some c0), .chan (some c1)] 59)).setChan c0 1 #[.bool true] false (s + 1) r false := by
  refine calls_of_loneTo fun cs => ?_
  have e : Frame.enter Tryd.prog 40 #[.agg #[.chan (some c0), .chan (some c1)], .bool true] .normal = (base 40).at ⟨#[.agg #[.chan (some c0), .chan (some c1)], .bool true, undef, undef, undef, undef, undef, undef, undef, undef, undef], []⟩ [.code (Tryd.f40.body.getD .skip)] := by
    simp [Frame.enter, Frame.at, Tryd.func40, base, Tryd.f40]
  rw [e]
  have h1 : (w.alloc (.cells #[.chan (some c0), .chan (some c1)] 59)).heap[c0]? = some (.chan 1 #[] false s r false) := by
    rw [Below.heap_alloc _ _ _ (Array.getElem?_eq_some_iff.1 h0).1]; exact h0
  refine LoneTo.goes (n := 60) ?_
  simp only [Tryd.f40, Option.getD_some]
  repeat (first | s_c stepG_seq | s_reg | s_op | s_c stepG_region_end | s_c stepG_block | s_cond true | s_cond false)
  s_stop
  obtain ⟨W, hW⟩ : ∃ W, w.alloc (.cells #[.chan (some c0), .chan (some c1)] 59) = W := ⟨_, rfl⟩
  rw [hW] at h1 ⊢
  refine LoneTo.step (step_lone_send_room (c := c0) (cap := 1) (buf := #[]) (s := s) (r := r) (tm := false) (stepG_comm (cases := #[scase c0 (.bool true) (.tuple #[])]) (blocking := true) (shape := .send) (w' := W) rfl rfl (by decide) (by simp [execOp, scase, Act.eval])) h1 (by simp)) ?_
  rw [Frame.finish_at]
  walk_nrm
  refine LoneTo.goes (n := 30) ?_
  repeat (first | s_c stepG_region_end | s_c stepG_inBlock | s_c stepG_end)
  s_stop
  exact LoneTo.done ⟨.returned (.tuple #[]), _, rfl, ⟨rfl, rfl⟩, rfl, rfl, rfl, rfl, _, Tryd.func40, by simp [results, Tryd.f40, Frame.at]⟩

set_option maxRecDepth 100000 in
theorem tell_false (c0 c1 s r : Nat) (w : World) (h0 : w.heap[c1]? = some (.chan 1 #[] false s r false)) :
    Calls Tryd.prog 40 #[.agg #[.chan (some c0), .chan (some c1)], .bool false] w fun e w' => e = .returned (.tuple #[]) ∧ w' = (w.alloc (.cells #[.chan (some c0), .chan (some c1)] 59)).setChan c1 1 #[.bool false] false (s + 1) r false := by
  refine calls_of_loneTo fun cs => ?_
  have e : Frame.enter Tryd.prog 40 #[.agg #[.chan (some c0), .chan (some c1)], .bool false] .normal = (base 40).at ⟨#[.agg #[.chan (some c0), .chan (some c1)], .bool false, undef, undef, undef, undef, undef, undef, undef, undef, undef], []⟩ [.code (Tryd.f40.body.getD .skip)] := by
    simp [Frame.enter, Frame.at, Tryd.func40, base, Tryd.f40]
  rw [e]
  have h1 : (w.alloc (.cells #[.chan (some c0), .chan (some c1)] 59)).heap[c1]? = some (.chan 1 #[] false s r false) := by
    rw [Below.heap_alloc _ _ _ (Array.getElem?_eq_some_iff.1 h0).1]; exact h0
  refine LoneTo.goes (n := 60) ?_
  simp only [Tryd.f40, Option.getD_some]
  repeat (first | s_c stepG_seq | s_reg | s_op | s_c stepG_region_end | s_c stepG_block | s_cond true | s_cond false)
  s_stop
  obtain ⟨W, hW⟩ : ∃ W, w.alloc (.cells #[.chan (some c0), .chan (some c1)] 59) = W := ⟨_, rfl⟩
  rw [hW] at h1 ⊢
  refine LoneTo.step (step_lone_send_room (c := c1) (cap := 1) (buf := #[]) (s := s) (r := r) (tm := false) (stepG_comm (cases := #[scase c1 (.bool false) (.tuple #[])]) (blocking := true) (shape := .send) (w' := W) rfl rfl (by decide) (by simp [execOp, scase, Act.eval])) h1 (by simp)) ?_
  rw [Frame.finish_at]
  walk_nrm
  refine LoneTo.goes (n := 30) ?_
  repeat (first | s_c stepG_region_end | s_c stepG_inBlock | s_c stepG_end)
  s_stop
  exact LoneTo.done ⟨.returned (.tuple #[]), _, rfl, ⟨rfl, rfl⟩, rfl, rfl, rfl, rfl, _, Tryd.func40, by simp [results, Tryd.f40, Frame.at]⟩

set_option maxRecDepth 100000 in
theorem hear_true (c0 c1 s r s' r' : Nat) (w : World) (h0 : w.heap[c0]? = some (.chan 1 #[.bool true] false s r false)) (h9 : w.heap[c1]? = some (.chan 1 #[] false s' r' false)) :
    Calls Tryd.prog 41 #[.agg #[.chan (some c0), .chan (some c1)]] w fun e w' => e = .returned (.bool true) ∧ w' = (w.alloc (.cells #[.chan (some c0), .chan (some c1)] 59)).setChan c0 1 #[] false s (r + 1) false := by
  refine calls_of_loneTo fun cs => ?_
  have e : Frame.enter Tryd.prog 41 #[.agg #[.chan (some c0), .chan (some c1)]] .normal = (base 41).at ⟨#[.agg #[.chan (some c0), .chan (some c1)], undef, undef, undef, undef, undef, undef, undef, undef, undef, undef, undef, undef, undef, undef, undef, undef], []⟩ [.code (Tryd.f41.body.getD .skip)] := by
    simp [Frame.enter, Frame.at, Tryd.func41, base, Tryd.f41]
  rw [e]
  have h1 : (w.alloc (.cells #[.chan (some c0), .chan (some c1)] 59)).heap[c0]? = some (.chan 1 #[.bool true] false s r false) := by
    rw [Below.heap_alloc _ _ _ (Array.getElem?_eq_some_iff.1 h0).1]; exact h0
  have h2 : (w.alloc (.cells #[.chan (some c0), .chan (some c1)] 59)).heap[c1]? = some (.chan 1 #[] false s' r' false) := by
    rw [Below.heap_alloc _ _ _ (Array.getElem?_eq_some_iff.1 h9).1]; exact h9
  refine LoneTo.goes (n := 60) ?_
  simp only [Tryd.f41, Option.getD_some]
  repeat (first | s_c stepG_seq | s_reg | s_op | s_c stepG_region_end | s_c stepG_block | s_cond true | s_cond false)
  s_stop
  obtain ⟨W, hW⟩ : ∃ W, w.alloc (.cells #[.chan (some c0), .chan (some c1)] 59) = W := ⟨_, rfl⟩
  rw [hW] at h1 h2 ⊢
  refine LoneTo.step (step_lone_sel_recv_buf (k := 0) (c := c0) (z := .bool false) (cap := 1) (buf := #[.bool true]) (closed := false) (s := s) (r := r) (tm := false)
    (stepG_comm (cases := #[rcase c0 (.bool false), rcase c1 (.bool false)]) (blocking := true) (shape := .select) (w' := W) rfl rfl (by decide) (by simp [go_sem, execOp, rcase, Act.eval]))
    rfl (fun m c' hm hc' => ?_) h1 (by simp)) ?_
  · rcases m with _ | _ | m
    · first
        | exact absurd rfl hm
        | (simp only [List.getElem?_toArray, List.getElem?_cons_zero, Option.some.injEq] at hc'
           subst hc'
           exact noWay_recv h2)
    · first
        | exact absurd rfl hm
        | (simp only [List.getElem?_toArray, List.getElem?_cons_succ, List.getElem?_cons_zero, Option.some.injEq] at hc'
           subst hc'
           exact noWay_recv h2)
    · simp at hc'
  rw [Frame.finish_at, res_0]
  walk_nrm
  refine LoneTo.goes (n := 60) ?_
  repeat (first | s_op | s_c stepG_seq | s_reg | s_c stepG_region_end | s_c stepG_block | s_cond true | s_cond false | s_c stepG_ret')
  s_stop
  exact LoneTo.done ⟨.returned (.bool true), _, rfl, ⟨rfl, rfl⟩, rfl, rfl, rfl, rfl, _, Tryd.func41, by simp [results, Tryd.f41, Frame.at]⟩

set_option maxRecDepth 100000 in
theorem hear_false (c0 c1 s r s' r' : Nat) (w : World) (h0 : w.heap[c1]? = some (.chan 1 #[.bool false] false s r false)) (h9 : w.heap[c0]? = some (.chan 1 #[] false s' r' false)) :
    Calls Tryd.prog 41 #[.agg #[.chan (some c0), .chan (some c1)]] w fun e w' => e = .returned (.bool false) ∧ w' = (w.alloc (.cells #[.chan (some c0), .chan (some c1)] 59)).setChan c1 1 #[] false s (r + 1) false := by
  refine calls_of_loneTo fun cs => ?_
  have e : Frame.enter Tryd.prog 41 #[.agg #[.chan (some c0), .chan (some c1)]] .normal = (base 41).at ⟨#[.agg #[.chan (some c0), .chan (some c1)], undef, undef, undef, undef, undef, undef, undef, undef, undef, undef, undef, undef, undef, undef, undef, undef], []⟩ [.code (Tryd.f41.body.getD .skip)] := by
    simp [Frame.enter, Frame.at, Tryd.func41, base, Tryd.f41]
  rw [e]
  have h1 : (w.alloc (.cells #[.chan (some c0), .chan (some c1)] 59)).heap[c1]? = some (.chan 1 #[.bool false] false s r false) := by
    rw [Below.heap_alloc _ _ _ (Array.getElem?_eq_some_iff.1 h0).1]; exact h0
  have h2 : (w.alloc (.cells #[.chan (some c0), .chan (some c1)] 59)).heap[c0]? = some (.chan 1 #[] false s' r' false) := by
    rw [Below.heap_alloc _ _ _ (Array.getElem?_eq_some_iff.1 h9).1]; exact h9
  refine LoneTo.goes (n := 60) ?_
  simp only [Tryd.f41, Option.getD_some]
  repeat (first | s_c stepG_seq | s_reg | s_op | s_c stepG_region_end | s_c stepG_block | s_cond true | s_cond false)
  s_stop
  obtain ⟨W, hW⟩ : ∃ W, w.alloc (.cells #[.chan (some c0), .chan (some c1)] 59) = W := ⟨_, rfl⟩
  rw [hW] at h1 h2 ⊢
  refine LoneTo.step (step_lone_sel_recv_buf (k := 1) (c := c1) (z := .bool false) (cap := 1) (buf := #[.bool false]) (closed := false) (s := s) (r := r) (tm := false)
    (stepG_comm (cases := #[rcase c0 (.bool false), rcase c1 (.bool false)]) (blocking := true) (shape := .select) (w' := W) rfl rfl (by decide) (by simp [go_sem, execOp, rcase, Act.eval]))
    rfl (fun m c' hm hc' => ?_) h1 (by simp)) ?_
  · rcases m with _ | _ | m
    · first
        | exact absurd rfl hm
        | (simp only [List.getElem?_toArray, List.getElem?_cons_zero, Option.some.injEq] at hc'
           subst hc'
           exact noWay_recv h2)
    · first
        | exact absurd rfl hm
        | (simp only [List.getElem?_toArray, List.getElem?_cons_succ, List.getElem?_cons_zero, Option.some.injEq] at hc'
           subst hc'
           exact noWay_recv h2)
    · simp at hc'
  rw [Frame.finish_at, res_1]
  walk_nrm
  refine LoneTo.goes (n := 60) ?_
  repeat (first | s_op | s_c stepG_seq | s_reg | s_c stepG_region_end | s_c stepG_block | s_cond true | s_cond false | s_c stepG_ret')
  s_stop
  exact LoneTo.done ⟨.returned (.bool false), _, rfl, ⟨rfl, rfl⟩, rfl, rfl, rfl, rfl, _, Tryd.func41, by simp [results, Tryd.f41, Frame.at]⟩

end Go.Proofs.YtaangjidkkpogaaDoor
