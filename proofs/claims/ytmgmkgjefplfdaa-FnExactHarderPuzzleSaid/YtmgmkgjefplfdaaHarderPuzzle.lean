/- The law FnExactHarderPuzzle answers true at every input; there is no condition. -/
import Derived.Test.YtmgmkgjefplfdaaFacts
import Derived.Lib.SmallJoins
import Derived.Test.YtmgmkgjefplfdaaOpenP
import Derived.Test.YtmgmkgjefplfdaaLawHp
namespace Go.Proofs.Ytmgmkgjefplfdaa.fnExactHarderPuzzle
open Go.ChangeShapes Go.WideShapes Go.ChangeAt Go.RowKit
set_option linter.unusedVariables false

set_option maxRecDepth 100000 in
theorem lifted (os : Os) (started : os.Started) (H : Type) (enc : TypeId × Value → H) :
    ReturnsInHanded {} Try.checked os 16 .any (Rows.fnExactHarderPuzzleSpec.pre6 enc Try.prog Try.f16 Rows.fnExactHarderPuzzleRow.domain false) (Rows.fnExactHarderPuzzleSpec.post enc Try.prog Try.f16 false true false false) := by
  refine returnsInHanded_of_change (C := Try.checked) Facts.own started (by kernel_rfl) Try.func16
    (ChangeSpec.witness6 (enc := enc) (C := Try.checked) false ⟨#[], #[.agg #[.int .i64 0, .int .i64 0, .slice none 0 0]], []⟩ 8 (by kernel_rfl) (by kernel_rfl) (by kernel_rfl) (by kernel_rfl)) ?_
  intro W base args ds gs before hval0 hW hcnd _
  have hval : ∀ (j : Nat) t v, Try.f16.params[j]? = some t → args[j]? = some v → Value.okWide Try.prog W .any base t v := hval0
  have hW' := hW
  obtain ⟨p, q, hA0, hV, rfl, hfz, hnd⟩ := hW
  have hA : DataW.TrodAll enc Try.prog W 0 (fun _ => true) true Try.f16.params.toList args.toList ds p := hA0
  rw [Try.params16] at hA hval
  obtain ⟨v0, vs0, d0, ds0, p0, q0, hargs, rfl, rfl, h0, r0⟩ := trodAll_cons hA
  obtain ⟨rfl, rfl, rfl⟩ := trodAll_nil r0
  obtain rfl : args = #[v0] := by cases args; simp_all
  obtain ⟨rfl, rfl⟩ := trodVars_none hV
  have k0 := h0
  have lt0 : ∀ x ∈ p0, x.block < W.heap.size := by obtain ⟨m, hm⟩ := k0; exact DataW.trod_lt m _ _ _ hm
  obtain ⟨x0a, x0b, x0c, z0a, z0b, z0c, m0, hv0, _, _, hz0a, hz0b, hz0c⟩ := Go.Joins.open_agg3 Try.underlying30 (by kernel_rfl) cellsLP (hval 0 30 v0 rfl rfl) h0
  subst hv0
  obtain ⟨F0, e0a, w0a, _⟩ := DataW.trod_int Try.underlying3 hz0a
  simp only [List.cons.injEq, and_true] at e0a
  subst e0a
  obtain ⟨G0, e0b, w0b, _⟩ := DataW.trod_int Try.underlying3 hz0b
  simp only [List.cons.injEq, and_true] at e0b
  subst e0b
  obtain ⟨o0, n0, c0, e0c⟩ := Go.Joins.slice_form Try.underlying28 hz0c
  simp only [List.cons.injEq, and_true] at e0c
  subst e0c
  obtain ⟨l0, q0n, q0m, q0c⟩ := open_clues (⟨_, hz0c⟩ : DataW.Trod enc Try.prog W 0 (fun _ => true) true 28 (.slice o0 n0 c0) _ _)
  clear hA0 hval0
  refine (walkHp W F0 G0 o0 n0 c0 l0 q0n q0m q0c).mono fun e W' ⟨he, bel⟩ => ?_
  subst he
  exact ⟨_, rfl, _, _, _, [], _, [], hW', trodAll_mk1 (shut_bool Try.underlying4 _), (trodAll_cons_mk (Below.trod Facts.laidOut (by kernel_rfl) (of_decide_eq_true (by kernel_rfl)) k0 bel lt0) trodAll_mk0), rfl, bel.frame _, fun h => by cases h⟩

theorem closed : joinedFacts Try.prog 16 Try.f16 Rows.fnExactHarderPuzzleSpec Rows.fnExactHarderPuzzleRow = true :=
  Facts.joined (by as_aux_lemma => kernel_rfl) Facts.laidOut Facts.rowed (by as_aux_lemma => kernel_rfl) (by as_aux_lemma => kernel_rfl) (by as_aux_lemma => kernel_rfl) Facts.noStops (by as_aux_lemma => kernel_rfl) Facts.noKnobs (by as_aux_lemma => kernel_rfl) (by as_aux_lemma => kernel_rfl) (by as_aux_lemma => kernel_rfl) (by as_aux_lemma => kernel_rfl) (by as_aux_lemma => kernel_rfl) (by as_aux_lemma => kernel_rfl) (by as_aux_lemma => kernel_rfl) (by as_aux_lemma => kernel_rfl) (by as_aux_lemma => kernel_rfl) (by as_aux_lemma => kernel_rfl) (by as_aux_lemma => kernel_rfl) (by as_aux_lemma => kernel_rfl) (by as_aux_lemma => kernel_rfl) Facts.plain (by as_aux_lemma => kernel_rfl) Facts.heard Facts.enter Facts.finals Facts.made (by as_aux_lemma => kernel_rfl) (by as_aux_lemma => kernel_rfl) (by as_aux_lemma => kernel_rfl) (by as_aux_lemma => kernel_rfl)

theorem over : Rows.fnExactHarderPuzzleRow.holds Try.pinned (OpenSpec.ofChange Rows.fnExactHarderPuzzleSpec) :=
  OpenClaim.holds_of_wide 16 Try.f16 rfl rfl rfl rfl rfl rfl rfl ⟨rfl, rfl, rfl, rfl, rfl⟩ rfl rfl rfl rfl rfl (by kernel_rfl) Try.func16 closed
    (of_decide_eq_true (by kernel_rfl)) (by unfold Func.isWrapper; first | (rw [if_pos (by decide +kernel)]; kernel_rfl) | (rw [if_neg (by decide +kernel)]; exact ⟨rfl, rfl⟩))
    (fun os started H enc _ => lifted os started H enc)

theorem proved : Rows.FnExactHarderPuzzleSaid := over
end Go.Proofs.Ytmgmkgjefplfdaa.fnExactHarderPuzzle
