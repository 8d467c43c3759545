/- A round that grows among rounds; ten numbers in a row. -/
import Derived.Test.YtnngdoiempmkkaaIntoS
namespace Go.Proofs.Ytnngdoiempmkkaa
open Go.ChangeShapes Go.WideShapes Go.ChangeAt Go.RowKit
set_option linter.unusedVariables false


theorem step_append_call {ops : Array Oper} {o : Oper} {a : Act} {K : Act → World → Prop} {Q : Exit → Act → World → Prop} {E : Prop} (w : World) (hgd : o.guard = none) (s x : Operand)
    (ho : o.op = .call { callee := .builtin .append, args := #[s, x], argTypes := #[29, 29] })
    (base : Nat) (v : Value) (m : Nat) (l : List (Int × Int)) (hm : m = l.length) (hs : a.eval s = v) (hown : w.ownsRow base 46 2 v m (cs l)) (hml : m ≤ 1000)
    (B : Nat) (p q : Int) (c : Nat) (fr : Nat × Nat) (t : TypeId) (hx : a.eval x = .slice (some ⟨B, 0, none⟩) 1 c) (hB : w.heap[B]? = some (.cells #[.int .i64 p, .int .i64 q] t fr)) (hbase : base ≤ w.heap.size)
    (h : ∀ v' w', w'.ownsRow base 46 2 v' (m + 1) (cs (l ++ [(p, q)])) → w.grownBy w' v.ownBlock → (v'.ownBlock = v.ownBlock ∨ v'.ownBlock = some w.heap.size) → K (a.put o.dst v') w') :
    if Region.wanted o (yielded ops a.tmps) = true then Oper.wp Try.prog o a w K Q else E := by
  obtain ⟨i0, hi, hz0, hz1, hz2⟩ := info_parts info46
  refine step_append_lies (P := Try.prog) (w := w) hgd s x 29 ho base 46 i0 (.agg #[.int .i64 0, .int .i64 0]) 2 16 Try.underlying29 hi hz0 hz1 hz2 rfl (by decide) v m (cs l) hs hown ⟨B, 0, none⟩ 1 c [.int .i64 p, .int .i64 q] hx rfl (World.news_of_block (cs := #[.int .i64 p, .int .i64 q]) (t := t) (fr := fr) hB) ?_ (by decide) (by unfold maxLen; omega) (by omega) hbase w.heap.size rfl ?_
  · intro u hu; simp at hu; rcases hu with rfl | rfl <;> rfl
  · intro g cap w' hown' hgr hat _
    refine h _ w' (by rw [cs_append]; exact hown') hgr ?_
    rcases hat with e | e
    · exact .inl e.symm
    · exact .inr (by rw [e]; rfl)

/-- One of the rounds has grown, and its slice is stored anew. -/
theorem OwnCS.replace {w w9 : World} {base g n cap H : Nat} {X : List Value} {L : List (List (Int × Int))} (h : OwnCS w base (.slice (some ⟨g, 0, none⟩) n cap) X L) (hn : n = L.length) (j : Nat) (hj : j < L.length) (x x' : Value) (l' : List (Int × Int)) (hx : X[j]? = some x)
    (hgr : w.grownBy w9 x.ownBlock) (hown : w9.ownsRow base 46 2 x' l'.length (cs l')) (hat : x'.ownBlock = x.ownBlock ∨ x'.ownBlock = some H) (hH : w.heap.size ≤ H) :
    OwnCS (w9.setCell ⟨g, j, none⟩ x') base (.slice (some ⟨g, 0, none⟩) n cap) (X.set j x') (L.set j l') := by
  subst hn
  have hXL := h.2.1
  have hxl := h.2.2.1 j x L[j] hx (List.getElem?_eq_getElem hj)
  have hgx : ∀ b, x.ownBlock = some b → g ≠ b := fun b hb e => hxl.2 b hb (by rw [e]; rfl)
  have hglt : g < w.heap.size := (h.1.lt g rfl).2
  have hrest : ∀ i y b, i ≠ j → X[i]? = some y → y.ownBlock = some b → x.ownBlock ≠ some b ∧ b < w.heap.size := by
    intro i y b hij hy hb
    have hi := (List.getElem?_eq_some_iff.1 hy).1
    have h2 := (h.2.2.1 i y _ hy (List.getElem?_eq_getElem (by rw [← hXL]; exact hi))).1.lt b hb
    refine ⟨fun e => ?_, h2.2⟩
    rcases Nat.lt_or_gt_of_ne hij with hlt | hlt
    · exact h.2.2.2 i j y x b hlt hy hx hb e
    · exact h.2.2.2 j i x y b hlt hx hy e hb
  have hg' : ∀ b, x'.ownBlock = some b → b ≠ g := by
    intro b hb
    rcases hat with e | e
    · rw [e] at hb; exact Ne.symm (hgx b hb)
    · rw [e] at hb; cases hb; omega
  have far : ∀ k, k ≠ g → (w9.setCell ⟨g, j, none⟩ x').heap[k]? = w9.heap[k]? := fun k hk => Below.heap_setCell _ _ _ _ (by simpa using hk)
  have h1 : w9.ownsRow base 29 1 (.slice (some ⟨g, 0, none⟩) L.length cap) L.length X := h.1.kept hgr (.inr (fun e => by
    have : x.ownBlock = some g := e.symm
    exact hgx g this rfl))
  have h5 := (h1.stored j x').1
  refine ⟨by rw [List.length_set]; exact h5, by simp [hXL], fun i y m hy hm => ?_, fun i k y z b hik hy hz hb => ?_⟩
  · by_cases hij : i = j
    · subst hij
      rw [List.getElem?_set_self (by rw [hXL]; exact hj)] at hy
      rw [List.getElem?_set_self hj] at hm
      obtain rfl : x' = y := by simpa using hy
      obtain rfl : l' = m := by simpa using hm
      refine ⟨own_same hown (fun k hk => far k (hg' k hk)), fun b hb e => hg' b hb ?_⟩
      simpa [Value.ownBlock] using e.symm
    · rw [List.getElem?_set_ne (Ne.symm hij)] at hy hm
      obtain ⟨h2, h3⟩ := h.2.2.1 i y m hy hm
      refine ⟨own_same (h2.kept hgr ?_) (fun k hk => far k ?_), h3⟩
      · cases hq : y.ownBlock with
        | none => exact .inl rfl
        | some b => exact .inr (fun e => (hrest i y b hij hy hq).1 e.symm)
      · intro e
        exact h3 k hk (by rw [e]; rfl)
  · have new : ∀ i y b, i ≠ j → X[i]? = some y → y.ownBlock = some b → x'.ownBlock ≠ some b := by
      intro i y b hij hy hb e
      have h3 := hrest i y b hij hy hb
      rcases hat with e2 | e2
      · rw [e2] at e; exact h3.1 e
      · rw [e2] at e; cases e; omega
    by_cases hij : i = j
    · subst hij
      rw [List.getElem?_set_self (by have := (List.getElem?_eq_some_iff.1 hy).1; simpa using this)] at hy
      obtain rfl : x' = y := by simpa using hy
      rw [List.getElem?_set_ne (by omega)] at hz
      intro e
      exact new k z b (by omega) hz e hb
    · rw [List.getElem?_set_ne (Ne.symm hij)] at hy
      by_cases hkj : k = j
      · subst hkj
        rw [List.getElem?_set_self (by have := (List.getElem?_eq_some_iff.1 hz).1; simpa using this)] at hz
        obtain rfl : x' = z := by simpa using hz
        exact new i y b hij hy hb
      · rw [List.getElem?_set_ne (Ne.symm hkj)] at hz
        exact h.2.2.2 i k y z b hik hy hz hb

/-- Ten numbers. -/
def BA (s : Nat → Nat) : Array Value := (fl 10 s).toArray
theorem BA_get (s : Nat → Nat) (i : Nat) (h : i < 10) : (BA s)[i]? = some (.int .i64 (s i)) := by
  unfold BA; rw [List.getElem?_toArray]; exact fl_get 10 s i h
theorem BA_set (s : Nat → Nat) (i v : Nat) : (BA s).setIfInBounds i (.int .i64 (v : Int)) = BA (updN s i v) := by
  unfold BA; rw [List.setIfInBounds_toArray, fl_set]
theorem BA_zero : BA (fun _ => 0) = #[.int .i64 0, .int .i64 0, .int .i64 0, .int .i64 0, .int .i64 0, .int .i64 0, .int .i64 0, .int .i64 0, .int .i64 0, .int .i64 0] := rfl

end Go.Proofs.Ytnngdoiempmkkaa
