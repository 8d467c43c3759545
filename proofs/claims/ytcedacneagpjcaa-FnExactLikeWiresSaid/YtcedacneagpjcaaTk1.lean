/- What holds while the lists of like wires are taken. -/
import Derived.Test.YtcedacneagpjcaaTk0
import Derived.Test.YtcedacneagpjcaaAlP
import Derived.ScopeJumps
import Derived.WalkMore
namespace Go.Proofs.Ytcedacneagpjcaa
open Go.ChangeShapes Go.WideShapes Go.ChangeAt Go.RowKit Go.Maps
set_option linter.unusedVariables false


def sliceLen : Value → Nat | .slice _ n _ => n | _ => 0

theorem scope_jumps2 {P : Program} {a : Act} {w : World} {Q : Exit → Act → World → Prop} {c rest : Code} (l : Nat) (J : Act → World → Prop) (μ : Act → World → Nat) (hf : findLabel c l = some (Code.skip.seq rest))
    (first : (∀ a w, J a w → rest.wp P (Exit.jump l J Q) a w) → c.wp P (Exit.jump l J Q) a w)
    (pass : ∀ a w, J a w → rest.wp P (Exit.jump l (fun a' w' => J a' w' ∧ μ a' w' < μ a w) Q) a w) : (Code.scope c).wp P Q a w :=
  wp_scope_jumps l J μ hf (first fun a w h => wp_mono (pass a w h) fun e a' w' hq => by
    cases e with
    | goto l' => exact ⟨hq.1, hq.2.1⟩
    | normal => exact hq
    | exit id => exact hq
    | ret => exact hq
    | panic ch => exact hq
    | outgrown => exact hq) (fun a w h => wp_seq (wp_skip (pass a w h)))

/-- No list of the map is what has been taken. -/
def TkA (V : Int → Int → Value) (tv : Value) (X : List Value) : Prop := ∀ x y, inR x → inR y → ∀ b, (V x y).ownBlock = some b → tv.ownBlock ≠ some b ∧ ∀ (i : Nat) u, X[i]? = some u → u.ownBlock ≠ some b

/-- The lists lie below a block. -/
def VLt (V : Int → Int → Value) (p : Nat) : Prop := ∀ x y, inR x → inR y → ∀ b, (V x y).ownBlock = some b → b < p

theorem TkA.del {V : Int → Int → Value} {tv : Value} {X : List Value} (h : TkA V tv X) (x y : Int) : TkA (fun a b => if a = x ∧ b = y then nlV else V a b) tv X := fun a b ha hb g hg => by
  by_cases e : a = x ∧ b = y
  · simp only [if_pos e] at hg; cases hg
  · simp only [if_neg e] at hg; exact h a b ha hb g hg

theorem VLt.del {V : Int → Int → Value} {p : Nat} (h : VLt V p) (x y : Int) : VLt (fun a b => if a = x ∧ b = y then nlV else V a b) p := fun a b ha hb g hg => by
  by_cases e : a = x ∧ b = y
  · simp only [if_pos e] at hg; cases hg
  · simp only [if_neg e] at hg; exact h a b ha hb g hg

/-- What holds whenever the taking begins anew. -/
def TkI (w0 : World) (B n : Nat) (l m : List Int) (w : World) (j : Nat) (tv : Value) (X : List Value) (D : DataW Value) (V : Int → Int → Value) (Z : Int → Int → List Int) : Prop :=
  j ≤ n ∧ w.ownsMap Try.prog 60 RV B n D ∧ GrpD w (B + 1) D V Z ∧ Lv l m n j Z ∧ OwnSS w (B + 1) tv X (lkL l m n j) ∧ TkA V tv X ∧ Below w0.heap.size w0 w

/-- What stays while other blocks turn. -/
def TkS (w0 : World) (B : Nat) (tv : Value) (X : List Value) (L : List (List Int)) (D : DataW Value) (V : Int → Int → Value) (Z : Int → Int → List Int) (p4 : Nat) (w : World) : Prop :=
  w0.heap.size ≤ B ∧ B < p4 ∧ VLt V p4 ∧ SSlt tv X p4 ∧ TkA V tv X ∧ GrpD w (B + 1) D V Z ∧ OwnSS w (B + 1) tv X L ∧ Below w0.heap.size w0 w

theorem TkS.kept {w0 w w' : World} {B p4 : Nat} {tv : Value} {X : List Value} {L : List (List Int)} {D : DataW Value} {V : Int → Int → Value} {Z : Int → Int → List Int} {row : Option Nat} (h : TkS w0 B tv X L D V Z p4 w) (hg : w.grownBy w' row) (hr : ∀ b, row = some b → b = B ∨ p4 ≤ b) : TkS w0 B tv X L D V Z p4 w' := by
  obtain ⟨h1, h2, h3, h4, h5, h6, h7, h8⟩ := h
  refine ⟨h1, h2, h3, h4, h5, h6.stay fun x y hx hy => (h6.own x y hx hy).kept hg ?_, ?_, h8.grown hg h8.size fun b hb => by rcases hr b hb with e | e <;> omega⟩
  · cases hq : (V x y).ownBlock with
    | none => exact .inl rfl
    | some g =>
      right
      intro e
      have h9 := h3 x y hx hy g hq
      have h10 := ((h6.own x y hx hy).lt g hq).1
      rcases hr g e.symm with e2 | e2 <;> omega
  · cases row with
    | none => exact h7.kept hg (fun b hb => by cases hb)
    | some b =>
      rcases hr b rfl with e | e
      · exact h7.kept hg (fun c hc => by cases hc; omega)
      · exact h7.kept2 hg h4 (fun c hc => by cases hc; exact e)

theorem TkS.del {w0 w : World} {B p4 : Nat} {tv : Value} {X : List Value} {L : List (List Int)} {D : DataW Value} {V : Int → Int → Value} {Z : Int → Int → List Int} (h : TkS w0 B tv X L D V Z p4 w) {x y : Int} (hx : inR x) (hy : inR y) :
    TkS w0 B tv X L (D.del (kx x y)) (fun a b => if a = x ∧ b = y then nlV else V a b) (fun a b => if a = x ∧ b = y then [] else Z a b) p4 w := by
  obtain ⟨h1, h2, h3, h4, h5, h6, h7, h8⟩ := h
  exact ⟨h1, h2, h3.del x y, h4, h5.del x y, h6.del hx hy, h7, h8⟩

theorem first_set {w : World} {p4 : Nat} {fx fy x y : Int} (hp : w.heap[p4]? = some (.cells #[.int .i64 fx, .int .i64 fy] 60 (0, 0))) :
    ((w.setCell ⟨p4, 0, none⟩ (.int .i64 x)).setCell ⟨p4, 1, none⟩ (.int .i64 y)).heap[p4]? = some (.cells #[.int .i64 x, .int .i64 y] 60 (0, 0)) ∧ w.grownBy ((w.setCell ⟨p4, 0, none⟩ (.int .i64 x)).setCell ⟨p4, 1, none⟩ (.int .i64 y)) (some p4) := by
  have h1 := heap_setCell_same w p4 0 _ _ (.int .i64 x) hp
  have h2 := heap_setCell_same (w.setCell ⟨p4, 0, none⟩ (.int .i64 x)) p4 1 _ _ (.int .i64 y) h1
  exact ⟨h2, grown_set (grown_one w p4 0 (.int .i64 x)) 1 (.int .i64 y)⟩

theorem look_grp {w : World} {base B n : Nat} {D : DataW Value} {V : Int → Int → Value} {Z : Int → Int → List Int} (hM : w.ownsMap Try.prog 60 RV B n D) (hG : GrpD w base D V Z) {x y : Int} (hx : inR x) (hy : inR y) :
    (Instr.lookup 53 (.map (some B)) (.agg #[.int .i64 x, .int .i64 y]) false).run Try.prog w = .ok (V x y) w := by
  obtain ⟨v, ps, hrun, hv⟩ := World.ownsMap.lookup (z := .slice none 0 0) (zd := .held nlV) (zp := []) hM law_lb Try.underlying53 (Try.zeroValue22 w) rfl (key_lb hx hy)
  rw [hG.look x y hx hy] at hv
  unfold RV at hv
  simp only [Option.some.injEq, Prod.mk.injEq, DataW.held.injEq] at hv
  rw [hrun, hv.1]

/-- The first list so far: the one with the least first wire. -/
def FirstOK (F : Bool) (fx fy : Int) (Z : Int → Int → List Int) (left : Lit → Bool) : Prop :=
  (F = true → inR fx ∧ inR fy ∧ 1 < (Z fx fy).length ∧ ∀ x y, inR x → inR y → left (kx x y) = false → 1 < (Z x y).length → hd (Z fx fy) ≤ hd (Z x y)) ∧
  (F = false → ∀ x y, inR x → inR y → left (kx x y) = false → ¬ 1 < (Z x y).length)

theorem left_key {left : Lit → Bool} {x y a b : Int} (hx : inR x) (hy : inR y) (ha : inR a) (hb : inR b) (h : (left (kx a b) && !(kx a b).sameKey (kx x y)) = false) : left (kx a b) = false ∨ (a = x ∧ b = y) := by
  cases hl : left (kx a b)
  · exact .inl rfl
  · rw [hl] at h
    simp only [Bool.true_and, Bool.not_eq_false'] at h
    exact .inr (kx_inj ha hb hx hy (WideAt.sameKey_eq h))

/-- A list of one is struck. -/
theorem FirstOK.drop {F : Bool} {fx fy : Int} {Z : Int → Int → List Int} {left : Lit → Bool} (h : FirstOK F fx fy Z left) {x y : Int} (hx : inR x) (hy : inR y) (h1 : ¬ 1 < (Z x y).length) :
    FirstOK F fx fy (fun a b => if a = x ∧ b = y then [] else Z a b) (fun z => left z && !z.sameKey (kx x y)) := by
  refine ⟨fun hF => ?_, fun hF a b ha hb hl => ?_⟩
  · obtain ⟨h2, h3, h4, h5⟩ := h.1 hF
    have e : ¬ (fx = x ∧ fy = y) := fun e => h1 (by rw [← e.1, ← e.2]; exact h4)
    simp only [if_neg e]
    refine ⟨h2, h3, h4, fun a b ha hb hl hlen => ?_⟩
    by_cases e2 : a = x ∧ b = y
    · simp only [if_pos e2] at hlen; simp at hlen
    · simp only [if_neg e2] at hlen ⊢
      rcases left_key hx hy ha hb hl with h6 | h6
      · exact h5 a b ha hb h6 hlen
      · exact absurd h6 e2
  · by_cases e2 : a = x ∧ b = y
    · simp only [if_pos e2]; simp
    · simp only [if_neg e2]
      rcases left_key hx hy ha hb hl with h6 | h6
      · exact h.2 hF a b ha hb h6
      · exact absurd h6 e2

/-- A list comes that is not before the first one. -/
theorem FirstOK.stay {fx fy : Int} {Z : Int → Int → List Int} {left : Lit → Bool} (h : FirstOK true fx fy Z left) {x y : Int} (hx : inR x) (hy : inR y) (h1 : hd (Z fx fy) ≤ hd (Z x y)) :
    FirstOK true fx fy Z (fun z => left z && !z.sameKey (kx x y)) := by
  obtain ⟨h2, h3, h4, h5⟩ := h.1 rfl
  refine ⟨fun _ => ⟨h2, h3, h4, fun a b ha hb hl hlen => ?_⟩, fun hF => by cases hF⟩
  rcases left_key hx hy ha hb hl with h6 | h6
  · exact h5 a b ha hb h6 hlen
  · rw [h6.1, h6.2]; exact h1

/-- A list comes that is the first one now. -/
theorem FirstOK.new {F : Bool} {fx fy : Int} {Z : Int → Int → List Int} {left : Lit → Bool} (h : FirstOK F fx fy Z left) {x y : Int} (hx : inR x) (hy : inR y) (h0 : 1 < (Z x y).length) (h1 : F = true → hd (Z x y) ≤ hd (Z fx fy)) :
    FirstOK true x y Z (fun z => left z && !z.sameKey (kx x y)) := by
  refine ⟨fun _ => ⟨hx, hy, h0, fun a b ha hb hl hlen => ?_⟩, fun hF => by cases hF⟩
  rcases left_key hx hy ha hb hl with h6 | h6
  · cases F with
    | false => exact absurd hlen (h.2 rfl a b ha hb h6)
    | true => exact Nat.le_trans (h1 rfl) ((h.1 rfl).2.2.2 a b ha hb h6 hlen)
  · rw [h6.1, h6.2]; exact Nat.le_refl _

end Go.Proofs.Ytcedacneagpjcaa
