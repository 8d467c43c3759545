/- What lies above a bound stays. -/
import Derived.Test.YtmgmkgjefplfdaaPzQ
namespace Go.Proofs.Ytmgmkgjefplfdaa
open Go.ChangeShapes Go.WideShapes Go.ChangeAt Go.RowKit
set_option linter.unusedVariables false


def Above (B : Nat) (w w' : World) : Prop := w.heap.size ≤ w'.heap.size ∧ ∀ k, B ≤ k → k < w.heap.size → w'.heap[k]? = w.heap[k]?
theorem Above.refl (B : Nat) (w : World) : Above B w w := ⟨Nat.le_refl _, fun _ _ _ => rfl⟩
theorem Above.grown {B : Nat} {w wr w2 : World} {r : Option Nat} (h : Above B w wr) (hg : wr.grownBy w2 r) (hr : ∀ b, r = some b → b < B) : Above B w w2 :=
  ⟨Nat.le_trans h.1 hg.size, fun k h1 h2 => (hg.block k (by have := h.1; omega) (fun e => by have := hr k e.symm; omega)).trans (h.2 k h1 h2)⟩
theorem own_above {B : Nat} {w w' : World} {base : Nat} {e : TypeId} {size : Nat} {v : Value} {n : Nat} {xs : List Value} (h : w.ownsRow base e size v n xs) (ha : Above B w w') (hb : B ≤ base) : w'.ownsRow base e size v n xs :=
  own_same h (fun k hk => ha.2 k (by have := (h.lt k hk).1; omega) (h.lt k hk).2)
theorem OwnCS.above {B : Nat} {w w' : World} {base : Nat} {v : Value} {X : List Value} {L : List (List (Int × Int))} (h : OwnCS w base v X L) (ha : Above B w w') (hb : B ≤ base) : OwnCS w' base v X L :=
  ⟨own_above h.1 ha hb, h.2.1, fun i x l hx hl => ⟨own_above (h.2.2.1 i x l hx hl).1 ha hb, (h.2.2.1 i x l hx hl).2⟩, h.2.2.2⟩
theorem Above.one {B : Nat} {w w' : World} {r : Option Nat} (hg : w.grownBy w' r) (hr : ∀ b, r = some b → b < B) : Above B w w' := (Above.refl B w).grown hg hr
theorem Above.two {B : Nat} {w wm w' : World} {r : Option Nat} (hb : Below w.heap.size w wm) (hg : wm.grownBy w' r) (hr : ∀ b, r = some b → b < B) : Above B w w' :=
  Above.grown (w := w) (wr := wm) ⟨hb.size, fun k _ hk => hb.block k hk⟩ hg hr

end Go.Proofs.Ytmgmkgjefplfdaa
