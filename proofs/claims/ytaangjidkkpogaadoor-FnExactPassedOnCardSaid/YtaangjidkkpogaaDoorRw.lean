/- Any word told and heard. -/
import Derived.Test.YtaangjidkkpogaaDoorRu
namespace Go.Proofs.YtaangjidkkpogaaDoor
open Go.ChangeShapes Go.WideShapes Go.ChangeAt Go.RowKit Go.Conc
set_option linter.unusedVariables false


def Emp (w : World) (c0 c1 : Nat) : Prop := ∃ s r s' r', w.heap[c0]? = some (.chan 1 #[] false s r false) ∧ w.heap[c1]? = some (.chan 1 #[] false s' r' false)
def Ful (w : World) (c0 c1 : Nat) (b : Bool) : Prop := ∃ s r s' r', w.heap[c0]? = some (.chan 1 (if b then #[.bool true] else #[]) false s r false) ∧ w.heap[c1]? = some (.chan 1 (if b then #[] else #[.bool false]) false s' r' false)
def Kpt (c0 c1 : Nat) (w w' : World) : Prop := w.heap.size ≤ w'.heap.size ∧ ∀ k, k < w.heap.size → k ≠ c0 → k ≠ c1 → w'.heap[k]? = w.heap[k]?
theorem setChan_other (w : World) (c c' cap : Nat) (buf : Array Value) (closed : Bool) (s r : Nat) (tm : Bool) (h : c ≠ c') : (w.setChan c cap buf closed s r tm).heap[c']? = w.heap[c']? := by
  simp [World.setChan, Array.getElem?_setIfInBounds_ne h]
theorem put_at (w : World) (o : Obj) (c cap : Nat) (buf : Array Value) (s r : Nat) (h : c < w.heap.size) : ((w.alloc o).setChan c cap buf false s r false).heap[c]? = some (.chan cap buf false s r false) :=
  heap_setChan _ c cap buf false s r false (by simp; omega)
theorem put_other (w : World) (o : Obj) (c k cap : Nat) (buf : Array Value) (s r : Nat) (h : k < w.heap.size) (hne : k ≠ c) : ((w.alloc o).setChan c cap buf false s r false).heap[k]? = w.heap[k]? := by
  rw [setChan_other _ _ _ _ _ _ _ _ _ (fun e => hne e.symm), Below.heap_alloc _ _ _ h]
theorem put_below (w : World) (o : Obj) (c cap B : Nat) (buf : Array Value) (s r : Nat) (h : B ≤ w.heap.size) (hc : B ≤ c) : Below B w ((w.alloc o).setChan c cap buf false s r false) :=
  below_setChan ((Below.refl B w).alloc h o) hc _ _ _ _ _ _
theorem put_kp (w : World) (o : Obj) (c0 c1 c cap : Nat) (buf : Array Value) (s r : Nat) (hc : c = c0 ∨ c = c1) : Kpt c0 c1 w ((w.alloc o).setChan c cap buf false s r false) :=
  ⟨by rw [size_setChan]; simp, fun k hk h0 h1 => put_other w o c k cap buf s r hk (by rcases hc with rfl | rfl <;> assumption)⟩
theorem lt_of_heap {w : World} {k : Nat} {o : Obj} (h : w.heap[k]? = some o) : k < w.heap.size := (Array.getElem?_eq_some_iff.1 h).1
theorem tell_any (B c0 c1 : Nat) (b : Bool) (w : World) (hne : c0 ≠ c1) (hB : B ≤ w.heap.size) (h0 : B ≤ c0) (h1 : B ≤ c1) (hE : Emp w c0 c1) :
    Calls Tryd.prog 40 #[.agg #[.chan (some c0), .chan (some c1)], .bool b] w fun e w' => e = .returned (.tuple #[]) ∧ Ful w' c0 c1 b ∧ Kpt c0 c1 w w' ∧ Below B w w' := by
  obtain ⟨s, r, s', r', e0, e1⟩ := hE
  cases b
  · refine (tell_false c0 c1 s' r' w e1).mono ?_
    rintro e w' ⟨rfl, rfl⟩
    exact ⟨rfl, ⟨s, r, s' + 1, r', (put_other _ _ _ _ _ _ _ _ (lt_of_heap e0) hne).trans e0, put_at _ _ _ _ _ _ _ (lt_of_heap e1)⟩, put_kp _ _ _ _ _ _ _ _ _ (.inr rfl), put_below _ _ _ _ _ _ _ _ hB h1⟩
  · refine (tell_true c0 c1 s r w e0).mono ?_
    rintro e w' ⟨rfl, rfl⟩
    exact ⟨rfl, ⟨s + 1, r, s', r', put_at _ _ _ _ _ _ _ (lt_of_heap e0), (put_other _ _ _ _ _ _ _ _ (lt_of_heap e1) hne.symm).trans e1⟩, put_kp _ _ _ _ _ _ _ _ _ (.inl rfl), put_below _ _ _ _ _ _ _ _ hB h0⟩
theorem hear_any (B c0 c1 : Nat) (b : Bool) (w : World) (hne : c0 ≠ c1) (hB : B ≤ w.heap.size) (h0 : B ≤ c0) (h1 : B ≤ c1) (hF : Ful w c0 c1 b) :
    Calls Tryd.prog 41 #[.agg #[.chan (some c0), .chan (some c1)]] w fun e w' => e = .returned (.bool b) ∧ Emp w' c0 c1 ∧ Kpt c0 c1 w w' ∧ Below B w w' := by
  obtain ⟨s, r, s', r', e0, e1⟩ := hF
  cases b
  · refine (hear_false c0 c1 s' r' s r w e1 e0).mono ?_
    rintro e w' ⟨rfl, rfl⟩
    exact ⟨rfl, ⟨s, r, s', r' + 1, (put_other _ _ _ _ _ _ _ _ (lt_of_heap e0) hne).trans e0, put_at _ _ _ _ _ _ _ (lt_of_heap e1)⟩, put_kp _ _ _ _ _ _ _ _ _ (.inr rfl), put_below _ _ _ _ _ _ _ _ hB h1⟩
  · refine (hear_true c0 c1 s r s' r' w e0 e1).mono ?_
    rintro e w' ⟨rfl, rfl⟩
    exact ⟨rfl, ⟨s, r + 1, s', r', put_at _ _ _ _ _ _ _ (lt_of_heap e0), (put_other _ _ _ _ _ _ _ _ (lt_of_heap e1) hne.symm).trans e1⟩, put_kp _ _ _ _ _ _ _ _ _ (.inl rfl), put_below _ _ _ _ _ _ _ _ hB h0⟩

end Go.Proofs.YtaangjidkkpogaaDoor
