/- Sets of news in memory: the library on them, and rows of them. -/
import Derived.Test.YtolkfgjgnpjpkaaSets
import Derived.Test.YtolkfgjgnpjpkaaShelf
namespace Go.Proofs.Ytolkfgjgnpjpkaa
open Go.ChangeShapes Go.WideShapes Go.ChangeAt Go.RowKit Go.Maps Go.Shelf

/-- At first each of so many knows the own news. -/
def own0 (k : Nat) : Nat → Nat := fun i => if i < k then 2 ^ i else 0

def upd (s : Nat → Nat) (i v : Nat) : Nat → Nat := fun j => if j = i then v else s j
theorem law3 : Keyed Try.prog 3 := int_keyed Try.underlying3
theorem zero4 (w : World) : (zeroValue 4).run Try.prog w = .ok (.bool false) w := Try.zeroValue4 w

/-- Block b of this world is a map that holds this set of news. -/
def SetAt (w : World) (b s : Nat) : Prop := w.ownsMap (H := Unit) Try.prog 3 (plainElem Try.prog 4) b 10 (setD s)

theorem map_size {w : World} {b n : Nat} {D : DataW Unit} (h : w.ownsMap Try.prog 3 (plainElem Try.prog 4) b n D) : w.ownsMap Try.prog 3 (plainElem Try.prog 4) b (Maps.size D) D := by
  obtain ⟨es, clock, hb, F, hs, hD⟩ := h
  refine ⟨es, clock, hb, F, ?_, hD⟩
  rw [hD]
  simp [Maps.size, length_sorted]
theorem set_at {w : World} {b n s : Nat} (h : w.ownsMap (H := Unit) Try.prog 3 (plainElem Try.prog 4) b n (setD s)) : SetAt w b s := (map_size h).mono (by rw [size_setD]; exact pc_ten s)
theorem SetAt.lt {w : World} {b s : Nat} (h : SetAt w b s) : b < w.heap.size := World.ownsMap.lt h
theorem SetAt.same {w w' : World} {b s : Nat} (h : SetAt w b s) (e : w'.heap[b]? = w.heap[b]?) : SetAt w' b s := by
  obtain ⟨es, clock, hb, F, hs, hD⟩ := h
  exact ⟨es, clock, e.trans hb, F, hs, hD⟩
theorem SetAt.later {w w' : World} {b s n : Nat} (h : SetAt w b s) (hb : Below n w w') (hn : b < n) : SetAt w' b s := h.same (hb.block b hn)
theorem SetAt.kept {w w' : World} {b s : Nat} {row : Option Nat} (h : SetAt w b s) (hg : w.grownBy w' row) (hne : some b ≠ row) : SetAt w' b s := World.ownsMap.kept h hg hne

theorem bool_inv {P : Program} {e : TypeId} (he : P.underlying e = some .bool) {v : Value} {z : DataW Unit × List MemPlace} (h : plainElem P e v = some z) : ∃ x, v = .bool x ∧ z = (.lit (.bool x), []) := by
  unfold plainElem at h
  rw [he] at h
  cases v <;> simp at h
  subst h
  exact ⟨_, rfl, rfl⟩
theorem bool_neq {P : Program} {e : TypeId} (he : P.underlying e = some .bool) (W : World) (x y : Value) (xd yd : DataW Unit) (xp yp : List MemPlace) (hx : plainElem P e x = some (xd, xp)) (hy : plainElem P e y = some (yd, yp)) :
    (binOp .neq e x y).run P W = .ok (.bool (!sameBD xd yd)) W ∧ ∀ (a b : Operand), (eqGuard .neq e a b x y).run P W = .ok () W := by
  obtain ⟨a, rfl, h1⟩ := bool_inv he hx
  obtain ⟨b, rfl, h2⟩ := bool_inv he hy
  obtain rfl : xd = .lit (.bool a) := by simpa using (congrArg Prod.fst h1)
  obtain rfl : yd = .lit (.bool b) := by simpa using (congrArg Prod.fst h2)
  exact ⟨run_neq_bool _ e a b he, fun _ _ => by rw [eqGuard_at_bool]; rfl⟩

theorem copy_any (b1 b2 x y : Nat) (w : World) (h1 : SetAt w b1 x) (h2 : SetAt w b2 y) (hne : b1 ≠ b2) :
    Calls Try.prog 101 #[.map (some b1), .map (some b2)] w fun e w' => e = .returned (.tuple #[]) ∧ SetAt w' b1 (x ||| y) ∧ w.grownBy w' (some b1) := by
  have hp := pc_ten y
  have hcon : Calls Try.prog 101 #[.map (some b1), .map (some b2)] w _ := AnyX.maps_Copy copyL law3 (plainElem Try.prog 4) b1 b2 10 10 (setD x) (setD y) w h1 h2 hne (by rw [size_setD]; unfold maxLen; omega)
  refine hcon.mono ?_
  rintro e w' ⟨he, ho, _, hg⟩
  refine ⟨he, ?_, hg⟩
  have hc : Maps.Canon (Lib.mergeD (setD x) (setD y)) := World.ownsMap.canon ho law3
  rw [set_merge hc] at ho
  exact set_at ho

theorem equal_any (b1 b2 x y : Nat) (w : World) (hx : x < 1024) (hy : y < 1024) (h1 : SetAt w b1 x) (h2 : SetAt w b2 y) :
    Calls Try.prog 103 #[.map (some b1), .map (some b2)] w fun e w' => e = .returned (.bool (x == y)) ∧ w.grownBy w' none := by
  have hcon : Calls Try.prog 103 #[.map (some b1), .map (some b2)] w _ := AnyEq.maps_Equal_opt equalL law3 (plainElem Try.prog 4) (plainElem Try.prog 4) sameBD (some b1) (some b2) (setD x) (setD y) w (.inr ⟨b1, 10, rfl, h1⟩) (.inr ⟨b2, 10, rfl, h2⟩) (.bool false) Try.zeroValue4 (.lit (.bool false)) [] (plainElem_bool Try.underlying4 false) (bool_neq Try.underlying4)
  refine hcon.mono ?_
  rintro e w' ⟨he, hg⟩
  rw [set_equal hx hy] at he
  exact ⟨he, hg⟩

theorem clone_any (b x : Nat) (w : World) (h : SetAt w b x) :
    Calls Try.prog 110 #[.map (some b)] w fun e w' => e = .returned (.map (some w.heap.size)) ∧ SetAt w' w.heap.size x ∧ SetAt w' b x ∧ Below w.heap.size w w' := by
  have hcon : Calls Try.prog 110 #[.map (some b)] w _ := AnyW.maps_Clone_owns cloneL 3 (plainElem Try.prog 4) b 10 (setD x) w h
  exact hcon.mono fun e w' h => h

/-- A list of sets of news in memory: a row of maps, each in a block of its own. -/
def RdB (w : World) (base g cap : Nat) (bs : List Nat) (s : Nat → Nat) : Prop :=
  w.ownsRow base 72 1 (.slice (some ⟨g, 0, none⟩) bs.length cap) bs.length (bs.map fun b => .map (some b)) ∧ bs.Nodup ∧ ∀ (i : Nat) (h : i < bs.length), base ≤ bs[i] ∧ SetAt w bs[i] (s i)

theorem RdB.cell {w : World} {base g cap : Nat} {bs : List Nat} {s : Nat → Nat} (h : RdB w base g cap bs s) (i : Nat) (hi : i < bs.length) : w.cell? ⟨g, i, none⟩ = some (.map (some bs[i])) := by
  have h1 := h.1.cellAt i (by omega)
  rw [h1]; simp [hi]
theorem RdB.ne {w : World} {base g cap : Nat} {bs : List Nat} {s : Nat → Nat} (h : RdB w base g cap bs s) (i : Nat) (hi : i < bs.length) : bs[i] ≠ g := by
  intro e
  obtain ⟨es, clock, hb, _⟩ := (h.2.2 i hi).2
  rcases h.1.2 with ⟨hh, _⟩ | ⟨g', cap', cur, hv, _, hg, _⟩
  · cases hh
  · obtain rfl : g = g' := by injection hv with h1; injection h1 with h1; injection h1
    rw [e, hg] at hb; cases hb
theorem RdB.upd {w w' : World} {base g cap : Nat} {bs : List Nat} {s : Nat → Nat} (h : RdB w base g cap bs s) (i x : Nat) (hi : i < bs.length) (hgr : w.grownBy w' (some bs[i])) (hm : SetAt w' bs[i] x) : RdB w' base g cap bs (upd s i x) := by
  have hne := h.ne i hi
  refine ⟨h.1.kept hgr (.inr ?_), h.2.1, fun j hj => ⟨(h.2.2 j hj).1, ?_⟩⟩
  · simpa [Value.ownBlock] using Ne.symm hne
  · by_cases hij : j = i
    · subst hij; simpa [Go.Proofs.Ytolkfgjgnpjpkaa.upd] using hm
    · have hb : bs[j] ≠ bs[i] := fun e => hij ((List.getElem_inj h.2.1).1 e)
      have := ((h.2.2 j hj).2).kept hgr (by simpa using hb)
      simpa [Go.Proofs.Ytolkfgjgnpjpkaa.upd, hij] using this
theorem RdB.later {w w' : World} {base g cap : Nat} {bs : List Nat} {s : Nat → Nat} (h : RdB w base g cap bs s) (hb : Below w.heap.size w w') : RdB w' base g cap bs s :=
  ⟨own_later h.1 hb, h.2.1, fun i hi => ⟨(h.2.2 i hi).1, (h.2.2 i hi).2.later hb (h.2.2 i hi).2.lt⟩⟩
theorem RdB.alloc {w : World} {base g cap : Nat} {bs : List Nat} {s : Nat → Nat} (h : RdB w base g cap bs s) (o : Obj) : RdB (w.alloc o) base g cap bs s := h.later ((Below.refl _ _).alloc (Nat.le_refl _) _)
theorem RdB.drew {w : World} {base g cap : Nat} {bs : List Nat} {s : Nat → Nat} (h : RdB w base g cap bs s) : RdB w.drew base g cap bs s := h.later (Below.refl _ _).drew

end Go.Proofs.Ytolkfgjgnpjpkaa
