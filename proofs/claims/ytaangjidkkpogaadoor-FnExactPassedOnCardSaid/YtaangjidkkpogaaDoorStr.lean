/- Rows of texts in memory. -/
import Derived.Test.YtaangjidkkpogaaDoorCst
namespace Go.Proofs.YtaangjidkkpogaaDoor
open Go.ChangeShapes Go.WideShapes Go.ChangeAt Go.RowKit
set_option linter.unusedVariables false


/-- The cells of a list of texts. -/
def ts (l : List ByteArray) : List Value := l.map Value.string
def ta (l : List ByteArray) (i : Nat) : ByteArray := l.getD i ⟨#[]⟩
theorem ts_length (l : List ByteArray) : (ts l).length = l.length := by simp [ts]
theorem ts_append (l m : List ByteArray) : ts (l ++ m) = ts l ++ ts m := by simp [ts]
theorem ts_get (l : List ByteArray) (i : Nat) (h : i < l.length) : (ts l)[i]? = some (.string (ta l i)) := by simp [ts, ta, h]
theorem ts_set (l : List ByteArray) (i : Nat) (a : ByteArray) : (ts l).set i (.string a) = ts (l.set i a) := by simp [ts, List.map_set]
theorem ts_one (l : List ByteArray) : ∀ u ∈ ts l, u.oneCell' = true := by
  intro u hu
  simp only [ts, List.mem_map] at hu
  obtain ⟨c, _, rfl⟩ := hu; rfl
theorem ta_get (l : List ByteArray) (i : Nat) (h : i < l.length) : l[i] = ta l i := by simp [ta, List.getD_eq_getElem?_getD, h]
/-- The slice at this address reads as these texts. -/
def StrsAt (w : World) (ao : Option Addr) (l : List ByteArray) : Prop :=
  l = [] ∨ ∃ b off, ao = some ⟨b, off, none⟩ ∧ ∀ i, i < l.length → w.cell? ⟨b, off + i, none⟩ = some (.string (ta l i))
theorem StrsAt.kept {w w' : World} {ao : Option Addr} {l : List ByteArray} (h : StrsAt w ao l) (hb : Below w.heap.size w w') : StrsAt w' ao l := by
  rcases h with h | ⟨b, off, h, hc⟩
  · exact .inl h
  · refine .inr ⟨b, off, h, fun i hi => ?_⟩
    exact (hb.cell (p := ⟨b, off + i, none⟩) (World.block_lt_of_cell? w _ (hc i hi))).trans (hc i hi)
theorem strs_at {e : TypeId} {w : World} {base g n cap : Nat} {l : List ByteArray} (h : w.ownsRow base e 1 (.slice (some ⟨g, 0, none⟩) n cap) n (ts l)) (hn : n = l.length) : StrsAt w (some ⟨g, 0, none⟩) l := by
  subst hn
  refine .inr ⟨g, 0, rfl, fun i hi => ?_⟩
  have h1 := h.cellAt i (by omega)
  rw [ts_get l i hi] at h1
  simp only [Nat.zero_add]
  exact h1
theorem strs_shape {e : TypeId} {w : World} {base n : Nat} {v : Value} {l : List ByteArray} (h : w.ownsRow base e 1 v n (ts l)) (hn : n = l.length) :
    ∃ ao cap, v = .slice ao n cap ∧ StrsAt w ao l ∧ (ao = none → n = 0) ∧ (∀ b off, ao = some ⟨b, off, none⟩ → off = 0 ∧ base ≤ b ∧ b < w.heap.size) := by
  rcases h.2 with ⟨rfl, h0⟩ | ⟨g, cap, cur, rfl, hb, hg, _⟩
  · refine ⟨none, 0, by rw [h0], .inl ?_, (fun _ => h0), (fun b off hh => by cases hh)⟩
    exact List.eq_nil_of_length_eq_zero (by omega)
  · refine ⟨some ⟨g, 0, none⟩, cap, rfl, strs_at h hn, (fun hh => by cases hh), fun b off hh => ?_⟩
    simp only [Option.some.injEq, Addr.mk.injEq, and_true] at hh
    obtain ⟨rfl, rfl⟩ := hh
    exact ⟨rfl, hb, (Array.getElem?_eq_some_iff.1 hg).1⟩
def tpart (l : List ByteArray) (k : Nat) : List ByteArray := l.take k ++ List.replicate (l.length - k) ⟨#[]⟩
theorem tpart_zero (l : List ByteArray) : tpart l 0 = List.replicate l.length ⟨#[]⟩ := by simp [tpart]
theorem tpart_all (l : List ByteArray) : tpart l l.length = l := by simp [tpart]
theorem tpart_set (l : List ByteArray) (k : Nat) (h : k < l.length) : (tpart l k).set k (ta l k) = tpart l (k + 1) := by
  rw [← ta_get l k h]
  unfold tpart
  rw [List.set_append_right _ _ (by simp; omega)]
  have : k - (l.take k).length = 0 := by simp; omega
  rw [this, show l.length - k = (l.length - (k + 1)) + 1 from by omega, List.replicate_succ, List.set_cons_zero, List.take_succ_eq_append_getElem h, List.append_assoc]
  rfl
/-- The texts of casts. -/
def tc (L : List (List Bool)) : List ByteArray := L.map cbs
theorem tc_len (L : List (List Bool)) : (tc L).length = L.length := by simp [tc]
theorem tc_append (l m : List (List Bool)) : tc (l ++ m) = tc l ++ tc m := by simp [tc]
theorem tc_get (L : List (List Bool)) (i : Nat) (h : i < L.length) : ta (tc L) i = cbs L[i] := by simp [ta, tc, List.getD_eq_getElem?_getD, h]

end Go.Proofs.YtaangjidkkpogaaDoor
