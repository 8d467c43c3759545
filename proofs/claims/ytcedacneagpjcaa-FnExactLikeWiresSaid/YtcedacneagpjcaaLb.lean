/- Labels: what they are. -/
import Derived.Test.YtcedacneagpjcaaGrW
namespace Go.Proofs.Ytcedacneagpjcaa
open Go.ChangeShapes Go.WideShapes Go.ChangeAt Go.RowKit
set_option linter.unusedVariables false


/-- How great the group of a wire is. -/
def sz (l : List Int) (k : Nat) : Nat := l.count (na l k)

/-- How many of the first k wires are in a group. -/
def cntTo (l : List Int) (k x : Nat) : Nat := (l.take k).count (x : Int)

def updN (s : Nat → Nat) (i v : Nat) : Nat → Nat := fun j => if j = i then v else s j

theorem take_na (l : List Int) (k : Nat) (h : k < l.length) : l.take (k + 1) = l.take k ++ [na l k] := by
  rw [List.take_succ_eq_append_getElem h, na_get l k h]

theorem cntTo_succ (l : List Int) (k G : Nat) (h : k < l.length) (hG : na l k = (G : Int)) : cntTo l (k + 1) = updN (cntTo l k) G (cntTo l k G + 1) := by
  funext j
  unfold cntTo updN
  rw [take_na l k h, List.count_append, hG]
  by_cases hj : j = G
  · subst hj; simp
  · rw [if_neg hj, List.count_singleton, if_neg (by simp; omega)]; rfl

theorem cntTo_zero (l : List Int) : cntTo l 0 = fun _ => 0 := by funext j; simp [cntTo]

theorem cntTo_le (l : List Int) (k x : Nat) : cntTo l k x ≤ k := by
  unfold cntTo
  have := List.count_le_length (a := (x : Int)) (l := l.take k)
  rw [List.length_take] at this; omega

theorem cntTo_all (l : List Int) (k G n : Nat) (hn : n = l.length) (hG : na l k = (G : Int)) : cntTo l n G = sz l k := by
  unfold cntTo sz
  rw [hn, List.take_length, hG]

theorem sz_le (l : List Int) (k : Nat) : sz l k ≤ l.length := List.count_le_length

theorem row_gl_count (l : List Int) : ∀ k, k ≤ l.length → (∀ j, j < k → 0 ≤ na l j ∧ na l j ≤ nx l j) → ∀ i : Nat, (row (gl l k) i).length = cntTo l k i
  | 0 => fun _ _ i => by simp [gl, row, cntTo]
  | k + 1 => fun hk h i => by
    have h1 := row_gl_count l k (by omega) (fun j hj => h j (by omega))
    have h2 := h k (by omega)
    have h3 := gl_length l k (fun j hj => h j (by omega))
    obtain ⟨G, hG⟩ := Int.eq_ofNat_of_zero_le h2.1
    rw [cntTo_succ l k G (by omega) hG]
    simp only [gl, updN]
    rw [row_gput _ _ _ (by omega), hG]
    simp only [Int.toNat_natCast]
    split
    · rw [List.length_append, h1]; rfl
    · exact h1 i

theorem gl_size (l : List Int) (hg : grB l = true) (k G : Nat) (hG : na l k = (G : Int)) : (row (gl l l.length) G).length = sz l k := by
  rw [row_gl_count l l.length (Nat.le_refl _) (grB_to hg (Nat.le_refl _)) G]
  exact cntTo_all l k G _ rfl hG

def fl (n : Nat) (s : Nat → Nat) : List Value := (List.range n).map fun i => .int .i64 ((s i : Nat) : Int)

theorem fl_get (n : Nat) (s : Nat → Nat) (i : Nat) (h : i < n) : (fl n s)[i]? = some (.int .i64 (s i : Nat)) := by simp [fl, h]

theorem fl_set (n : Nat) (s : Nat → Nat) (i v : Nat) : (fl n s).set i (.int .i64 (v : Int)) = fl n (updN s i v) := by
  apply List.ext_getElem?
  intro j
  rw [List.getElem?_set]
  by_cases hij : i = j
  · subst hij
    by_cases h : i < n
    · rw [if_pos rfl, if_pos (by simpa [fl] using h), fl_get _ _ _ h]; simp [updN]
    · rw [if_pos rfl, if_neg (by simpa [fl] using h), List.getElem?_eq_none (by simp [fl]; omega)]
  · rw [if_neg hij]
    by_cases h : j < n
    · rw [fl_get _ _ _ h, fl_get _ _ _ h]; simp [updN, Ne.symm hij]
    · rw [List.getElem?_eq_none (by simp [fl]; omega), List.getElem?_eq_none (by simp [fl]; omega)]

/-- Twelve numbers. -/
def BA (s : Nat → Nat) : Array Value := (fl 12 s).toArray

theorem BA_get (s : Nat → Nat) (i : Nat) (h : i < 12) : (BA s)[i]? = some (.int .i64 (s i : Nat)) := by
  unfold BA; rw [List.getElem?_toArray]; exact fl_get 12 s i h

theorem BA_set (s : Nat → Nat) (i v : Nat) : (BA s).setIfInBounds i (.int .i64 (v : Int)) = BA (updN s i v) := by
  unfold BA; rw [List.setIfInBounds_toArray, fl_set]

theorem BA_zero : BA (fun _ => 0) = #[.int .i64 0, .int .i64 0, .int .i64 0, .int .i64 0, .int .i64 0, .int .i64 0, .int .i64 0, .int .i64 0, .int .i64 0, .int .i64 0, .int .i64 0, .int .i64 0] := rfl

/-- The label of each wire. -/
def LB (l m : List Int) : List (Int × Int) := (List.range l.length).map fun i => ((sz l i : Nat), (sz m i : Nat))

theorem LB_length (l m : List Int) : (LB l m).length = l.length := by simp [LB]
theorem LB_a (l m : List Int) (k : Nat) (h : k < l.length) : ca (LB l m) k = (sz l k : Nat) := by simp [LB, ca, List.getD_eq_getElem?_getD, h]
theorem LB_b (l m : List Int) (k : Nat) (h : k < l.length) : cb (LB l m) k = (sz m k : Nat) := by simp [LB, cb, List.getD_eq_getElem?_getD, h]

theorem info60 : (Try.prog.info? 60).map (fun i => (i.zero, i.size, i.bytes)) = some (some (.agg #[.int .i64 0, .int .i64 0]), 2, 16) := by kernel_rfl

end Go.Proofs.Ytcedacneagpjcaa
