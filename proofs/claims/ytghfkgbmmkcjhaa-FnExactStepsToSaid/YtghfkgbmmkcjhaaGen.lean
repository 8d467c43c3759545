/- Lists in memory: how they are owned, read and marked. -/
import Derived.Test.YtghfkgbmmkcjhaaRows
import Derived.WalkKit
import Derived.ProofKit
import Derived.OpenShut
import Derived.Outline
import Derived.Handy
import Derived.WalkLawsBesides
import Derived.WalkSpells
import Derived.Lib.Hide
import Derived.StillTailTactics
import Derived.BigQuiet
import Derived.Deep.QuietTactic
import Derived.Deep.RegionHeld3
import Derived.Deep.RegionWith
import Derived.Deep.Slices
import Derived.Deep.SlicePairs
import Derived.Deep.AppendLies
import Derived.Laws.AppendOwnNone
import Derived.Deep.Cut
import Derived.Laws.Tables
import Derived.Lib.Tables
import Derived.Deep.MidRow
import Derived.Laws.StructEq
import Derived.Laws.Cover2
namespace Go.Proofs.Ytghfkgbmmkcjhaa
open Go.ChangeShapes Go.WideShapes Go.ChangeAt Go.RowKit
set_option linter.unusedVariables false

/-- The cells of a list of calls. -/
def cs (l : List (Int × Int)) : List Value := l.flatMap fun c => [.int .i64 c.1, .int .i64 c.2]

def ca (l : List (Int × Int)) (i : Nat) : Int := (l.getD i (0, 0)).1

def cb (l : List (Int × Int)) (i : Nat) : Int := (l.getD i (0, 0)).2

theorem cs_length (l : List (Int × Int)) : (cs l).length = l.length * 2 := by
  induction l with
  | nil => rfl
  | cons c l ih => simp only [cs, List.flatMap_cons, List.length_append, List.length_cons, List.length_nil] at ih ⊢; omega

theorem cs_append (l m : List (Int × Int)) : cs (l ++ m) = cs l ++ cs m := by simp [cs]

theorem cs_even (l : List (Int × Int)) : ∀ i, i < l.length → (cs l)[i * 2]? = some (.int .i64 (ca l i)) := by
  induction l with
  | nil => intro i h; simp at h
  | cons c l ih =>
    intro i h
    cases i with
    | zero => rfl
    | succ i =>
      have := ih i (by simpa using h)
      rw [show (i + 1) * 2 = i * 2 + 1 + 1 from by omega]
      exact this

theorem cs_odd (l : List (Int × Int)) : ∀ i, i < l.length → (cs l)[i * 2 + 1]? = some (.int .i64 (cb l i)) := by
  induction l with
  | nil => intro i h; simp at h
  | cons c l ih =>
    intro i h
    cases i with
    | zero => rfl
    | succ i =>
      have := ih i (by simpa using h)
      rw [show (i + 1) * 2 + 1 = i * 2 + 1 + 1 + 1 from by omega]
      exact this

theorem cs_set (l : List (Int × Int)) : ∀ i (a b : Int), ((cs l).set (i * 2) (.int .i64 a)).set (i * 2 + 1) (.int .i64 b) = cs (l.set i (a, b)) := by
  induction l with
  | nil => intro i a b; rfl
  | cons c l ih =>
    intro i a b
    cases i with
    | zero => rfl
    | succ i =>
      have := ih i a b
      rw [show (i + 1) * 2 = i * 2 + 1 + 1 from by omega]
      simp only [cs, List.flatMap_cons, List.cons_append, List.nil_append, List.set_cons_succ] at this ⊢
      rw [this]

theorem cs_one (l : List (Int × Int)) : ∀ u ∈ cs l, u.oneCell' = true := by
  intro u hu
  simp only [cs, List.mem_flatMap, List.mem_cons, List.not_mem_nil, or_false] at hu
  obtain ⟨c, _, rfl | rfl⟩ := hu <;> rfl

theorem ca_cb (l : List (Int × Int)) (i : Nat) (h : i < l.length) : l[i] = (ca l i, cb l i) := by
  simp [ca, cb, List.getD_eq_getElem?_getD, h]

/-- The slice at this address reads as these calls. -/
def CallsAt (w : World) (ao : Option Addr) (l : List (Int × Int)) : Prop :=
  l = [] ∨ ∃ b off, ao = some ⟨b, off, none⟩ ∧ ∀ i, i < l.length → w.cell? ⟨b, off + i * 2, none⟩ = some (.int .i64 (ca l i)) ∧ w.cell? ⟨b, off + i * 2 + 1, none⟩ = some (.int .i64 (cb l i))

theorem CallsAt.kept {w w' : World} {ao : Option Addr} {l : List (Int × Int)} (h : CallsAt w ao l) (hb : Below w.heap.size w w') : CallsAt w' ao l := by
  rcases h with h | ⟨b, off, h, hc⟩
  · exact .inl h
  · refine .inr ⟨b, off, h, fun i hi => ?_⟩
    obtain ⟨h1, h2⟩ := hc i hi
    have hbk := World.block_lt_of_cell? w _ h1
    exact ⟨(hb.cell (p := ⟨b, off + i * 2, none⟩) hbk).trans h1, (hb.cell (p := ⟨b, off + i * 2 + 1, none⟩) hbk).trans h2⟩

theorem own_at {e : TypeId} {w : World} {base g n cap : Nat} {l : List (Int × Int)} (h : w.ownsRow base e 2 (.slice (some ⟨g, 0, none⟩) n cap) n (cs l)) (hn : n = l.length) : CallsAt w (some ⟨g, 0, none⟩) l := by
  subst hn
  refine .inr ⟨g, 0, rfl, fun i hi => ?_⟩
  have h1 := h.cellAt (i * 2) (by omega)
  have h2 := h.cellAt (i * 2 + 1) (by omega)
  rw [cs_even l i hi] at h1
  rw [cs_odd l i hi] at h2
  simp only [Nat.zero_add]
  exact ⟨h1, h2⟩

/-- A value that owns the cells of calls: its shape, and how it reads. -/
theorem own_shape {e : TypeId} {w : World} {base n : Nat} {v : Value} {l : List (Int × Int)} (h : w.ownsRow base e 2 v n (cs l)) (hn : n = l.length) :
    ∃ ao cap, v = .slice ao n cap ∧ CallsAt w ao l ∧ (ao = none → n = 0) ∧ (∀ b off, ao = some ⟨b, off, none⟩ → off = 0 ∧ base ≤ b ∧ b < w.heap.size) := by
  rcases h.2 with ⟨rfl, h0⟩ | ⟨g, cap, cur, rfl, hb, hg, _⟩
  · refine ⟨none, 0, by rw [h0], .inl ?_, (fun _ => h0), (fun b off hh => by cases hh)⟩
    exact List.eq_nil_of_length_eq_zero (by omega)
  · refine ⟨some ⟨g, 0, none⟩, cap, rfl, own_at h hn, (fun hh => by cases hh), fun b off hh => ?_⟩
    simp only [Option.some.injEq, Addr.mk.injEq, and_true] at hh
    obtain ⟨rfl, rfl⟩ := hh
    exact ⟨rfl, hb, (Array.getElem?_eq_some_iff.1 hg).1⟩

theorem own_some {w : World} {base : Nat} {e : TypeId} {size : Nat} {g n cap : Nat} {xs : List Value} (h : w.ownsRow base e size (.slice (some ⟨g, 0, none⟩) n cap) n xs) (j : Nat) (hj : j < n * size) : ∃ u, w.cell? ⟨g, j, none⟩ = some u := by
  have hx : j < xs.length := by rw [h.1]; exact hj
  exact ⟨xs[j], by rw [h.cellAt j hj, List.getElem?_eq_getElem hx]⟩

/-- What is owned stays owned where only what is at or beyond a bound above it turns. -/
theorem own_below {w w' : World} {base : Nat} {e : TypeId} {size : Nat} {v : Value} {n B : Nat} {xs : List Value} (h : w.ownsRow base e size v n xs) (hb : Below B w w') (hB : ∀ k, v.ownBlock = some k → k < B) : w'.ownsRow base e size v n xs := by
  refine ⟨h.1, ?_⟩
  rcases h.2 with hn | ⟨g, cap, cur, rfl, hbg, hgg, rest⟩
  · exact .inl hn
  · exact .inr ⟨g, cap, cur, rfl, hbg, by rw [hb.block g (hB g rfl)]; exact hgg, rest⟩

theorem own_later {w w' : World} {base : Nat} {e : TypeId} {size : Nat} {v : Value} {n : Nat} {xs : List Value} (h : w.ownsRow base e size v n xs) (hb : Below w.heap.size w w') : w'.ownsRow base e size v n xs :=
  own_below h hb fun k hk => (h.lt k hk).2

/-- Two cells of one call written. -/
theorem own_set2 {e : TypeId} {w : World} {base g n cap : Nat} {l : List (Int × Int)} (h : w.ownsRow base e 2 (.slice (some ⟨g, 0, none⟩) n cap) n (cs l)) (k : Nat) (a b : Int) :
    ((w.setCell ⟨g, k * 2, none⟩ (.int .i64 a)).setCell ⟨g, k * 2 + 1, none⟩ (.int .i64 b)).ownsRow base e 2 (.slice (some ⟨g, 0, none⟩) n cap) n (cs (l.set k (a, b))) := by
  have h1 := (h.stored (k * 2) (.int .i64 a)).1
  have h2 := (h1.stored (k * 2 + 1) (.int .i64 b)).1
  rw [cs_set] at h2
  exact h2

theorem zero_cells (n : Nat) : (madeCells #[.int .i64 0, .int .i64 0] (n * 2)).toList = cs (List.replicate n (0, 0)) := by
  apply List.ext_getElem?
  intro j
  by_cases hj : j < n * 2
  · have h1 : (madeCells #[.int .i64 0, .int .i64 0] (n * 2)).toList[j]? = some (.int .i64 0) := by
      rcases Nat.mod_two_eq_zero_or_one j with h | h <;> simp [madeCells, hj, h]
    rw [h1]
    obtain ⟨i, hi⟩ : ∃ i, j = i * 2 ∨ j = i * 2 + 1 := ⟨j / 2, by omega⟩
    rcases hi with rfl | rfl
    · rw [cs_even _ i (by simp; omega)]; simp [ca, List.getD_eq_getElem?_getD, show i < n by omega]
    · rw [cs_odd _ i (by simp; omega)]; simp [cb, List.getD_eq_getElem?_getD, show i < n by omega]
  · rw [List.getElem?_eq_none (by simp [madeCells]; omega), List.getElem?_eq_none (by rw [cs_length]; simp; omega)]

def part (l : List (Int × Int)) (k : Nat) : List (Int × Int) := l.take k ++ List.replicate (l.length - k) (0, 0)

theorem part_zero (l : List (Int × Int)) : part l 0 = List.replicate l.length (0, 0) := by simp [part]

theorem part_all (l : List (Int × Int)) : part l l.length = l := by simp [part]

theorem part_length (l : List (Int × Int)) (k : Nat) (h : k ≤ l.length) : (part l k).length = l.length := by simp [part]; omega

theorem part_set (l : List (Int × Int)) (k : Nat) (h : k < l.length) : (part l k).set k (ca l k, cb l k) = part l (k + 1) := by
  have hx := ca_cb l k h
  rw [← hx]
  unfold part
  rw [List.set_append_right _ _ (by simp; omega)]
  have : k - (l.take k).length = 0 := by simp; omega
  rw [this, show l.length - k = (l.length - (k + 1)) + 1 from by omega, List.replicate_succ, List.set_cons_zero, List.take_succ_eq_append_getElem h, List.append_assoc]
  rfl

/-- Calls written over by marks, from k on. -/
def marks (k : Int) (l : List (Int × Int)) (j : Nat) : List (Int × Int) := (List.range l.length).map fun i => if i < j then (k + 2 * (i : Int), k + 2 * (i : Int) + 1) else (ca l i, cb l i)

theorem marks_length (k : Int) (l : List (Int × Int)) (j : Nat) : (marks k l j).length = l.length := by simp [marks]

theorem marks_zero (k : Int) (l : List (Int × Int)) : marks k l 0 = l := by
  apply List.ext_getElem?
  intro i
  by_cases h : i < l.length
  · simp [marks, h, ← ca_cb l i h]
  · simp [marks, h]

theorem marks_get (k : Int) (l : List (Int × Int)) (j i : Nat) (h : i < l.length) : ca (marks k l j) i = (if i < j then k + 2 * (i : Int) else ca l i) ∧ cb (marks k l j) i = (if i < j then k + 2 * (i : Int) + 1 else cb l i) := by
  simp only [ca, cb, marks, List.getD_eq_getElem?_getD, List.getElem?_map, List.getElem?_range h, Option.map_some, Option.getD_some]
  split <;> exact ⟨rfl, rfl⟩

theorem marks_set (k : Int) (l : List (Int × Int)) (j : Nat) (h : j < l.length) : (marks k l j).set j (k + 2 * (j : Int), k + 2 * (j : Int) + 1) = marks k l (j + 1) := by
  apply List.ext_getElem?
  intro i
  rw [List.getElem?_set]
  by_cases hi : i < l.length
  · by_cases hij : j = i
    · subst hij
      simp [marks, hi]
    · rw [if_neg hij]
      simp only [marks, List.getElem?_map, List.getElem?_range hi, Option.map_some]
      by_cases hlt : i < j
      · simp [hlt, show i < j + 1 by omega]
      · simp [hlt, show ¬ i < j + 1 by omega]
  · by_cases hij : j = i
    · omega
    · rw [if_neg hij]; simp [marks, hi]

theorem own_cells {e : TypeId} {w : World} {base g n cap : Nat} {l : List (Int × Int)} (h : w.ownsRow base e 2 (.slice (some ⟨g, 0, none⟩) n cap) n (cs l)) (hn : n = l.length) (i : Nat) (hi : i < n) :
    w.cell? ⟨g, i * 2, none⟩ = some (.int .i64 (ca l i)) ∧ w.cell? ⟨g, i * 2 + 1, none⟩ = some (.int .i64 (cb l i)) := by
  subst hn
  have h1 := h.cellAt (i * 2) (by omega)
  have h2 := h.cellAt (i * 2 + 1) (by omega)
  rw [cs_even l i hi] at h1
  rw [cs_odd l i hi] at h2
  exact ⟨h1, h2⟩

theorem grown_set {w wr : World} {g : Nat} (h : w.grownBy wr (some g)) (o : Nat) (u : Value) : w.grownBy (wr.setCell ⟨g, o, none⟩ u) (some g) :=
  ⟨h.os, h.tape, h.output, by simpa [World.setCell] using h.size, fun k hk hne => (Below.heap_setCell _ _ _ _ (fun e => hne (by simp [e]))).trans (h.block k hk hne)⟩

/-- Two values that own, the second one what was made behind the first one: they don't meet. -/
theorem apart_of {w1 w2 : World} {b1 : Nat} {e1 e2 : TypeId} {s1 s2 : Nat} {v1 v2 : Value} {n1 n2 : Nat} {x1 x2 : List Value} (h1 : w1.ownsRow b1 e1 s1 v1 n1 x1) (h2 : w2.ownsRow w1.heap.size e2 s2 v2 n2 x2) :
    v1.ownBlock = none ∨ v1.ownBlock ≠ v2.ownBlock := by
  cases hv : v1.ownBlock with
  | none => exact .inl rfl
  | some k =>
    refine .inr fun hh => ?_
    have a1 := (h1.lt k hv).2
    have a2 := (h2.lt k hh.symm).1
    omega

theorem apart_of' {w1 w2 : World} {b1 : Nat} {e1 e2 : TypeId} {s1 s2 : Nat} {v1 v2 : Value} {n1 n2 : Nat} {x1 x2 : List Value} (h1 : w1.ownsRow b1 e1 s1 v1 n1 x1) (h2 : w2.ownsRow w1.heap.size e2 s2 v2 n2 x2) :
    v2.ownBlock = none ∨ v2.ownBlock ≠ v1.ownBlock := by
  cases hv : v2.ownBlock with
  | none => exact .inl rfl
  | some k =>
    refine .inr fun hh => ?_
    have a1 := (h1.lt k hh.symm).2
    have a2 := (h2.lt k hv).1
    omega

theorem own_apos {w : World} {base : Nat} {e : TypeId} {size : Nat} {v : Value} {n : Nat} {xs : List Value} (h : w.ownsRow base e size v n xs) (hn : 0 < n) : ∃ g cap, v = .slice (some ⟨g, 0, none⟩) n cap := by
  rcases h.2 with ⟨_, h0⟩ | ⟨g, cap, cur, rfl, _⟩
  · omega
  · exact ⟨g, cap, rfl⟩

theorem ret_bool {a b : Bool} (h : a = b) : Ending.returned (.bool a) = .returned (.bool b) := by rw [h]

theorem ret_int {a b : Int} (h : a = b) : Ending.returned (.int .i64 a) = .returned (.int .i64 b) := by rw [h]

end Go.Proofs.Ytghfkgbmmkcjhaa
