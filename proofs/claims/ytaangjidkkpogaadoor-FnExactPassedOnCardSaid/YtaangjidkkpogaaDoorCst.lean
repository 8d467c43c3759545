/- Casts: the pure part. -/
import Derived.Test.YtaangjidkkpogaaDoorSnd
namespace Go.Proofs.YtaangjidkkpogaaDoor
open Go.ChangeShapes Go.WideShapes Go.ChangeAt Go.RowKit
set_option linter.unusedVariables false


/-- A friend's sign. -/
def cby (b : Bool) : UInt8 := if b then 104 else 108
/-- A cast as a text. -/
def cbs (c : List Bool) : ByteArray := ⟨(c.map cby).toArray⟩
theorem cbs_size (c : List Bool) : (cbs c).size = c.length := by simp [cbs, ByteArray.size]
theorem cbs_list (c : List Bool) : (cbs c).data.toList = c.map cby := by simp [cbs]
theorem cby_inj {a b : Bool} : (cby a == cby b) = (a == b) := by cases a <;> cases b <;> rfl
theorem cbs_push (c : List Bool) (b : Bool) : cbs c ++ ⟨#[cby b]⟩ = cbs (c ++ [b]) := by
  apply ByteArray.ext
  rw [ByteArray.data_append]
  simp [cbs]
theorem cbs_inj {a b : List Bool} (h : cbs a = cbs b) : a = b := by
  have h2 : (cbs a).data.toList = (cbs b).data.toList := by rw [h]
  rw [cbs_list, cbs_list] at h2
  have hl : a.length = b.length := by have := congrArg List.length h2; simpa using this
  apply List.ext_getElem hl
  intro i h1 h3
  have := congrArg (fun l => l[i]?) h2
  simp [h1, h3] at this
  have e := @cby_inj a[i] b[i]
  rw [this] at e
  simpa using e.symm
/-- Is a friend honest? -/
def hon (c : List Bool) (i : Int) : Bool := c.getD i.toNat false
/-- Does a say that b is honest (h), or that it is a liar? -/
def sayB (c : List Bool) (a b : Int) (h : Bool) : Bool := hon c a == (hon c b == h)
theorem say_eq (c : List Bool) (a b : Int) (h : Bool) : ((hon c b == hon c a) == h) = sayB c a b h := by
  unfold sayB; cases hon c a <;> cases hon c b <;> cases h <;> rfl
theorem say_ne (c : List Bool) (a b : Int) (h : Bool) : ((hon c b == hon c a) != h) = !sayB c a b h := by
  unfold sayB; cases hon c a <;> cases hon c b <;> cases h <;> rfl
def fit (l : List Snd) (c : List Bool) : Bool := l.all fun q => sayB c q.1 q.2.1 q.2.2
theorem fit_yes {l : List Snd} {c : List Bool} (h : ∀ i, i < l.length → sayB c (sf l i) (st l i) (sm l i) = true) : fit l c = true := by
  unfold fit
  rw [List.all_eq_true]
  intro q hq
  obtain ⟨i, hi, rfl⟩ := List.getElem_of_mem hq
  rw [s_get l i hi]
  exact h i hi
theorem fit_no {l : List Snd} {c : List Bool} {i : Nat} (hi : i < l.length) (h : sayB c (sf l i) (st l i) (sm l i) = false) : fit l c = false := by
  unfold fit
  rw [List.all_eq_false]
  exact ⟨l[i], List.getElem_mem hi, by rw [s_get l i hi, h]; simp⟩
/-- One claim of so many friends. -/
def cl1 (f : Int) (q : Snd) : Bool := decide (0 ≤ q.1 ∧ q.1 < f) && decide (0 ≤ q.2.1 ∧ q.2.1 < f)
def frB (f : Int) : Bool := decide (1 ≤ f ∧ f ≤ 8)
def clB (f : Int) (l : List Snd) : Bool := frB f && (decide (l.length ≤ 20) && l.all (cl1 f))
theorem all_yes {f : Int} {l : List Snd} (h : ∀ i, i < l.length → cl1 f (sf l i, st l i, sm l i) = true) : l.all (cl1 f) = true := by
  rw [List.all_eq_true]
  intro q hq
  obtain ⟨i, hi, rfl⟩ := List.getElem_of_mem hq
  rw [s_get l i hi]
  exact h i hi
theorem all_no {f : Int} {l : List Snd} {i : Nat} (hi : i < l.length) (h : cl1 f (sf l i, st l i, sm l i) = false) : l.all (cl1 f) = false := by
  rw [List.all_eq_false]
  exact ⟨l[i], List.getElem_mem hi, by rw [s_get l i hi, h]; simp⟩
theorem cl_parts {f : Int} {l : List Snd} (h : clB f l = true) : (1 ≤ f ∧ f ≤ 8) ∧ l.length ≤ 20 ∧ l.all (cl1 f) = true := by
  simpa [clB, frB] using h
theorem cl_at {f : Int} {l : List Snd} (h : l.all (cl1 f) = true) {i : Nat} (hi : i < l.length) : (0 ≤ sf l i ∧ sf l i < f) ∧ (0 ≤ st l i ∧ st l i < f) := by
  rw [List.all_eq_true] at h
  have := h l[i] (List.getElem_mem hi)
  rw [s_get l i hi] at this
  simpa [cl1] using this
def castB (s : ByteArray) : Bool := frB s.size && s.data.toList.all fun b => b == 104 || b == 108
def cOf (s : ByteArray) : List Bool := s.data.toList.map (· == 104)
theorem cOf_back (L : List UInt8) (h : (L.all fun b => b == 104 || b == 108) = true) : (L.map (· == 104)).map cby = L := by
  induction L with
  | nil => rfl
  | cons a L ih =>
    simp only [List.all_cons, Bool.and_eq_true, Bool.or_eq_true, beq_iff_eq] at h
    rw [List.map_cons, List.map_cons, ih h.2]
    rcases h.1 with rfl | rfl <;> rfl
theorem cast_of {s : ByteArray} (h : castB s = true) : s = cbs (cOf s) ∧ (cOf s).length = s.size ∧ 1 ≤ s.size ∧ s.size ≤ 8 := by
  simp only [castB, frB, Bool.and_eq_true, decide_eq_true_eq] at h
  refine ⟨?_, by simp [cOf], by omega, by omega⟩
  apply ByteArray.ext
  apply Array.ext'
  rw [cbs_list, cOf, cOf_back _ h.2]
/-- All casts of so many friends, in order. -/
def allC : Nat → List (List Bool)
  | 0 => [[]]
  | n + 1 => (allC n).flatMap fun c => [c ++ [true], c ++ [false]]
theorem allC_len (n : Nat) : (allC n).length = 2 ^ n := by
  induction n with
  | zero => rfl
  | succ n ih =>
    have : ∀ L : List (List Bool), (L.flatMap fun c => [c ++ [true], c ++ [false]]).length = 2 * L.length := by
      intro L
      induction L with
      | nil => rfl
      | cons a L ih => rw [List.flatMap_cons, List.length_append, ih]; simp; omega
    rw [allC, this, ih, Nat.pow_succ]; omega
theorem allC_mem (n : Nat) : ∀ c ∈ allC n, c.length = n := by
  induction n with
  | zero => intro c hc; simp [allC] at hc; subst hc; rfl
  | succ n ih =>
    intro c hc
    simp only [allC, List.mem_flatMap, List.mem_cons, List.not_mem_nil, or_false] at hc
    obtain ⟨d, hd, rfl | rfl⟩ := hc <;> simp [ih d hd]
/-- The first j signs of the k-th cast of n friends. -/
def mB (n k j : Nat) : List Bool := (List.range j).map fun t => k / 2 ^ (n - 1 - t) % 2 == 0
theorem mB_len (n k j : Nat) : (mB n k j).length = j := by simp [mB]
theorem mB_succ (n k j : Nat) : mB n k (j + 1) = mB n k j ++ [k / 2 ^ (n - 1 - j) % 2 == 0] := by simp [mB, List.range_succ]
theorem range_two {α : Type} (g : Nat → α) (N : Nat) : (List.range (2 * N)).map g = (List.range N).flatMap fun k => [g (2 * k), g (2 * k + 1)] := by
  induction N with
  | zero => rfl
  | succ N ih => rw [show 2 * (N + 1) = 2 * N + 1 + 1 by omega, List.range_succ, List.range_succ, List.range_succ, List.flatMap_append, ← ih]; simp
theorem mB_even (n k : Nat) : mB (n + 1) (2 * k) (n + 1) = mB n k n ++ [true] := by
  rw [mB_succ]
  congr 1
  · unfold mB
    apply List.map_congr_left
    intro t ht
    have ht := List.mem_range.1 ht
    rw [show n + 1 - 1 - t = (n - 1 - t) + 1 by omega, Nat.pow_succ, Nat.mul_comm _ 2, Nat.mul_div_mul_left _ _ (by omega)]
  · simp
theorem mB_odd (n k : Nat) : mB (n + 1) (2 * k + 1) (n + 1) = mB n k n ++ [false] := by
  rw [mB_succ]
  congr 1
  · unfold mB
    apply List.map_congr_left
    intro t ht
    have ht := List.mem_range.1 ht
    rw [show n + 1 - 1 - t = (n - 1 - t) + 1 by omega, Nat.pow_succ, Nat.mul_comm _ 2, ← Nat.div_div_eq_div_mul, show (2 * k + 1) / 2 = k by omega]
  · simp
theorem allC_eq (n : Nat) : allC n = (List.range (2 ^ n)).map fun k => mB n k n := by
  induction n with
  | zero => rfl
  | succ n ih =>
    rw [allC, ih, Nat.pow_succ, Nat.mul_comm, range_two, List.flatMap_map]
    congr 1
    funext k
    rw [mB_even, mB_odd]
/-- The casts that fit. -/
def allF (f : Int) (l : List Snd) : List (List Bool) := (allC f.toNat).filter (fit l)
def fitB (f : Int) (l : List Snd) : List (List Bool) := if clB f l then allF f l else []
theorem allF_len (f : Int) (l : List Snd) (h : f ≤ 8) : (allF f l).length ≤ 256 := by
  refine Nat.le_trans (List.length_filter_le _ _) ?_
  rw [allC_len]
  exact Nat.le_trans (Nat.pow_le_pow_right (by omega) (show f.toNat ≤ 8 by omega)) (by decide)
theorem allF_mem {f : Int} {l : List Snd} {c : List Bool} (h : c ∈ allF f l) : c.length = f.toNat := allC_mem _ c ((List.mem_filter.1 h).1)

end Go.Proofs.YtaangjidkkpogaaDoor
