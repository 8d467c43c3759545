/- Lists of clues in memory. -/
import Derived.Test.YtnhkabhchepieaaDoorGen
namespace Go.Proofs.YtnhkabhchepieaaDoor
open Go.ChangeShapes Go.WideShapes Go.ChangeAt Go.RowKit
set_option linter.unusedVariables false


/-- A clue: its kind and three numbers. -/
abbrev Clu := Int × Int × Int × Int
/-- The cells of a list of clues. -/
def ks (l : List Clu) : List Value := l.flatMap fun c => [.int .i64 c.1, .int .i64 c.2.1, .int .i64 c.2.2.1, .int .i64 c.2.2.2]
def k0 (l : List Clu) (i : Nat) : Int := (l.getD i (0, 0, 0, 0)).1
def k1 (l : List Clu) (i : Nat) : Int := (l.getD i (0, 0, 0, 0)).2.1
def k2 (l : List Clu) (i : Nat) : Int := (l.getD i (0, 0, 0, 0)).2.2.1
def k3 (l : List Clu) (i : Nat) : Int := (l.getD i (0, 0, 0, 0)).2.2.2

theorem ks_length (l : List Clu) : (ks l).length = l.length * 4 := by
  induction l with
  | nil => rfl
  | cons c l ih => simp only [ks, List.flatMap_cons, List.length_append, List.length_cons, List.length_nil] at ih ⊢; omega
theorem ks_append (l m : List Clu) : ks (l ++ m) = ks l ++ ks m := by simp [ks]
theorem ks_0 (l : List Clu) : ∀ i, i < l.length → (ks l)[i * 4]? = some (.int .i64 (k0 l i)) := by
  induction l with
  | nil => intro i h; simp at h
  | cons c l ih =>
    intro i h
    cases i with
    | zero => rfl
    | succ i =>
      have := ih i (by simpa using h)
      rw [show (i + 1) * 4 = i * 4 + 1 + 1 + 1 + 1 from by omega]
      exact this
theorem ks_1 (l : List Clu) : ∀ i, i < l.length → (ks l)[i * 4 + 1]? = some (.int .i64 (k1 l i)) := by
  induction l with
  | nil => intro i h; simp at h
  | cons c l ih =>
    intro i h
    cases i with
    | zero => rfl
    | succ i =>
      have := ih i (by simpa using h)
      rw [show (i + 1) * 4 + 1 = i * 4 + 1 + 1 + 1 + 1 + 1 from by omega]
      exact this
theorem ks_2 (l : List Clu) : ∀ i, i < l.length → (ks l)[i * 4 + 2]? = some (.int .i64 (k2 l i)) := by
  induction l with
  | nil => intro i h; simp at h
  | cons c l ih =>
    intro i h
    cases i with
    | zero => rfl
    | succ i =>
      have := ih i (by simpa using h)
      rw [show (i + 1) * 4 + 2 = i * 4 + 2 + 1 + 1 + 1 + 1 from by omega]
      exact this
theorem ks_3 (l : List Clu) : ∀ i, i < l.length → (ks l)[i * 4 + 3]? = some (.int .i64 (k3 l i)) := by
  induction l with
  | nil => intro i h; simp at h
  | cons c l ih =>
    intro i h
    cases i with
    | zero => rfl
    | succ i =>
      have := ih i (by simpa using h)
      rw [show (i + 1) * 4 + 3 = i * 4 + 3 + 1 + 1 + 1 + 1 from by omega]
      exact this
theorem ks_set (l : List Clu) : ∀ i (a b c d : Int), ((((ks l).set (i * 4) (.int .i64 a)).set (i * 4 + 1) (.int .i64 b)).set (i * 4 + 2) (.int .i64 c)).set (i * 4 + 3) (.int .i64 d) = ks (l.set i (a, b, c, d)) := by
  induction l with
  | nil => intro i a b c d; rfl
  | cons z l ih =>
    intro i a b c d
    cases i with
    | zero => rfl
    | succ i =>
      have := ih i a b c d
      rw [show (i + 1) * 4 = i * 4 + 1 + 1 + 1 + 1 from by omega]
      simp only [ks, List.flatMap_cons, List.cons_append, List.nil_append, List.set_cons_succ] at this ⊢
      rw [this]
theorem ks_one (l : List Clu) : ∀ u ∈ ks l, u.oneCell' = true := by
  intro u hu
  simp only [ks, List.mem_flatMap, List.mem_cons, List.not_mem_nil, or_false] at hu
  obtain ⟨c, _, rfl | rfl | rfl | rfl⟩ := hu <;> rfl
theorem k_get (l : List Clu) (i : Nat) (h : i < l.length) : l[i] = (k0 l i, k1 l i, k2 l i, k3 l i) := by
  simp [k0, k1, k2, k3, List.getD_eq_getElem?_getD, h]

/-- The four cells of the i-th clue behind an address. -/
def Sat4 (w : World) (b off : Nat) (l : List Clu) (i : Nat) : Prop :=
  w.cell? ⟨b, off + i * 4, none⟩ = some (.int .i64 (k0 l i)) ∧ w.cell? ⟨b, off + i * 4 + 1, none⟩ = some (.int .i64 (k1 l i)) ∧ w.cell? ⟨b, off + i * 4 + 2, none⟩ = some (.int .i64 (k2 l i)) ∧ w.cell? ⟨b, off + i * 4 + 3, none⟩ = some (.int .i64 (k3 l i))
/-- The slice at this address reads as these clues. -/
def CluesAt (w : World) (ao : Option Addr) (l : List Clu) : Prop :=
  l = [] ∨ ∃ b off, ao = some ⟨b, off, none⟩ ∧ ∀ i, i < l.length → Sat4 w b off l i
theorem Sat4.kept {w w' : World} {b off i : Nat} {l : List Clu} (h : Sat4 w b off l i) (hb : Below w.heap.size w w') : Sat4 w' b off l i := by
  have hbk := World.block_lt_of_cell? w _ h.1
  exact ⟨(hb.cell (p := ⟨b, off + i * 4, none⟩) hbk).trans h.1, (hb.cell (p := ⟨b, off + i * 4 + 1, none⟩) hbk).trans h.2.1, (hb.cell (p := ⟨b, off + i * 4 + 2, none⟩) hbk).trans h.2.2.1, (hb.cell (p := ⟨b, off + i * 4 + 3, none⟩) hbk).trans h.2.2.2⟩
theorem CluesAt.kept {w w' : World} {ao : Option Addr} {l : List Clu} (h : CluesAt w ao l) (hb : Below w.heap.size w w') : CluesAt w' ao l := by
  rcases h with h | ⟨b, off, h, hc⟩
  · exact .inl h
  · exact .inr ⟨b, off, h, fun i hi => (hc i hi).kept hb⟩
theorem kown_cells {e : TypeId} {w : World} {base g n cap : Nat} {l : List Clu} (h : w.ownsRow base e 4 (.slice (some ⟨g, 0, none⟩) n cap) n (ks l)) (hn : n = l.length) (i : Nat) (hi : i < n) : Sat4 w g 0 l i := by
  subst hn
  have h1 := h.cellAt (i * 4) (by omega)
  have h2 := h.cellAt (i * 4 + 1) (by omega)
  have h3 := h.cellAt (i * 4 + 2) (by omega)
  have h4 := h.cellAt (i * 4 + 3) (by omega)
  rw [ks_0 l i hi] at h1
  rw [ks_1 l i hi] at h2
  rw [ks_2 l i hi] at h3
  rw [ks_3 l i hi] at h4
  unfold Sat4
  rw [Nat.zero_add]
  exact ⟨h1, h2, h3, h4⟩
theorem kown_at {e : TypeId} {w : World} {base g n cap : Nat} {l : List Clu} (h : w.ownsRow base e 4 (.slice (some ⟨g, 0, none⟩) n cap) n (ks l)) (hn : n = l.length) : CluesAt w (some ⟨g, 0, none⟩) l := by
  subst hn
  exact .inr ⟨g, 0, rfl, fun i hi => kown_cells h rfl i hi⟩
theorem kown_shape {e : TypeId} {w : World} {base n : Nat} {v : Value} {l : List Clu} (h : w.ownsRow base e 4 v n (ks l)) (hn : n = l.length) :
    ∃ ao cap, v = .slice ao n cap ∧ CluesAt w ao l ∧ (ao = none → n = 0 ∧ cap = 0) ∧ (∀ b off, ao = some ⟨b, off, none⟩ → off = 0 ∧ base ≤ b ∧ b < w.heap.size) := by
  rcases h.2 with ⟨rfl, h0⟩ | ⟨g, cap, cur, rfl, hb, hg, _⟩
  · refine ⟨none, 0, by rw [h0], .inl ?_, (fun _ => ⟨h0, rfl⟩), (fun b off hh => by cases hh)⟩
    exact List.eq_nil_of_length_eq_zero (by omega)
  · refine ⟨some ⟨g, 0, none⟩, cap, rfl, kown_at h hn, (fun hh => by cases hh), fun b off hh => ?_⟩
    simp only [Option.some.injEq, Addr.mk.injEq, and_true] at hh
    obtain ⟨rfl, rfl⟩ := hh
    exact ⟨rfl, hb, (Array.getElem?_eq_some_iff.1 hg).1⟩
/-- Four cells of one clue written. -/
theorem own_set4 {e : TypeId} {w : World} {base g n cap : Nat} {l : List Clu} (h : w.ownsRow base e 4 (.slice (some ⟨g, 0, none⟩) n cap) n (ks l)) (k : Nat) (a b c d : Int) :
    ((((w.setCell ⟨g, k * 4, none⟩ (.int .i64 a)).setCell ⟨g, k * 4 + 1, none⟩ (.int .i64 b)).setCell ⟨g, k * 4 + 2, none⟩ (.int .i64 c)).setCell ⟨g, k * 4 + 3, none⟩ (.int .i64 d)).ownsRow base e 4 (.slice (some ⟨g, 0, none⟩) n cap) n (ks (l.set k (a, b, c, d))) := by
  have h1 := (h.stored (k * 4) (.int .i64 a)).1
  have h2 := (h1.stored (k * 4 + 1) (.int .i64 b)).1
  have h3 := (h2.stored (k * 4 + 2) (.int .i64 c)).1
  have h4 := (h3.stored (k * 4 + 3) (.int .i64 d)).1
  rw [ks_set] at h4
  exact h4
theorem zero_clues (n : Nat) : (madeCells #[.int .i64 0, .int .i64 0, .int .i64 0, .int .i64 0] (n * 4)).toList = ks (List.replicate n (0, 0, 0, 0)) := by
  apply List.ext_getElem?
  intro j
  by_cases hj : j < n * 4
  · have h1 : (madeCells #[.int .i64 0, .int .i64 0, .int .i64 0, .int .i64 0] (n * 4)).toList[j]? = some (.int .i64 0) := by
      have h3 : j % 4 = 0 ∨ j % 4 = 1 ∨ j % 4 = 2 ∨ j % 4 = 3 := by omega
      rcases h3 with h | h | h | h <;> simp [madeCells, hj, h]
    rw [h1]
    obtain ⟨i, hi⟩ : ∃ i, j = i * 4 ∨ j = i * 4 + 1 ∨ j = i * 4 + 2 ∨ j = i * 4 + 3 := ⟨j / 4, by omega⟩
    rcases hi with rfl | rfl | rfl | rfl
    · rw [ks_0 _ i (by simp; omega)]; simp [k0, List.getD_eq_getElem?_getD, show i < n by omega]
    · rw [ks_1 _ i (by simp; omega)]; simp [k1, List.getD_eq_getElem?_getD, show i < n by omega]
    · rw [ks_2 _ i (by simp; omega)]; simp [k2, List.getD_eq_getElem?_getD, show i < n by omega]
    · rw [ks_3 _ i (by simp; omega)]; simp [k3, List.getD_eq_getElem?_getD, show i < n by omega]
  · rw [List.getElem?_eq_none (by simp [madeCells]; omega), List.getElem?_eq_none (by rw [ks_length]; simp; omega)]
def kpart (l : List Clu) (k : Nat) : List Clu := l.take k ++ List.replicate (l.length - k) (0, 0, 0, 0)
theorem kpart_zero (l : List Clu) : kpart l 0 = List.replicate l.length (0, 0, 0, 0) := by simp [kpart]
theorem kpart_all (l : List Clu) : kpart l l.length = l := by simp [kpart]
theorem kpart_length (l : List Clu) (k : Nat) (h : k ≤ l.length) : (kpart l k).length = l.length := by simp [kpart]; omega
theorem kpart_set (l : List Clu) (k : Nat) (h : k < l.length) : (kpart l k).set k (k0 l k, k1 l k, k2 l k, k3 l k) = kpart l (k + 1) := by
  rw [← k_get l k h]
  unfold kpart
  rw [List.set_append_right _ _ (by simp; omega)]
  have : k - (l.take k).length = 0 := by simp; omega
  rw [this, show l.length - k = (l.length - (k + 1)) + 1 from by omega, List.replicate_succ, List.set_cons_zero, List.take_succ_eq_append_getElem h, List.append_assoc]
  rfl
/-- Clues written over by marks, from k on. -/
def kmarks (k : Int) (l : List Clu) (j : Nat) : List Clu := (List.range l.length).map fun i => if i < j then (k + 4 * (i : Int), k + 4 * (i : Int) + 1, k + 4 * (i : Int) + 1 + 1, k + 4 * (i : Int) + 1 + 1 + 1) else (k0 l i, k1 l i, k2 l i, k3 l i)
theorem kmarks_length (k : Int) (l : List Clu) (j : Nat) : (kmarks k l j).length = l.length := by simp [kmarks]
theorem kmarks_zero (k : Int) (l : List Clu) : kmarks k l 0 = l := by
  apply List.ext_getElem?
  intro i
  by_cases h : i < l.length
  · simp [kmarks, h, ← k_get l i h]
  · simp [kmarks, h]
theorem kmarks_get (k : Int) (l : List Clu) (j i : Nat) (h : i < l.length) (hj : i < j) : k0 (kmarks k l j) i = k + 4 * (i : Int) ∧ k1 (kmarks k l j) i = k + 4 * (i : Int) + 1 ∧ k2 (kmarks k l j) i = k + 4 * (i : Int) + 1 + 1 ∧ k3 (kmarks k l j) i = k + 4 * (i : Int) + 1 + 1 + 1 := by
  simp [k0, k1, k2, k3, kmarks, List.getD_eq_getElem?_getD, h, hj]
theorem kmarks_set (k : Int) (l : List Clu) (j : Nat) (h : j < l.length) : (kmarks k l j).set j (k + 4 * (j : Int), k + 4 * (j : Int) + 1, k + 4 * (j : Int) + 1 + 1, k + 4 * (j : Int) + 1 + 1 + 1) = kmarks k l (j + 1) := by
  apply List.ext_getElem?
  intro i
  rw [List.getElem?_set]
  by_cases hi : i < l.length
  · by_cases hij : j = i
    · subst hij
      simp [kmarks, hi]
    · rw [if_neg hij]
      simp only [kmarks, List.getElem?_map, List.getElem?_range hi, Option.map_some]
      by_cases hlt : i < j
      · simp [hlt, show i < j + 1 by omega]
      · simp [hlt, show ¬ i < j + 1 by omega]
  · by_cases hij : j = i
    · omega
    · rw [if_neg hij]; simp [kmarks, hi]
theorem own_cap4 {w : World} {base : Nat} {e : TypeId} {size n m cap : Nat} {ao : Option Addr} {xs : List Value} (h : w.ownsRow base e size (.slice ao n cap) m xs) : n ≤ cap := by
  rcases h.2 with ⟨h', _⟩ | ⟨g', cap', cur, h', _, _, hnc, _⟩
  · simp at h'; omega
  · simp only [Value.slice.injEq] at h'
    obtain ⟨_, h2, h3⟩ := h'
    omega

end Go.Proofs.YtnhkabhchepieaaDoor
