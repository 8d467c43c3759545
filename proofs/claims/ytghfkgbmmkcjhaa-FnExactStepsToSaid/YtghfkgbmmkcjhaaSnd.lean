/- Lists of sends in memory. -/
import Derived.Test.YtghfkgbmmkcjhaaGen
namespace Go.Proofs.Ytghfkgbmmkcjhaa
open Go.ChangeShapes Go.WideShapes Go.ChangeAt Go.RowKit
set_option linter.unusedVariables false


/-- A send: from whom, to whom, at which minute. -/
abbrev Snd := Int × Int × Int
/-- The cells of a list of sends. -/
def ss (l : List Snd) : List Value := l.flatMap fun c => [.int .i64 c.1, .int .i64 c.2.1, .int .i64 c.2.2]
def sf (l : List Snd) (i : Nat) : Int := (l.getD i (0, 0, 0)).1
def st (l : List Snd) (i : Nat) : Int := (l.getD i (0, 0, 0)).2.1
def sm (l : List Snd) (i : Nat) : Int := (l.getD i (0, 0, 0)).2.2

theorem ss_length (l : List Snd) : (ss l).length = l.length * 3 := by
  induction l with
  | nil => rfl
  | cons c l ih => simp only [ss, List.flatMap_cons, List.length_append, List.length_cons, List.length_nil] at ih ⊢; omega
theorem ss_append (l m : List Snd) : ss (l ++ m) = ss l ++ ss m := by simp [ss]
theorem ss_0 (l : List Snd) : ∀ i, i < l.length → (ss l)[i * 3]? = some (.int .i64 (sf l i)) := by
  induction l with
  | nil => intro i h; simp at h
  | cons c l ih =>
    intro i h
    cases i with
    | zero => rfl
    | succ i =>
      have := ih i (by simpa using h)
      rw [show (i + 1) * 3 = i * 3 + 1 + 1 + 1 from by omega]
      exact this
theorem ss_1 (l : List Snd) : ∀ i, i < l.length → (ss l)[i * 3 + 1]? = some (.int .i64 (st l i)) := by
  induction l with
  | nil => intro i h; simp at h
  | cons c l ih =>
    intro i h
    cases i with
    | zero => rfl
    | succ i =>
      have := ih i (by simpa using h)
      rw [show (i + 1) * 3 + 1 = i * 3 + 1 + 1 + 1 + 1 from by omega]
      exact this
theorem ss_2 (l : List Snd) : ∀ i, i < l.length → (ss l)[i * 3 + 2]? = some (.int .i64 (sm l i)) := by
  induction l with
  | nil => intro i h; simp at h
  | cons c l ih =>
    intro i h
    cases i with
    | zero => rfl
    | succ i =>
      have := ih i (by simpa using h)
      rw [show (i + 1) * 3 + 2 = i * 3 + 2 + 1 + 1 + 1 from by omega]
      exact this
theorem ss_set (l : List Snd) : ∀ i (a b c : Int), (((ss l).set (i * 3) (.int .i64 a)).set (i * 3 + 1) (.int .i64 b)).set (i * 3 + 2) (.int .i64 c) = ss (l.set i (a, b, c)) := by
  induction l with
  | nil => intro i a b c; rfl
  | cons d l ih =>
    intro i a b c
    cases i with
    | zero => rfl
    | succ i =>
      have := ih i a b c
      rw [show (i + 1) * 3 = i * 3 + 1 + 1 + 1 from by omega]
      simp only [ss, List.flatMap_cons, List.cons_append, List.nil_append, List.set_cons_succ] at this ⊢
      rw [this]
theorem ss_one (l : List Snd) : ∀ u ∈ ss l, u.oneCell' = true := by
  intro u hu
  simp only [ss, List.mem_flatMap, List.mem_cons, List.not_mem_nil, or_false] at hu
  obtain ⟨c, _, rfl | rfl | rfl⟩ := hu <;> rfl
theorem s_get (l : List Snd) (i : Nat) (h : i < l.length) : l[i] = (sf l i, st l i, sm l i) := by
  simp [sf, st, sm, List.getD_eq_getElem?_getD, h]

/-- The three cells of the i-th send behind an address. -/
def Sat3 (w : World) (b off : Nat) (l : List Snd) (i : Nat) : Prop :=
  w.cell? ⟨b, off + i * 3, none⟩ = some (.int .i64 (sf l i)) ∧ w.cell? ⟨b, off + i * 3 + 1, none⟩ = some (.int .i64 (st l i)) ∧ w.cell? ⟨b, off + i * 3 + 2, none⟩ = some (.int .i64 (sm l i))
/-- The slice at this address reads as these sends. -/
def SendsAt (w : World) (ao : Option Addr) (l : List Snd) : Prop :=
  l = [] ∨ ∃ b off, ao = some ⟨b, off, none⟩ ∧ ∀ i, i < l.length → Sat3 w b off l i
theorem Sat3.kept {w w' : World} {b off i : Nat} {l : List Snd} (h : Sat3 w b off l i) (hb : Below w.heap.size w w') : Sat3 w' b off l i := by
  have hbk := World.block_lt_of_cell? w _ h.1
  exact ⟨(hb.cell (p := ⟨b, off + i * 3, none⟩) hbk).trans h.1, (hb.cell (p := ⟨b, off + i * 3 + 1, none⟩) hbk).trans h.2.1, (hb.cell (p := ⟨b, off + i * 3 + 2, none⟩) hbk).trans h.2.2⟩
theorem SendsAt.kept {w w' : World} {ao : Option Addr} {l : List Snd} (h : SendsAt w ao l) (hb : Below w.heap.size w w') : SendsAt w' ao l := by
  rcases h with h | ⟨b, off, h, hc⟩
  · exact .inl h
  · exact .inr ⟨b, off, h, fun i hi => (hc i hi).kept hb⟩
theorem sown_cells {e : TypeId} {w : World} {base g n cap : Nat} {l : List Snd} (h : w.ownsRow base e 3 (.slice (some ⟨g, 0, none⟩) n cap) n (ss l)) (hn : n = l.length) (i : Nat) (hi : i < n) : Sat3 w g 0 l i := by
  subst hn
  have h1 := h.cellAt (i * 3) (by omega)
  have h2 := h.cellAt (i * 3 + 1) (by omega)
  have h3 := h.cellAt (i * 3 + 2) (by omega)
  rw [ss_0 l i hi] at h1
  rw [ss_1 l i hi] at h2
  rw [ss_2 l i hi] at h3
  unfold Sat3
  rw [Nat.zero_add]
  exact ⟨h1, h2, h3⟩
theorem sown_at {e : TypeId} {w : World} {base g n cap : Nat} {l : List Snd} (h : w.ownsRow base e 3 (.slice (some ⟨g, 0, none⟩) n cap) n (ss l)) (hn : n = l.length) : SendsAt w (some ⟨g, 0, none⟩) l := by
  subst hn
  exact .inr ⟨g, 0, rfl, fun i hi => sown_cells h rfl i hi⟩
theorem sown_shape {e : TypeId} {w : World} {base n : Nat} {v : Value} {l : List Snd} (h : w.ownsRow base e 3 v n (ss l)) (hn : n = l.length) :
    ∃ ao cap, v = .slice ao n cap ∧ SendsAt w ao l ∧ (ao = none → n = 0 ∧ cap = 0) ∧ (∀ b off, ao = some ⟨b, off, none⟩ → off = 0 ∧ base ≤ b ∧ b < w.heap.size) := by
  rcases h.2 with ⟨rfl, h0⟩ | ⟨g, cap, cur, rfl, hb, hg, _⟩
  · refine ⟨none, 0, by rw [h0], .inl ?_, (fun _ => ⟨h0, rfl⟩), (fun b off hh => by cases hh)⟩
    exact List.eq_nil_of_length_eq_zero (by omega)
  · refine ⟨some ⟨g, 0, none⟩, cap, rfl, sown_at h hn, (fun hh => by cases hh), fun b off hh => ?_⟩
    simp only [Option.some.injEq, Addr.mk.injEq, and_true] at hh
    obtain ⟨rfl, rfl⟩ := hh
    exact ⟨rfl, hb, (Array.getElem?_eq_some_iff.1 hg).1⟩
/-- Three cells of one send written. -/
theorem own_set3 {e : TypeId} {w : World} {base g n cap : Nat} {l : List Snd} (h : w.ownsRow base e 3 (.slice (some ⟨g, 0, none⟩) n cap) n (ss l)) (k : Nat) (a b c : Int) :
    (((w.setCell ⟨g, k * 3, none⟩ (.int .i64 a)).setCell ⟨g, k * 3 + 1, none⟩ (.int .i64 b)).setCell ⟨g, k * 3 + 2, none⟩ (.int .i64 c)).ownsRow base e 3 (.slice (some ⟨g, 0, none⟩) n cap) n (ss (l.set k (a, b, c))) := by
  have h1 := (h.stored (k * 3) (.int .i64 a)).1
  have h2 := (h1.stored (k * 3 + 1) (.int .i64 b)).1
  have h3 := (h2.stored (k * 3 + 2) (.int .i64 c)).1
  rw [ss_set] at h3
  exact h3
theorem zero_sends (n : Nat) : (madeCells #[.int .i64 0, .int .i64 0, .int .i64 0] (n * 3)).toList = ss (List.replicate n (0, 0, 0)) := by
  apply List.ext_getElem?
  intro j
  by_cases hj : j < n * 3
  · have h1 : (madeCells #[.int .i64 0, .int .i64 0, .int .i64 0] (n * 3)).toList[j]? = some (.int .i64 0) := by
      have h3 : j % 3 = 0 ∨ j % 3 = 1 ∨ j % 3 = 2 := by omega
      rcases h3 with h | h | h <;> simp [madeCells, hj, h]
    rw [h1]
    obtain ⟨i, hi⟩ : ∃ i, j = i * 3 ∨ j = i * 3 + 1 ∨ j = i * 3 + 2 := ⟨j / 3, by omega⟩
    rcases hi with rfl | rfl | rfl
    · rw [ss_0 _ i (by simp; omega)]; simp [sf, List.getD_eq_getElem?_getD, show i < n by omega]
    · rw [ss_1 _ i (by simp; omega)]; simp [st, List.getD_eq_getElem?_getD, show i < n by omega]
    · rw [ss_2 _ i (by simp; omega)]; simp [sm, List.getD_eq_getElem?_getD, show i < n by omega]
  · rw [List.getElem?_eq_none (by simp [madeCells]; omega), List.getElem?_eq_none (by rw [ss_length]; simp; omega)]
def spart (l : List Snd) (k : Nat) : List Snd := l.take k ++ List.replicate (l.length - k) (0, 0, 0)
theorem spart_zero (l : List Snd) : spart l 0 = List.replicate l.length (0, 0, 0) := by simp [spart]
theorem spart_all (l : List Snd) : spart l l.length = l := by simp [spart]
theorem spart_length (l : List Snd) (k : Nat) (h : k ≤ l.length) : (spart l k).length = l.length := by simp [spart]; omega
theorem spart_set (l : List Snd) (k : Nat) (h : k < l.length) : (spart l k).set k (sf l k, st l k, sm l k) = spart l (k + 1) := by
  rw [← s_get l k h]
  unfold spart
  rw [List.set_append_right _ _ (by simp; omega)]
  have : k - (l.take k).length = 0 := by simp; omega
  rw [this, show l.length - k = (l.length - (k + 1)) + 1 from by omega, List.replicate_succ, List.set_cons_zero, List.take_succ_eq_append_getElem h, List.append_assoc]
  rfl
/-- Sends written over by marks, from k on. -/
def smarks (k : Int) (l : List Snd) (j : Nat) : List Snd := (List.range l.length).map fun i => if i < j then (k + 3 * (i : Int), k + 3 * (i : Int) + 1, k + 3 * (i : Int) + 1 + 1) else (sf l i, st l i, sm l i)
theorem smarks_length (k : Int) (l : List Snd) (j : Nat) : (smarks k l j).length = l.length := by simp [smarks]
theorem smarks_zero (k : Int) (l : List Snd) : smarks k l 0 = l := by
  apply List.ext_getElem?
  intro i
  by_cases h : i < l.length
  · simp [smarks, h, ← s_get l i h]
  · simp [smarks, h]
theorem smarks_get (k : Int) (l : List Snd) (j i : Nat) (h : i < l.length) (hj : i < j) : sf (smarks k l j) i = k + 3 * (i : Int) ∧ st (smarks k l j) i = k + 3 * (i : Int) + 1 ∧ sm (smarks k l j) i = k + 3 * (i : Int) + 1 + 1 := by
  simp [sf, st, sm, smarks, List.getD_eq_getElem?_getD, h, hj]
theorem smarks_set (k : Int) (l : List Snd) (j : Nat) (h : j < l.length) : (smarks k l j).set j (k + 3 * (j : Int), k + 3 * (j : Int) + 1, k + 3 * (j : Int) + 1 + 1) = smarks k l (j + 1) := by
  apply List.ext_getElem?
  intro i
  rw [List.getElem?_set]
  by_cases hi : i < l.length
  · by_cases hij : j = i
    · subst hij
      simp [smarks, hi]
    · rw [if_neg hij]
      simp only [smarks, List.getElem?_map, List.getElem?_range hi, Option.map_some]
      by_cases hlt : i < j
      · simp [hlt, show i < j + 1 by omega]
      · simp [hlt, show ¬ i < j + 1 by omega]
  · by_cases hij : j = i
    · omega
    · rw [if_neg hij]; simp [smarks, hi]
theorem own_cap3 {w : World} {base : Nat} {e : TypeId} {size n m cap : Nat} {ao : Option Addr} {xs : List Value} (h : w.ownsRow base e size (.slice ao n cap) m xs) : n ≤ cap := by
  rcases h.2 with ⟨h', _⟩ | ⟨g', cap', cur, h', _, _, hnc, _⟩
  · simp at h'; omega
  · simp only [Value.slice.injEq] at h'
    obtain ⟨_, h2, h3⟩ := h'
    omega

end Go.Proofs.Ytghfkgbmmkcjhaa
