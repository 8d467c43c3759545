/- The squares: in the model's order, in the program's order. -/
import Derived.Test.YtibjapfaljeclaaDoorPc
namespace Go.Proofs.YtibjapfaljeclaaDoor
open Go.ChangeShapes Go.WideShapes Go.ChangeAt Go.RowKit
set_option linter.unusedVariables false

theorem adj_ex {l : List (Int × Int)} {v u : Nat} : ∀ k, adjT l k v u = true → ∃ j, j < k ∧ ((v = (ca l j).toNat ∧ u = (cb l j).toNat) ∨ (v = (cb l j).toNat ∧ u = (ca l j).toNat))
  | 0, h => by simp [adjT] at h
  | k + 1, h => by
    simp only [adjT, Bool.or_eq_true, Bool.and_eq_true, beq_iff_eq] at h
    rcases h with (h | h) | h
    · obtain ⟨j, hj, h⟩ := adj_ex k h
      exact ⟨j, by omega, h⟩
    · exact ⟨k, by omega, .inl h⟩
    · exact ⟨k, by omega, .inr h⟩

/-- What is found for those for whom a test holds, in order. -/
def col {α : Type} (p : Nat → Bool) (g : Nat → List α) : Nat → List α
  | 0 => []
  | k + 1 => col p g k ++ if p k then g k else []
theorem col_yes {α : Type} {p : Nat → Bool} {g : Nat → List α} {k : Nat} (h : p k = true) : col p g (k + 1) = col p g k ++ g k := by rw [col, h]; rfl
theorem col_no {α : Type} {p : Nat → Bool} {g : Nat → List α} {k : Nat} (h : p k = false) : col p g (k + 1) = col p g k := by rw [col, h]; simp
theorem col_eq {α : Type} {p q : Nat → Bool} {g h : Nat → List α} : ∀ k, (∀ i, i < k → (if p i then g i else []) = (if q i then h i else [])) → col p g k = col q h k
  | 0, _ => rfl
  | k + 1, e => by rw [col, col, col_eq k (fun i hi => e i (by omega)), e k (by omega)]
theorem col_none {α : Type} {p : Nat → Bool} {g : Nat → List α} : ∀ k, (∀ i, i < k → (if p i then g i else []) = []) → col p g k = []
  | 0, _ => rfl
  | k + 1, e => by rw [col, col_none k (fun i hi => e i (by omega)), e k (by omega)]; rfl
theorem col_more {α : Type} {p : Nat → Bool} {g : Nat → List α} {F : Nat} (h : ∀ i, F ≤ i → (if p i then g i else []) = []) : ∀ m, col p g (F + m) = col p g F
  | 0 => rfl
  | m + 1 => by rw [← Nat.add_assoc, col, col_more h m, h (F + m) (by omega), List.append_nil]
theorem col_ten {α : Type} {p : Nat → Bool} {g : Nat → List α} {F : Nat} (hF : F ≤ 10) (h : ∀ i, F ≤ i → (if p i then g i else []) = []) : col p g 10 = col p g F := by
  have := col_more h (10 - F)
  rw [show F + (10 - F) = 10 by omega] at this
  exact this
theorem col_len {α : Type} {p : Nat → Bool} {g : Nat → List α} {B : Nat} (hg : ∀ i, (g i).length ≤ B) : ∀ k, (col p g k).length ≤ B * k
  | 0 => Nat.le_refl _
  | k + 1 => by
    have ih := col_len (p := p) hg k
    have := hg k
    rw [col, List.length_append, Nat.mul_succ]
    split
    · omega
    · simp; omega
theorem col_low {α : Type} {p : Nat → Bool} {g : Nat → List α} {k : Nat} (h : ∀ i, i < k → p i = false) : col p g k = [] := col_none k (fun i hi => by rw [h i hi]; rfl)
/-- The digits 1 among the first k. -/
def bl (x k : Nat) : List Int := ((List.range k).filter fun i => x.testBit i).map fun (i : Nat) => (i : Int)

theorem bl_length (x : Nat) : (bl x 10).length = pc x := by simp [bl, pc]

theorem bl_yes (x k : Nat) (h : x.testBit k = true) : bl x (k + 1) = bl x k ++ [(k : Int)] := by simp [bl, List.range_succ, List.filter_append, h]

theorem bl_no (x k : Nat) (h : x.testBit k = false) : bl x (k + 1) = bl x k := by simp [bl, List.range_succ, List.filter_append, h]

theorem bl_le (x k : Nat) : (bl x k).length ≤ k := by
  have := List.length_filter_le (fun i => x.testBit i) (List.range k)
  simpa [bl] using this


theorem col_bl {α : Type} (x : Nat) (g : Nat → List α) : ∀ k, (bl x k).flatMap (fun i => g i.toNat) = col x.testBit g k
  | 0 => rfl
  | k + 1 => by
    cases h : x.testBit k
    · rw [bl_no x k h, col_no h, col_bl x g k]
    · rw [bl_yes x k h, col_yes h, List.flatMap_append, col_bl x g k]; simp

/-- Those of a set behind one. -/
def ab (s f : Nat) : Nat := (s >>> (f + 1)) <<< (f + 1)
theorem ab_bit (s f u : Nat) : (ab s f).testBit u = (decide (f < u) && s.testBit u) := by
  unfold ab
  rw [Nat.testBit_shiftLeft, Nat.testBit_shiftRight]
  by_cases h : f < u
  · simp only [ge_iff_le, show f + 1 ≤ u from h, decide_true, Bool.true_and, h]
    congr 1; omega
  · simp [h, show ¬ (f + 1 ≤ u) by omega]
/-- Two who may call each other are two friends. -/
theorem adj_lt {l : List (Int × Int)} {F u v : Nat} (hg : gdB (F : Int) l = true) (h : adj l u v = true) : u < F ∧ v < F ∧ u ≠ v := by
  obtain ⟨k, hk, h1, h2⟩ := has_ex h
  have := gd_call hg hk
  omega
theorem adjT_adj {l : List (Int × Int)} {F : Nat} (hg : gdB (F : Int) l = true) (v u : Nat) : adjT l l.length v u = adj l v u := by
  have up : ∀ k j, j < k → ((v = (ca l j).toNat ∧ u = (cb l j).toNat) ∨ (v = (cb l j).toNat ∧ u = (ca l j).toNat)) → adjT l k v u = true := by
    intro k
    induction k with
    | zero => intro j hj; omega
    | succ k ih =>
      intro j hj h
      simp only [adjT, Bool.or_eq_true, Bool.and_eq_true, beq_iff_eq]
      by_cases e : j = k
      · subst e
        rcases h with h | h
        · exact .inl (.inr h)
        · exact .inr h
      · exact .inl (.inl (ih j (by omega) h))
  rw [Bool.eq_iff_iff]
  constructor
  · intro h
    obtain ⟨j, hj, e⟩ := adj_ex l.length h
    have := gd_call hg hj
    exact has_yes hj (by omega) (by omega)
  · intro h
    obtain ⟨k, hk, h1, h2⟩ := has_ex h
    have := gd_call hg hk
    exact up l.length k hk (by omega)

/-- These four are a square, whatever their order. -/
def okq (l : List (Int × Int)) (w x y z : Nat) : Bool := y != x && (y != z && (adj l w x && (adj l x y && (adj l y z && adj l z w))))
def qd (w x y z : Nat) : List Int := [(w : Int), x, y, z]
/-- The squares that begin with so many, in the model's order. -/
def sqZ (l : List (Int × Int)) (w x y : Nat) : Nat → List (List Int) := col (fun z => decide (x < z) && okq l w x y z) (fun z => [qd w x y z])
def sqY (l : List (Int × Int)) (F w x : Nat) : Nat → List (List Int) := col (fun y => decide (w < y)) (fun y => sqZ l w x y F)
def sqX (l : List (Int × Int)) (F w : Nat) : Nat → List (List Int) := col (fun x => decide (w < x)) (fun x => sqY l F w x F)
def sqW (l : List (Int × Int)) (F : Nat) : Nat → List (List Int) := col (fun _ => true) (fun w => sqX l F w F)
theorem sqZ_len (l : List (Int × Int)) (w x y k : Nat) : (sqZ l w x y k).length ≤ 1 * k := col_len (g := fun z => [qd w x y z]) (B := 1) (fun _ => Nat.le_refl 1) k
theorem sqY_len (l : List (Int × Int)) {F : Nat} (hF : F ≤ 10) (w x k : Nat) : (sqY l F w x k).length ≤ 10 * k := col_len (fun y => by have := sqZ_len l w x y F; omega) k
theorem sqX_len (l : List (Int × Int)) {F : Nat} (hF : F ≤ 10) (w k : Nat) : (sqX l F w k).length ≤ 100 * k := col_len (fun x => by have := sqY_len l hF w x F; omega) k
theorem sqW_len (l : List (Int × Int)) {F : Nat} (hF : F ≤ 10) (k : Nat) : (sqW l F k).length ≤ 1000 * k := col_len (fun w => by have := sqX_len l hF w F; omega) k

/-- The same in the program's order. -/
def zP (S : Nat → Nat) (w x y : Nat) : List (List Int) := (bl (ab (S w &&& S y) x) 10).flatMap (fun z => [qd w x y z.toNat])
def yP (S : Nat → Nat) (w x : Nat) : List (List Int) := (bl (ab (S x) w) 10).flatMap (fun y => zP S w x y.toNat)
def xP (S : Nat → Nat) (w : Nat) : List (List Int) := (bl (ab (S w) w) 10).flatMap (fun x => yP S w x.toNat)
def wP (S : Nat → Nat) : Nat → List (List Int) := col (fun _ => true) (xP S)
section
variable {l : List (Int × Int)} {F : Nat} {S : Nat → Nat}
theorem zP_eq (hg : gdB (F : Int) l = true) (hS : ∀ v u, (S v).testBit u = adj l v u) {w x y : Nat} (h1 : adj l w x = true) (h2 : adj l x y = true) : zP S w x y = sqZ l w x y F := by
  have hF := gd_fr hg
  rw [zP, col_bl _ (fun z => [qd w x y z]), col_ten (F := F) (by omega) (fun i hi => ?_)]
  · refine col_eq F (fun z hz => ?_)
    have e : (ab (S w &&& S y) x).testBit z = (decide (x < z) && okq l w x y z) := by
      rw [ab_bit, Nat.testBit_and, hS, hS]
      congr 1
      unfold okq
      rw [h1, h2, adj_comm l z w]
      have a1 := adj_lt hg h2
      rw [show (y != x) = true by simp; omega]
      cases h3 : adj l y z
      · simp
      · have a2 := adj_lt hg h3
        rw [show (y != z) = true by simp; omega]
        simp
    rw [e]
  · have e : (ab (S w &&& S y) x).testBit i = false := by
      rw [ab_bit, Nat.testBit_and, hS, hS]
      cases h3 : adj l w i
      · simp
      · have := adj_lt hg h3; omega
    rw [e]; rfl
theorem yP_eq (hg : gdB (F : Int) l = true) (hS : ∀ v u, (S v).testBit u = adj l v u) {w x : Nat} (h1 : adj l w x = true) : yP S w x = sqY l F w x F := by
  have hF := gd_fr hg
  rw [yP, col_bl _ (zP S w x), col_ten (F := F) (by omega) (fun i hi => ?_)]
  · refine col_eq F (fun y hy => ?_)
    rw [ab_bit, hS]
    cases h2 : adj l x y
    · have e : sqZ l w x y F = [] := col_low (fun z _ => by simp [okq, h2])
      rw [e]; simp
    · rw [zP_eq hg hS h1 h2]; simp
  · have e : (ab (S x) w).testBit i = false := by
      rw [ab_bit, hS]
      cases h3 : adj l x i
      · simp
      · have := adj_lt hg h3; omega
    rw [e]; rfl
theorem xP_eq (hg : gdB (F : Int) l = true) (hS : ∀ v u, (S v).testBit u = adj l v u) (w : Nat) : xP S w = sqX l F w F := by
  have hF := gd_fr hg
  rw [xP, col_bl _ (yP S w), col_ten (F := F) (by omega) (fun i hi => ?_)]
  · refine col_eq F (fun x hx => ?_)
    rw [ab_bit, hS]
    cases h2 : adj l w x
    · have e : sqY l F w x F = [] := col_none F (fun y _ => by
        have e : sqZ l w x y F = [] := col_low (fun z _ => by simp [okq, h2])
        rw [e]; simp)
      rw [e]; simp
    · rw [yP_eq hg hS h2]; simp
  · have e : (ab (S w) w).testBit i = false := by
      rw [ab_bit, hS]
      cases h3 : adj l w i
      · simp
      · have := adj_lt hg h3; omega
    rw [e]; rfl
theorem wP_eq (hg : gdB (F : Int) l = true) (hS : ∀ v u, (S v).testBit u = adj l v u) : wP S 10 = sqW l F F := by
  have hF := gd_fr hg
  rw [wP, col_ten (F := F) (by omega) (fun i hi => ?_)]
  · exact col_eq F (fun w hw => by rw [xP_eq hg hS w])
  · rw [xP, col_bl _ (yP S i), col_low (fun u _ => ?_)]
    · rfl
    · rw [ab_bit, hS]
      cases h3 : adj l i u
      · simp
      · have := adj_lt hg h3; omega
end

end Go.Proofs.YtibjapfaljeclaaDoor
