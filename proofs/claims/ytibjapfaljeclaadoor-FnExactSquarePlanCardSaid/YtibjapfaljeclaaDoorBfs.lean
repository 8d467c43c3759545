/- The model's search for distances. -/
import Derived.Test.YtibjapfaljeclaaDoorFar
namespace Go.Proofs.YtibjapfaljeclaaDoor
open Go.ChangeShapes Go.WideShapes Go.ChangeAt Go.RowKit
set_option linter.unusedVariables false


def updI (d : Nat → Int) (i : Nat) (v : Int) : Nat → Int := fun j => if j = i then v else d j
/-- How many of the first friends are not reached. -/
def negs (d : Nat → Int) : Nat → Nat
  | 0 => 0
  | k + 1 => negs d k + if d k < 0 then 1 else 0
theorem negs_same {d e : Nat → Int} : ∀ k, (∀ v, v < k → (d v < 0 ↔ e v < 0)) → negs d k = negs e k
  | 0, _ => rfl
  | k + 1, h => by
    rw [negs, negs, negs_same k (fun v hv => h v (by omega))]
    have := h k (Nat.lt_succ_self k)
    by_cases hd : d k < 0
    · rw [if_pos hd, if_pos (this.1 hd)]
    · rw [if_neg hd, if_neg (fun hh => hd (this.2 hh))]
theorem negs_upd {d : Nat → Int} {o : Nat} {v : Int} (h0 : d o < 0) (hv : 0 ≤ v) : ∀ k, o < k → negs (updI d o v) k + 1 = negs d k
  | 0, h => by omega
  | k + 1, h => by
    rw [negs, negs]
    by_cases hk : o = k
    · subst hk
      rw [negs_same (d := updI d o v) (e := d) o (fun u hu => by simp [updI, show u ≠ o by omega])]
      rw [if_neg (by simp [updI]; omega), if_pos h0]
    · have := negs_upd h0 hv k (by omega)
      have e : updI d o v k = d k := by simp [updI, show k ≠ o by omega]
      rw [e]
      omega
theorem negs_le (d : Nat → Int) : ∀ k, negs d k ≤ k
  | 0 => Nat.le_refl _
  | k + 1 => by have := negs_le d k; rw [negs]; split <;> omega

/-- The model's search: what is known, and who waits. -/
def bfs1 (l : List (Int × Int)) (x : Nat) (s : (Nat → Int) × List Nat) (o : Nat) : (Nat → Int) × List Nat :=
  if s.1 o < 0 ∧ adj l x o = true then (updI s.1 o (s.1 x + 1), s.2 ++ [o]) else s
def bfsT (l : List (Int × Int)) (x : Nat) (s : (Nat → Int) × List Nat) : Nat → (Nat → Int) × List Nat
  | 0 => s
  | o + 1 => bfs1 l x (bfsT l x s o) o
def bfs0 (f : Nat) : (Nat → Int) × List Nat := (updI (fun _ => -1) f 0, [f])
def bfs (l : List (Int × Int)) (F f : Nat) : Nat → (Nat → Int) × List Nat
  | 0 => bfs0 f
  | k + 1 => bfsT l ((bfs l F f k).2.getD k 0) (bfs l F f k) F
/-- What holds in the search when k friends have been asked for, and the next one for those before o. -/
structure BI (l : List (Int × Int)) (F f k o : Nat) (s : (Nat → Int) × List Nat) : Prop where
  cnt : negs s.1 F + s.2.length = F
  zero : s.1 f = 0
  neg : ∀ v, v < F → s.1 v < 0 → s.1 v = -1
  elt : ∀ j, j < s.2.length → s.2.getD j 0 < F ∧ 0 ≤ s.1 (s.2.getD j 0) ∧ s.1 (s.2.getD j 0) ≤ j
  inq : ∀ v, v < F → 0 ≤ s.1 v → ∃ j, j < s.2.length ∧ s.2.getD j 0 = v
  mono : ∀ i j, i ≤ j → j < s.2.length → s.1 (s.2.getD i 0) ≤ s.1 (s.2.getD j 0)
  near : k < s.2.length → ∀ j, j < s.2.length → s.1 (s.2.getD j 0) ≤ s.1 (s.2.getD k 0) + 1
  past : ∀ i, i < k → i < s.2.length → ∀ v, v < F → adj l (s.2.getD i 0) v = true → 0 ≤ s.1 v ∧ s.1 v ≤ s.1 (s.2.getD i 0) + 1
  here : k < s.2.length → ∀ v, v < o → adj l (s.2.getD k 0) v = true → 0 ≤ s.1 v ∧ s.1 v ≤ s.1 (s.2.getD k 0) + 1
  way : ∀ v, v < F → v ≠ f → 0 ≤ s.1 v → ∃ u, u < F ∧ adj l u v = true ∧ 0 ≤ s.1 u ∧ s.1 u + 1 ≤ s.1 v
theorem bi_zero (l : List (Int × Int)) {F f : Nat} (hf : f < F) : BI l F f 0 0 (bfs0 f) := by
  have e : ∀ v, (bfs0 f).1 v = if v = f then 0 else -1 := fun v => rfl
  refine ⟨?_, by simp [e], fun v _ h => ?_, fun j hj => ?_, fun v _ h => ?_, fun i j h1 h2 => ?_, fun _ j hj => ?_, fun i hi => absurd hi (Nat.not_lt_zero i), fun _ v hv => absurd hv (Nat.not_lt_zero v), fun v _ hv h => ?_⟩
  · have h1 : negs (fun _ => (-1 : Int)) F = F := by
      have : ∀ k, negs (fun _ => (-1 : Int)) k = k := by
        intro k
        induction k with
        | zero => rfl
        | succ k ih => rw [negs, ih]; simp
      exact this F
    have h2 := negs_upd (d := fun _ => (-1 : Int)) (o := f) (v := 0) (by decide) (Int.le_refl 0) F hf
    show negs (updI (fun _ => -1) f 0) F + 1 = F
    omega
  · rw [e] at h ⊢
    split at h
    · omega
    · rw [if_neg (by assumption)]
  · have : j = 0 := by simp [bfs0] at hj; omega
    subst this
    show f < F ∧ 0 ≤ (bfs0 f).1 f ∧ (bfs0 f).1 f ≤ ((0 : Nat) : Int)
    rw [e]; simp; exact hf
  · rw [e] at h
    split at h
    · exact ⟨0, by simp [bfs0], by subst v; rfl⟩
    · omega
  · have hj : j = 0 := by simp [bfs0] at h2; omega
    have hi : i = 0 := by omega
    subst hj; subst hi
    exact Int.le_refl _
  · have : j = 0 := by simp [bfs0] at hj; omega
    subst this
    omega
  · rw [e, if_neg hv] at h; omega
theorem getD_app {q : List Nat} {o j : Nat} (h : j < q.length) : (q ++ [o]).getD j 0 = q.getD j 0 := by
  simp [List.getD_eq_getElem?_getD, List.getElem?_append_left h]
theorem getD_last (q : List Nat) (o : Nat) : (q ++ [o]).getD q.length 0 = o := by
  simp [List.getD_eq_getElem?_getD]
theorem bi_step {l : List (Int × Int)} {F f k o : Nat} {s : (Nat → Int) × List Nat} (h : BI l F f k o s) (hk : k < s.2.length) (ho : o < F) : BI l F f k (o + 1) (bfs1 l (s.2.getD k 0) s o) ∧ k < (bfs1 l (s.2.getD k 0) s o).2.length ∧ (bfs1 l (s.2.getD k 0) s o).2.getD k 0 = s.2.getD k 0 := by
  obtain ⟨x, hx⟩ : ∃ x, s.2.getD k 0 = x := ⟨_, rfl⟩
  have hel := h.elt k hk
  rw [hx] at hel ⊢
  by_cases hc : s.1 o < 0 ∧ adj l x o = true
  · have es : bfs1 l x s o = (updI s.1 o (s.1 x + 1), s.2 ++ [o]) := by unfold bfs1; rw [if_pos hc]
    rw [es]
    obtain ⟨h0, ha⟩ := hc
    have hnx : x ≠ o := fun e => by rw [e] at hel; omega
    have old : ∀ v, 0 ≤ s.1 v → updI s.1 o (s.1 x + 1) v = s.1 v := fun v hv => by
      have : v ≠ o := fun e => by rw [e] at hv; omega
      simp [updI, this]
    have new : updI s.1 o (s.1 x + 1) o = s.1 x + 1 := by simp [updI]
    have elo : ∀ j, j < s.2.length → updI s.1 o (s.1 x + 1) ((s.2 ++ [o]).getD j 0) = s.1 (s.2.getD j 0) := fun j hj => by
      rw [getD_app hj, old _ (h.elt j hj).2.1]
    have eln : updI s.1 o (s.1 x + 1) ((s.2 ++ [o]).getD s.2.length 0) = s.1 x + 1 := by rw [getD_last, new]
    have hlen : (s.2 ++ [o]).length = s.2.length + 1 := by simp
    have hnear := h.near hk
    rw [hx] at hnear
    refine ⟨⟨?_, ?_, fun v hv hn => ?_, fun j hj => ?_, fun v hv hn => ?_, fun i j hij hj => ?_, fun _ j hj => ?_, fun i hi hil v hv hadj => ?_, fun _ v hv hadj => ?_, fun v hv hvf hn => ?_⟩, by show k < (s.2 ++ [o]).length; omega, by show (s.2 ++ [o]).getD k 0 = x; rw [getD_app hk, hx]⟩
    · show negs (updI s.1 o (s.1 x + 1)) F + (s.2 ++ [o]).length = F
      have := negs_upd h0 (v := s.1 x + 1) (by omega) F ho
      have := h.cnt
      omega
    · show updI s.1 o (s.1 x + 1) f = 0
      rw [old f (by rw [h.zero]; exact Int.le_refl 0), h.zero]
    · have hn' : updI s.1 o (s.1 x + 1) v < 0 := hn
      by_cases e : v = o
      · rw [e, new] at hn'; omega
      · have e2 : updI s.1 o (s.1 x + 1) v = s.1 v := by simp [updI, e]
        show updI s.1 o (s.1 x + 1) v = -1
        rw [e2] at hn' ⊢
        exact h.neg v hv hn'
    · show (s.2 ++ [o]).getD j 0 < F ∧ 0 ≤ updI s.1 o (s.1 x + 1) ((s.2 ++ [o]).getD j 0) ∧ updI s.1 o (s.1 x + 1) ((s.2 ++ [o]).getD j 0) ≤ j
      have hj' : j < (s.2 ++ [o]).length := hj
      by_cases e : j < s.2.length
      · rw [elo j e, getD_app e]; exact h.elt j e
      · obtain rfl : j = s.2.length := by omega
        rw [eln, getD_last]
        exact ⟨ho, by omega, by omega⟩
    · have hn' : 0 ≤ updI s.1 o (s.1 x + 1) v := hn
      by_cases e : v = o
      · exact ⟨s.2.length, by show s.2.length < (s.2 ++ [o]).length; omega, by show (s.2 ++ [o]).getD s.2.length 0 = v; rw [getD_last, e]⟩
      · have e2 : updI s.1 o (s.1 x + 1) v = s.1 v := by simp [updI, e]
        rw [e2] at hn'
        obtain ⟨j, hj, hv2⟩ := h.inq v hv hn'
        exact ⟨j, by show j < (s.2 ++ [o]).length; omega, by show (s.2 ++ [o]).getD j 0 = v; rw [getD_app hj, hv2]⟩
    · show updI s.1 o (s.1 x + 1) ((s.2 ++ [o]).getD i 0) ≤ updI s.1 o (s.1 x + 1) ((s.2 ++ [o]).getD j 0)
      have hj' : j < (s.2 ++ [o]).length := hj
      by_cases e : j < s.2.length
      · rw [elo i (by omega), elo j e]; exact h.mono i j hij e
      · obtain rfl : j = s.2.length := by omega
        rw [eln]
        by_cases e2 : i < s.2.length
        · rw [elo i e2]; exact hnear i e2
        · obtain rfl : i = s.2.length := by omega
          rw [eln]; exact Int.le_refl _
    · show updI s.1 o (s.1 x + 1) ((s.2 ++ [o]).getD j 0) ≤ updI s.1 o (s.1 x + 1) ((s.2 ++ [o]).getD k 0) + 1
      have hj' : j < (s.2 ++ [o]).length := hj
      rw [elo k hk, hx]
      by_cases e : j < s.2.length
      · rw [elo j e]; exact hnear j e
      · obtain rfl : j = s.2.length := by omega
        rw [eln]; exact Int.le_refl _
    · show 0 ≤ updI s.1 o (s.1 x + 1) v ∧ updI s.1 o (s.1 x + 1) v ≤ updI s.1 o (s.1 x + 1) ((s.2 ++ [o]).getD i 0) + 1
      have hadj' : adj l ((s.2 ++ [o]).getD i 0) v = true := hadj
      rw [getD_app (by omega)] at hadj'
      have hp := h.past i hi (by omega) v hv hadj'
      rw [elo i (by omega), old v hp.1]
      exact hp
    · show 0 ≤ updI s.1 o (s.1 x + 1) v ∧ updI s.1 o (s.1 x + 1) v ≤ updI s.1 o (s.1 x + 1) ((s.2 ++ [o]).getD k 0) + 1
      have hadj' : adj l ((s.2 ++ [o]).getD k 0) v = true := hadj
      rw [getD_app hk, hx] at hadj'
      rw [elo k hk, hx]
      by_cases e : v = o
      · rw [e, new]; exact ⟨by omega, Int.le_refl _⟩
      · have hp := h.here hk v (by omega) (by rw [hx]; exact hadj')
        rw [hx] at hp
        rw [old v hp.1]; exact hp
    · have hn' : 0 ≤ updI s.1 o (s.1 x + 1) v := hn
      by_cases e : v = o
      · refine ⟨x, hel.1, by rw [e]; exact ha, ?_, ?_⟩
        · show 0 ≤ updI s.1 o (s.1 x + 1) x; rw [old x hel.2.1]; exact hel.2.1
        · show updI s.1 o (s.1 x + 1) x + 1 ≤ updI s.1 o (s.1 x + 1) v; rw [old x hel.2.1, e, new]; exact Int.le_refl _
      · have e2 : updI s.1 o (s.1 x + 1) v = s.1 v := by simp [updI, e]
        rw [e2] at hn'
        obtain ⟨u, hu, hadj, hu0, hle⟩ := h.way v hv hvf hn'
        refine ⟨u, hu, hadj, ?_, ?_⟩
        · show 0 ≤ updI s.1 o (s.1 x + 1) u; rw [old u hu0]; exact hu0
        · show updI s.1 o (s.1 x + 1) u + 1 ≤ updI s.1 o (s.1 x + 1) v; rw [old u hu0, e2]; exact hle
  · have es : bfs1 l x s o = s := by unfold bfs1; rw [if_neg hc]
    rw [es]
    refine ⟨⟨h.cnt, h.zero, h.neg, h.elt, h.inq, h.mono, h.near, h.past, fun _ v hv hadj => ?_, h.way⟩, hk, hx⟩
    by_cases e : v = o
    · subst e
      rw [hx] at hadj ⊢
      have h0 : 0 ≤ s.1 v := by
        have : ¬ s.1 v < 0 := fun hh => hc ⟨hh, hadj⟩
        omega
      obtain ⟨j, hj, hv2⟩ := h.inq v ho h0
      have := h.near hk j hj
      rw [hv2, hx] at this
      exact ⟨h0, this⟩
    · exact h.here hk v (by omega) hadj
theorem bi_steps {l : List (Int × Int)} {F f k : Nat} {s : (Nat → Int) × List Nat} (h : BI l F f k 0 s) (hk : k < s.2.length) : ∀ o, o ≤ F → BI l F f k o (bfsT l (s.2.getD k 0) s o) ∧ k < (bfsT l (s.2.getD k 0) s o).2.length ∧ (bfsT l (s.2.getD k 0) s o).2.getD k 0 = s.2.getD k 0
  | 0, _ => ⟨h, hk, rfl⟩
  | o + 1, ho => by
    obtain ⟨h1, h2, h3⟩ := bi_steps h hk o (by omega)
    have := bi_step h1 h2 (by omega)
    rw [h3] at this
    exact this
theorem bi_next {l : List (Int × Int)} {F f k : Nat} {s : (Nat → Int) × List Nat} (h : BI l F f k F s) (hk : k < s.2.length) : BI l F f (k + 1) 0 s := by
  refine ⟨h.cnt, h.zero, h.neg, h.elt, h.inq, h.mono, fun hk1 j hj => ?_, fun i hi hil v hv hadj => ?_, fun _ v hv => absurd hv (Nat.not_lt_zero v), h.way⟩
  · have h1 := h.near hk j hj
    have h2 := h.mono k (k + 1) (by omega) hk1
    omega
  · by_cases e : i = k
    · subst e; exact h.here hk v hv hadj
    · exact h.past i (by omega) hil v hv hadj
theorem bfs_inv {l : List (Int × Int)} {F f : Nat} (hf : f < F) : ∀ k, (∀ j, j < k → j < (bfs l F f j).2.length) → BI l F f k 0 (bfs l F f k)
  | 0, _ => bi_zero l hf
  | k + 1, h => by
    have ih := bfs_inv (l := l) hf k (fun j hj => h j (by omega))
    have hk := h k (Nat.lt_succ_self k)
    obtain ⟨h1, h2, _⟩ := bi_steps ih hk F (Nat.le_refl _)
    exact bi_next h1 h2
/-- Distances out of the model's. -/
def farN (d : Nat → Int) : Nat → Nat := fun v => if d v < 0 then 10 else (d v).toNat
theorem bfs_done {l : List (Int × Int)} {F f k : Nat} (hF : F ≤ 10) {s : (Nat → Int) × List Nat} (h : BI l F f k 0 s) (hk : k = s.2.length) : FarS l F f (farN s.1) := by
  have val : ∀ v, 0 ≤ s.1 v → farN s.1 v = (s.1 v).toNat := fun v hv => by unfold farN; rw [if_neg (by omega)]
  have far : ∀ v, s.1 v < 0 → farN s.1 v = 10 := fun v hv => by unfold farN; rw [if_pos hv]
  have lt : ∀ v, v < F → 0 ≤ s.1 v → s.1 v < 10 := fun v hv h0 => by
    obtain ⟨j, hj, e⟩ := h.inq v hv h0
    have := (h.elt j hj).2.2
    rw [e] at this
    have := h.cnt
    omega
  refine ⟨by rw [val f (by rw [h.zero]; exact Int.le_refl 0), h.zero]; rfl, fun v hv => ?_, fun u v hu hv ha => ?_, fun v hv hvf hlt => ?_⟩
  · by_cases h0 : s.1 v < 0
    · rw [far v h0]; exact Nat.le_refl _
    · rw [val v (by omega)]; have := lt v hv (by omega); omega
  · by_cases h0 : s.1 u < 0
    · rw [far u h0]
      by_cases h1 : s.1 v < 0
      · rw [far v h1]; omega
      · rw [val v (by omega)]; have := lt v hv (by omega); omega
    · obtain ⟨i, hi, e⟩ := h.inq u hu (by omega)
      have hp := h.past i (by omega) hi v hv (by rw [e]; exact ha)
      rw [e] at hp
      rw [val u (by omega), val v hp.1]
      omega
  · by_cases h0 : s.1 v < 0
    · rw [far v h0] at hlt; omega
    · obtain ⟨u, hu, ha, hu0, hle⟩ := h.way v hv hvf (by omega)
      exact ⟨u, hu, ha, by rw [val u hu0, val v (by omega)]; omega⟩
theorem bi_len {l : List (Int × Int)} {F f k o : Nat} {s : (Nat → Int) × List Nat} (h : BI l F f k o s) : s.2.length ≤ F := by have := h.cnt; omega
/-- The model's distances are those. -/
theorem bfs_dst {l : List (Int × Int)} {F f k : Nat} (hg : gdB (F : Int) l = true) (hf : f < F) {s : (Nat → Int) × List Nat} (h : BI l F f k 0 s) (hk : k = s.2.length) : ∀ v, v < F → s.1 v = if dst l f v = 10 then -1 else (dst l f v : Int) := by
  intro v hv
  have hF := gd_fr hg
  have h1 := (bfs_done (by omega) h hk).eq (dst_far (f := f) hg) v hv
  by_cases h0 : s.1 v < 0
  · have e : farN s.1 v = 10 := by unfold farN; rw [if_pos h0]
    rw [if_pos (by omega), h.neg v hv h0]
  · have e : farN s.1 v = (s.1 v).toNat := by unfold farN; rw [if_neg h0]
    obtain ⟨j, hj, ej⟩ := h.inq v hv (by omega)
    have h2 := (h.elt j hj).2.2
    rw [ej] at h2
    have h3 := h.cnt
    rw [if_neg (by omega)]
    omega

end Go.Proofs.YtibjapfaljeclaaDoor
