/- A tree that grows: the theory. -/
import Derived.Test.YtibjapfaljeclaaDoorSqF
import Derived.Test.YtibjapfaljeclaaDoorJoinI
namespace Go.Proofs.YtibjapfaljeclaaDoor
open Go.ChangeShapes Go.WideShapes Go.ChangeAt Go.RowKit
set_option linter.unusedVariables false

theorem bfs_end {l : List (Int × Int)} {F f : Nat} (hf : f < F) : ∃ k, k = (bfs l F f k).2.length ∧ BI l F f k 0 (bfs l F f k) := by
  have step : ∀ m, (∃ k, k = (bfs l F f k).2.length ∧ BI l F f k 0 (bfs l F f k)) ∨ ∀ j, j < m → j < (bfs l F f j).2.length := by
    intro m
    induction m with
    | zero => exact .inr (fun j h => absurd h (Nat.not_lt_zero j))
    | succ m ih =>
      rcases ih with h | h
      · exact .inl h
      · have hb := bfs_inv (l := l) hf m h
        by_cases e : m < (bfs l F f m).2.length
        · refine .inr (fun j hj => ?_)
          by_cases ej : j = m
          · rw [ej]; exact e
          · exact h j (by omega)
        · refine .inl ⟨m, ?_, hb⟩
          cases m with
          | zero => exact absurd (show 0 < (bfs l F f 0).2.length by simp [bfs, bfs0]) e
          | succ m =>
            obtain ⟨_, h2, _⟩ := bi_steps (bfs_inv (l := l) hf m (fun j hj => h j (by omega))) (h m (by omega)) F (Nat.le_refl _)
            have h3 : m < (bfs l F f (m + 1)).2.length := h2
            omega
  rcases step (F + 1) with h | h
  · exact h
  · have h1 := h F (by omega)
    have h2 := bi_len (bfs_inv (l := l) hf F (fun j hj => h j (by omega)))
    omega
/-- Where all can be reached from one friend, they can from each. -/
theorem join_all {F : Nat} {l : List (Int × Int)} (hg : gdB (F : Int) l = true) (hj : joinB F l = true) {a : Nat} (ha : a < F) : ∀ v, v < F → dst l a v < 10 := by
  obtain ⟨k, hk, hbi⟩ := bfs_end (l := l) ha
  have hd := bfs_dst hg ha hbi hk
  have hfar := dst_far (f := 0) hg
  have hfa := dst_far (f := a) hg
  generalize bfs l F a k = s at hk hbi hd
  have hjv : ∀ v, v < F → dst l 0 v < 10 := fun v hv => by
    simp only [joinB, List.all_eq_true, List.mem_range, bne_iff_ne, ne_eq] at hj
    have h1 := hj v hv
    have h2 := hfar.most v hv
    omega
  have clos : ∀ u v, u < F → v < F → adj l u v = true → 0 ≤ s.1 u → 0 ≤ s.1 v := fun u v hu hv hadj h0 => by
    obtain ⟨i, hi, e⟩ := hbi.inq u hu h0
    exact (hbi.past i (by omega) hi v hv (by rw [e]; exact hadj)).1
  have down : ∀ n v, v < F → dst l 0 v ≤ n → 0 ≤ s.1 v → 0 ≤ s.1 0 := by
    intro n
    induction n with
    | zero =>
      intro v hv hn h0
      by_cases e : v = 0
      · rw [← e]; exact h0
      · obtain ⟨u, _, _, h3⟩ := hfar.way v hv e (hjv v hv)
        omega
    | succ n ih =>
      intro v hv hn h0
      by_cases e : v = 0
      · rw [← e]; exact h0
      · obtain ⟨u, hu, hadj, h3⟩ := hfar.way v hv e (hjv v hv)
        exact ih u hu (by omega) (clos v u hv hu (by rw [adj_comm]; exact hadj) h0)
  have h0 : 0 ≤ s.1 0 := down _ a ha (Nat.le_refl _) (by rw [hbi.zero]; exact Int.le_refl 0)
  have up : ∀ n v, v < F → dst l 0 v ≤ n → 0 ≤ s.1 v := by
    intro n
    induction n with
    | zero =>
      intro v hv hn
      by_cases e : v = 0
      · rw [e]; exact h0
      · obtain ⟨u, _, _, h3⟩ := hfar.way v hv e (hjv v hv)
        omega
    | succ n ih =>
      intro v hv hn
      by_cases e : v = 0
      · rw [e]; exact h0
      · obtain ⟨u, hu, hadj, h3⟩ := hfar.way v hv e (hjv v hv)
        exact clos u v hu hv hadj (ih u hu (by omega))
  intro v hv
  have h1 := up _ v hv (Nat.le_refl _)
  have h2 := hd v hv
  have h3 := hfa.most v hv
  by_cases h10 : dst l a v = 10
  · rw [if_pos h10] at h2; omega
  · omega

theorem full_pc : ∀ f : Fin 11, ∀ x : Fin 1024, x.val < 2 ^ f.val → pc x.val ≤ f.val ∧ (pc x.val = f.val ↔ x.val = 2 ^ f.val - 1) := by decide +kernel


theorem pc_put : ∀ x : Fin 1024, ∀ b : Fin 10, x.val.testBit b.val = false → pc (x.val ||| 2 ^ b.val) = pc x.val + 1 := by decide +kernel
/-- The first number for which a test holds. -/
def frst (p : Nat → Bool) : Nat → Option Nat
  | 0 => none
  | k + 1 => match frst p k with
    | some i => some i
    | none => if p k then some k else none
theorem frst_keep {p : Nat → Bool} {k i : Nat} (h : frst p k = some i) : frst p (k + 1) = some i := by rw [frst, h]
theorem frst_yes {p : Nat → Bool} {k : Nat} (h : frst p k = none) (hp : p k = true) : frst p (k + 1) = some k := by rw [frst, h]; simp [hp]
theorem frst_no {p : Nat → Bool} {k : Nat} (h : frst p k = none) (hp : p k = false) : frst p (k + 1) = none := by rw [frst, h]; simp [hp]
theorem frst_some {p : Nat → Bool} {i : Nat} : ∀ k, frst p k = some i → i < k ∧ p i = true
  | 0, h => by simp [frst] at h
  | k + 1, h => by
    cases e : frst p k with
    | some j => rw [frst_keep e] at h; cases h; have := frst_some k e; exact ⟨by omega, this.2⟩
    | none =>
      cases hp : p k
      · rw [frst_no e hp] at h; cases h
      · rw [frst_yes e hp] at h; cases h; exact ⟨by omega, hp⟩
theorem frst_none {p : Nat → Bool} : ∀ k, frst p k = none → ∀ i, i < k → p i = false
  | 0, _, i, hi => by omega
  | k + 1, h, i, hi => by
    cases e : frst p k with
    | some j => rw [frst_keep e] at h; cases h
    | none =>
      cases hp : p k
      · by_cases ei : i = k
        · rw [ei]; exact hp
        · exact frst_none k e i (by omega)
      · rw [frst_yes e hp] at h; cases h
theorem frst_all {p : Nat → Bool} : ∀ k, (∀ i, i < k → p i = false) → frst p k = none
  | 0, _ => rfl
  | k + 1, h => frst_no (frst_all k (fun i hi => h i (by omega))) (h k (by omega))
theorem frst_eq {p q : Nat → Bool} : ∀ k, (∀ i, i < k → p i = q i) → frst p k = frst q k
  | 0, _ => rfl
  | k + 1, h => by rw [frst, frst, frst_eq k (fun i hi => h i (by omega)), h k (by omega)]
theorem frst_more {p : Nat → Bool} {F : Nat} (h : ∀ i, F ≤ i → p i = false) : ∀ m, frst p (F + m) = frst p F
  | 0 => rfl
  | m + 1 => by
    have ih := frst_more h m
    rw [← Nat.add_assoc, ← ih]
    cases e : frst p (F + m) with
    | some j => exact frst_keep e
    | none => exact frst_no e (h _ (by omega))
theorem frst_ten {p : Nat → Bool} {F : Nat} (hF : F ≤ 10) (h : ∀ i, F ≤ i → p i = false) : frst p 10 = frst p F := by
  have := frst_more h (10 - F)
  rw [show F + (10 - F) = 10 by omega] at this
  exact this

/-- One in the tree with whom there is a pair. -/
def nb (l : List (Int × Int)) (t x y : Nat) : Bool := t.testBit y && adj l x y
/-- One who can be put in. -/
def nx (l : List (Int × Int)) (F t x : Nat) : Bool := !t.testBit x && (frst (nb l t x) F).isSome
/-- Who is put in next, and at whom. -/
def nxt (l : List (Int × Int)) (F t : Nat) : Option (Nat × Nat) :=
  match frst (nx l F t) F with
  | none => none
  | some x => some (x, (frst (nb l t x) F).getD 0)
theorem nxt_none {l : List (Int × Int)} {F t : Nat} (h : frst (nx l F t) F = none) : nxt l F t = none := by rw [nxt, h]
theorem nxt_some {l : List (Int × Int)} {F t x y : Nat} (h : frst (nx l F t) F = some x) (hy : frst (nb l t x) F = some y) : nxt l F t = some (x, y) := by rw [nxt, h]; simp [hy]
theorem nxt_is {l : List (Int × Int)} {F t x y : Nat} (h : nxt l F t = some (x, y)) : frst (nx l F t) F = some x ∧ frst (nb l t x) F = some y := by
  unfold nxt at h
  cases e : frst (nx l F t) F with
  | none => rw [e] at h; cases h
  | some z =>
    rw [e] at h
    simp only [Option.some.injEq, Prod.mk.injEq] at h
    obtain ⟨rfl, h2⟩ := h
    refine ⟨rfl, ?_⟩
    have h3 := (frst_some F e).2
    simp only [nx, Bool.and_eq_true] at h3
    cases e2 : frst (nb l t z) F with
    | none => rw [e2] at h3; simp at h3
    | some u => rw [e2] at h2; simp at h2; rw [h2]
def cmm (x y : Nat) : Int × Int := (((min x y : Nat) : Int), ((max x y : Nat) : Int))
/-- The tree and the calls at which it grew. -/
def tst (l : List (Int × Int)) (F : Nat) (s : Nat × List (Int × Int)) : Nat × List (Int × Int) :=
  match nxt l F s.1 with
  | none => s
  | some (x, y) => (s.1 ||| 2 ^ x, s.2 ++ [cmm x y])
def trs (l : List (Int × Int)) (F t0 : Nat) : Nat → Nat × List (Int × Int)
  | 0 => (t0, [])
  | k + 1 => tst l F (trs l F t0 k)
/-- The calls of all who are put in. -/
def tre (l : List (Int × Int)) (F t0 : Nat) : List (Int × Int) := (trs l F t0 10).2
/-- What holds as the tree grows. -/
structure TI (l : List (Int × Int)) (F t0 k : Nat) : Prop where
  lt : (trs l F t0 k).1 < 2 ^ F
  len : (trs l F t0 k).2.length = k
  cnt : pc (trs l F t0 k).1 = pc t0 + k
theorem ti_zero (l : List (Int × Int)) {F t0 : Nat} (h : t0 < 2 ^ F) : TI l F t0 0 := ⟨h, rfl, rfl⟩
theorem pw {F : Nat} (hF : F ≤ 10) : 2 ^ F ≤ 1024 := Nat.pow_le_pow_right (n := 2) (by decide) hF
theorem ti_step {l : List (Int × Int)} {F t0 k x y : Nat} (hF : F ≤ 10) (h : TI l F t0 k) (e : nxt l F (trs l F t0 k).1 = some (x, y)) :
    TI l F t0 (k + 1) ∧ trs l F t0 (k + 1) = ((trs l F t0 k).1 ||| 2 ^ x, (trs l F t0 k).2 ++ [cmm x y]) ∧ x < F ∧ y < F ∧ x ≠ y ∧ (trs l F t0 k).1.testBit x = false ∧ (trs l F t0 k).1.testBit y = true := by
  have hs : trs l F t0 (k + 1) = ((trs l F t0 k).1 ||| 2 ^ x, (trs l F t0 k).2 ++ [cmm x y]) := by rw [trs, tst, e]
  obtain ⟨h1, h2⟩ := nxt_is e
  have h3 := frst_some F h1
  have h4 := frst_some F h2
  have hx : (trs l F t0 k).1.testBit x = false := by
    have := h3.2
    simp only [nx, Bool.and_eq_true, Bool.not_eq_true'] at this
    exact this.1
  have hy : (trs l F t0 k).1.testBit y = true := by
    have := h4.2
    simp only [nb, Bool.and_eq_true] at this
    exact this.1
  have hlt := h.lt
  have hpw := pw hF
  refine ⟨⟨?_, ?_, ?_⟩, hs, h3.1, h4.1, (fun he => by rw [he, hy] at hx; cases hx), hx, hy⟩
  · rw [hs]; exact Nat.or_lt_two_pow h.lt (Nat.pow_lt_pow_right (by decide) h3.1)
  · rw [hs, List.length_append, h.len]; rfl
  · rw [hs, pc_put ⟨(trs l F t0 k).1, by omega⟩ ⟨x, by omega⟩ hx, h.cnt]; omega
theorem ti_le {l : List (Int × Int)} {F t0 k : Nat} (hF : F ≤ 10) (h : TI l F t0 k) : k ≤ F := by
  have h1 := h.lt
  have h2 := pw hF
  have h3 := (full_pc ⟨F, by omega⟩ ⟨(trs l F t0 k).1, by omega⟩ h1).1
  have h4 := h.cnt
  simp only at h3
  omega
theorem trs_stop {l : List (Int × Int)} {F t0 k : Nat} (e : nxt l F (trs l F t0 k).1 = none) : ∀ m, trs l F t0 (k + m) = trs l F t0 k
  | 0 => rfl
  | m + 1 => by rw [← Nat.add_assoc, trs, trs_stop e m, tst, e]
theorem tre_stop {l : List (Int × Int)} {F t0 k : Nat} (hF : F ≤ 10) (h : TI l F t0 k) (e : nxt l F (trs l F t0 k).1 = none) : tre l F t0 = (trs l F t0 k).2 := by
  have hk := ti_le hF h
  have := trs_stop e (10 - k)
  rw [show k + (10 - k) = 10 by omega] at this
  rw [tre, this]
/-- While not all are in, one can be put in. -/
theorem nxt_more {l : List (Int × Int)} {F t0 k : Nat} (hg : gdB (F : Int) l = true) (hj : joinB F l = true) (h0 : 1 ≤ pc t0) (h : TI l F t0 k) (hc : pc t0 + k < F) : nxt l F (trs l F t0 k).1 ≠ none := by
  have hF := gd_fr hg
  have hpw := pw (F := F) (by omega)
  have hlt := h.lt
  have hcnt := h.cnt
  generalize (trs l F t0 k).1 = t at hlt hcnt
  intro hn
  have hnone : frst (nx l F t) F = none := by
    cases e : frst (nx l F t) F with
    | none => rfl
    | some x => rw [nxt, e] at hn; cases hn
  have hall := frst_none F hnone
  have hne : t ≠ 0 := fun e => by rw [e, show pc 0 = 0 by decide] at hcnt; omega
  obtain ⟨y, hy⟩ := Nat.exists_testBit_of_ne_zero hne
  have hyF : y < F := by
    by_cases e : y < F
    · exact e
    · rw [Nat.testBit_lt_two_pow (Nat.lt_of_lt_of_le hlt (Nat.pow_le_pow_right (by decide) (by omega)))] at hy
      cases hy
  have hfar := dst_far (f := y) hg
  have hreach := join_all hg hj hyF
  have key : ∀ n v, v < F → dst l y v ≤ n → t.testBit v = true := by
    intro n
    induction n with
    | zero =>
      intro v hv hd
      by_cases e : v = y
      · rw [e]; exact hy
      · obtain ⟨u, _, _, h3⟩ := hfar.way v hv e (hreach v hv)
        omega
    | succ n ih =>
      intro v hv hd
      by_cases e : v = y
      · rw [e]; exact hy
      · obtain ⟨u, hu, ha, h3⟩ := hfar.way v hv e (hreach v hv)
        have hut := ih u hu (by omega)
        have h4 := hall v hv
        simp only [nx] at h4
        cases hv2 : t.testBit v
        · rw [hv2] at h4
          simp only [Bool.not_false, Bool.true_and] at h4
          have h5 : frst (nb l t v) F = none := by
            cases e2 : frst (nb l t v) F with
            | none => rfl
            | some z => rw [e2] at h4; cases h4
          have h6 := frst_none F h5 u hu
          rw [nb, hut, adj_comm, ha] at h6
          cases h6
        · rfl
  have hfull : t = 2 ^ F - 1 := by
    apply Nat.eq_of_testBit_eq
    intro i
    rw [Nat.testBit_two_pow_sub_one]
    by_cases e : i < F
    · rw [key _ i e (Nat.le_refl _)]; simp [e]
    · rw [Nat.testBit_lt_two_pow (Nat.lt_of_lt_of_le hlt (Nat.pow_le_pow_right (by decide) (by omega)))]; simp [e]
  have h7 := (full_pc ⟨F, by omega⟩ ⟨t, by omega⟩ hlt).2.2 hfull
  simp only at h7
  omega
/-- When all are in, nobody can be put in. -/
theorem nxt_full {l : List (Int × Int)} {F t0 k : Nat} (hF : F ≤ 10) (h : TI l F t0 k) (hc : ¬ pc t0 + k < F) : nxt l F (trs l F t0 k).1 = none := by
  have hpw := pw hF
  have hlt := h.lt
  have hcnt := h.cnt
  generalize (trs l F t0 k).1 = t at hlt hcnt
  have h7 := full_pc ⟨F, by omega⟩ ⟨t, by omega⟩ hlt
  simp only at h7
  have hfull := h7.2.1 (by omega)
  refine nxt_none (frst_all F (fun i hi => ?_))
  rw [nx, hfull, Nat.testBit_two_pow_sub_one]
  simp [hi]
/-- The program's search for the same. -/
def pn (S : Nat → Nat) (t v : Nat) : Bool := (S v &&& t != 0) && !t.testBit v
theorem low_eq {l : List (Int × Int)} {F : Nat} (hg : gdB (F : Int) l = true) {S : Nat → Nat} (hS : ∀ v u, (S v).testBit u = adj l v u) (t v : Nat) : frst (fun u => (S v &&& t).testBit u) 10 = frst (nb l t v) F := by
  have hF := gd_fr hg
  have e : ∀ u, (S v &&& t).testBit u = nb l t v u := fun u => by rw [Nat.testBit_and, hS, nb, Bool.and_comm]
  rw [frst_eq 10 (fun u _ => e u)]
  refine frst_ten (by omega) (fun i hi => ?_)
  rw [nb]
  cases h3 : adj l v i
  · simp
  · have := adj_lt hg h3; omega
theorem pn_eq {l : List (Int × Int)} {F : Nat} (hg : gdB (F : Int) l = true) {S : Nat → Nat} (hS : ∀ v u, (S v).testBit u = adj l v u) (hs : ∀ v, S v < 1024) (t : Nat) : frst (pn S t) 10 = frst (nx l F t) F := by
  have hF := gd_fr hg
  have ne : ∀ v, (S v &&& t != 0) = (frst (nb l t v) F).isSome := fun v => by
    rw [← low_eq hg hS t v]
    cases e : frst (fun u => (S v &&& t).testBit u) 10 with
    | some i =>
      have h1 : (S v &&& t).testBit i = true := (frst_some 10 e).2
      have : S v &&& t ≠ 0 := fun h0 => by rw [h0] at h1; simp at h1
      simpa using this
    | none =>
      have h1 := frst_none 10 e
      have : S v &&& t = 0 := by
        apply Nat.eq_of_testBit_eq
        intro i
        by_cases hi : i < 10
        · rw [h1 i hi]; simp
        · rw [Nat.testBit_lt_two_pow (Nat.lt_of_lt_of_le (and_small (hs v) t) (Nat.pow_le_pow_right (n := 2) (i := 10) (by decide) (by omega)))]; simp
      simp [this]
  have e : ∀ v, pn S t v = nx l F t v := fun v => by rw [pn, nx, ne v, Bool.and_comm]
  rw [frst_eq 10 (fun v _ => e v)]
  refine frst_ten (by omega) (fun i hi => ?_)
  rw [nx]
  have : frst (nb l t i) F = none := frst_all F (fun u hu => by
    rw [nb]
    cases h3 : adj l i u
    · simp
    · have := adj_lt hg h3; omega)
  rw [this]; simp

end Go.Proofs.YtibjapfaljeclaaDoor
