/- Distances in a network: what they are, and how the program leads them on. -/
import Derived.Test.YtibjapfaljeclaaDoorHas
namespace Go.Proofs.YtibjapfaljeclaaDoor
open Go.ChangeShapes Go.WideShapes Go.ChangeAt Go.RowKit
set_option linter.unusedVariables false


/-- Two friends may call each other. -/
def adj (l : List (Int × Int)) (u v : Nat) : Bool := hasC l (min (u : Int) v) (max (u : Int) v)
theorem adj_comm (l : List (Int × Int)) (u v : Nat) : adj l u v = adj l v u := by unfold adj; rw [Int.min_comm, Int.max_comm]

/-- What distances from a friend are; ten where no way leads. -/
structure FarS (l : List (Int × Int)) (F f : Nat) (d : Nat → Nat) : Prop where
  zero : d f = 0
  most : ∀ v, v < F → d v ≤ 10
  edge : ∀ u v, u < F → v < F → adj l u v = true → d v ≤ d u + 1
  way : ∀ v, v < F → v ≠ f → d v < 10 → ∃ u, u < F ∧ adj l u v = true ∧ d u + 1 ≤ d v
theorem FarS.le {l : List (Int × Int)} {F f : Nat} {d e : Nat → Nat} (h : FarS l F f d) (h' : FarS l F f e) : ∀ k v, v < F → e v ≤ k → k < 10 → d v ≤ e v
  | 0, v, hv, hk, h10 => by
    by_cases hf : v = f
    · rw [hf, h.zero]; exact Nat.zero_le _
    · obtain ⟨u, _, _, h3⟩ := h'.way v hv hf (by omega)
      omega
  | k + 1, v, hv, hk, h10 => by
    by_cases hf : v = f
    · rw [hf, h.zero]; exact Nat.zero_le _
    · obtain ⟨u, hu, ha, h3⟩ := h'.way v hv hf (by omega)
      have ih := FarS.le h h' k u hu (by omega) (by omega)
      have := h.edge u v hu hv ha
      omega
theorem FarS.eq {l : List (Int × Int)} {F f : Nat} {d e : Nat → Nat} (h : FarS l F f d) (h' : FarS l F f e) (v : Nat) (hv : v < F) : d v = e v := by
  have h1 := h.most v hv
  have h2 := h'.most v hv
  have a : e v < 10 → d v ≤ e v := fun hh => FarS.le h h' (e v) v hv (Nat.le_refl _) hh
  have b : d v < 10 → e v ≤ d v := fun hh => FarS.le h' h (d v) v hv (Nat.le_refl _) hh
  omega

def updD (d : Nat → Nat) (i v : Nat) : Nat → Nat := fun j => if j = i then v else d j
/-- A distance led on over a pair. -/
def rel1 (d : Nat → Nat) (a b : Nat) : Nat → Nat := updD d a (min (d a) (d b + 1))
def ledT (l : List (Int × Int)) (d : Nat → Nat) : Nat → (Nat → Nat)
  | 0 => d
  | k + 1 => rel1 (rel1 (ledT l d k) (ca l k).toNat (cb l k).toNat) (cb l k).toNat (ca l k).toNat
def ledN (l : List (Int × Int)) (d : Nat → Nat) : Nat → Nat := ledT l d l.length
theorem rel1_le (d : Nat → Nat) (a b v : Nat) : rel1 d a b v ≤ d v := by
  unfold rel1 updD
  split
  · subst_vars; exact Nat.min_le_left _ _
  · exact Nat.le_refl _
theorem ledT_le (l : List (Int × Int)) (d : Nat → Nat) (v : Nat) : ∀ k, ledT l d k v ≤ d v
  | 0 => Nat.le_refl _
  | k + 1 => Nat.le_trans (Nat.le_trans (rel1_le _ _ _ _) (rel1_le _ _ _ _)) (ledT_le l d v k)
theorem ledT_mono (l : List (Int × Int)) (d : Nat → Nat) (v : Nat) {j : Nat} : ∀ k, j ≤ k → ledT l d k v ≤ ledT l d j v
  | 0, h => by rw [show j = 0 by omega]; exact Nat.le_refl _
  | k + 1, h => by
    by_cases e : j = k + 1
    · rw [e]; exact Nat.le_refl _
    · exact Nat.le_trans (Nat.le_trans (rel1_le _ _ _ _) (rel1_le _ _ _ _)) (ledT_mono l d v k (by omega))

/-- What stays so while distances are led on. -/
structure FarI (l : List (Int × Int)) (F f : Nat) (d : Nat → Nat) : Prop where
  zero : d f = 0
  most : ∀ v, d v ≤ 10
  way : ∀ v, v ≠ f → d v < 10 → ∃ u, u < F ∧ adj l u v = true ∧ d u + 1 ≤ d v
theorem FarI.step {l : List (Int × Int)} {F f : Nat} {d : Nat → Nat} (h : FarI l F f d) {a b : Nat} (hb : b < F) (hab : a ≠ b) (ha : adj l b a = true) : FarI l F f (rel1 d a b) := by
  refine ⟨?_, fun v => Nat.le_trans (rel1_le d a b v) (h.most v), fun v hv hlt => ?_⟩
  · have := rel1_le d a b f; have := h.zero; omega
  · have key : ∀ u, rel1 d a b u ≤ d u := rel1_le d a b
    by_cases hva : v = a
    · subst hva
      have e : rel1 d v b v = min (d v) (d b + 1) := by simp [rel1, updD]
      by_cases hm : d v ≤ d b + 1
      · rw [e, Nat.min_eq_left hm] at hlt ⊢
        obtain ⟨u, hu, hadj, h3⟩ := h.way v hv hlt
        exact ⟨u, hu, hadj, by have := key u; omega⟩
      · rw [e, Nat.min_eq_right (by omega)]
        exact ⟨b, hb, ha, by have := key b; omega⟩
    · have e : rel1 d a b v = d v := by simp [rel1, updD, hva]
      rw [e] at hlt ⊢
      obtain ⟨u, hu, hadj, h3⟩ := h.way v hv hlt
      exact ⟨u, hu, hadj, by have := key u; omega⟩
theorem pair_adj {f : Int} {l : List (Int × Int)} (hg : gdB f l = true) {k : Nat} (hk : k < l.length) : adj l (ca l k).toNat (cb l k).toNat = true ∧ (ca l k).toNat < (cb l k).toNat ∧ ((cb l k).toNat : Int) < f := by
  have h := gd_call hg hk
  refine ⟨?_, by omega, by omega⟩
  unfold adj
  rw [show (((ca l k).toNat : Nat) : Int) = ca l k by omega, show (((cb l k).toNat : Nat) : Int) = cb l k by omega, show min (ca l k) (cb l k) = ca l k by omega, show max (ca l k) (cb l k) = cb l k by omega]
  exact has_yes hk rfl rfl
theorem FarI.leds {l : List (Int × Int)} {F f : Nat} {d : Nat → Nat} (hg : gdB (F : Int) l = true) (h : FarI l F f d) : ∀ k, k ≤ l.length → FarI l F f (ledT l d k)
  | 0, _ => h
  | k + 1, hk => by
    obtain ⟨h1, h2, h3⟩ := pair_adj hg (show k < l.length by omega)
    exact ((FarI.leds hg h k (by omega)).step (by omega) (by omega) (by rw [adj_comm]; exact h1)).step (by omega) (by omega) h1
theorem led_edge {l : List (Int × Int)} {d : Nat → Nat} (hs : ∀ v, v < 10 → ledN l d v = d v) {k : Nat} (hk : k < l.length) (ha : (ca l k).toNat < 10) (hb : (cb l k).toNat < 10) (hab : (ca l k).toNat ≠ (cb l k).toNat) : d (ca l k).toNat ≤ d (cb l k).toNat + 1 ∧ d (cb l k).toNat ≤ d (ca l k).toNat + 1 := by
  have key : ∀ j v, j ≤ l.length → v < 10 → ledT l d j v = d v := fun j v hj hv => by
    have h1 := ledT_le l d v j
    have h2 : ledN l d v ≤ ledT l d j v := ledT_mono l d v l.length hj
    have h3 := hs v hv
    omega
  have e0a := key k _ (by omega) ha
  have e0b := key k _ (by omega) hb
  have e1a := key (k + 1) _ hk ha
  have e1b := key (k + 1) _ hk hb
  rw [ledT] at e1a e1b
  generalize (ca l k).toNat = a at *
  generalize (cb l k).toNat = b at *
  have hba : b ≠ a := fun h => hab h.symm
  simp only [rel1, updD, if_true, if_neg hab, if_neg hba, e0a, e0b] at e1a e1b
  omega
/-- A set of ten distances, together. -/
def sumD (d : Nat → Nat) : Nat → Nat
  | 0 => 0
  | k + 1 => sumD d k + d k
theorem sumD_le {d e : Nat → Nat} (h : ∀ v, d v ≤ e v) : ∀ k, sumD d k ≤ sumD e k
  | 0 => Nat.le_refl _
  | k + 1 => by have := sumD_le h k; have := h k; rw [sumD, sumD]; omega
theorem sumD_lt {d e : Nat → Nat} (h : ∀ v, d v ≤ e v) {v : Nat} (hv : d v < e v) : ∀ k, v < k → sumD d k < sumD e k
  | 0, h0 => by omega
  | k + 1, h0 => by
    rw [sumD, sumD]
    by_cases hk : v = k
    · subst hk; have := sumD_le h v; omega
    · have := sumD_lt h hv k (by omega); have := h k; omega
theorem sumD_100 {d : Nat → Nat} (h : ∀ v, d v ≤ 10) : ∀ k, sumD d k ≤ 10 * k
  | 0 => Nat.le_refl _
  | k + 1 => by have := sumD_100 h k; have := h k; rw [sumD]; omega
/-- Nothing is led on. -/
def still (l : List (Int × Int)) (d : Nat → Nat) : Bool := (List.range 10).all fun v => ledN l d v == d v
theorem still_yes {l : List (Int × Int)} {d : Nat → Nat} (h : still l d = true) : ∀ v, v < 10 → ledN l d v = d v := by
  simp only [still, List.all_eq_true, List.mem_range, beq_iff_eq] at h
  exact h
theorem still_no {l : List (Int × Int)} {d : Nat → Nat} (h : still l d = false) : sumD (ledN l d) 10 < sumD d 10 := by
  simp only [still, List.all_eq_false, List.mem_range, beq_iff_eq] at h
  obtain ⟨v, hv, hne⟩ := h
  exact sumD_lt (ledT_le l d · l.length) (by show ledN l d v < d v; have : ledN l d v ≤ d v := ledT_le l d v l.length; omega) 10 hv
theorem has_ex {l : List (Int × Int)} {X Y : Int} (h : hasC l X Y = true) : ∃ k, k < l.length ∧ ca l k = X ∧ cb l k = Y := by
  unfold hasC at h
  rw [List.any_eq_true] at h
  obtain ⟨p, hp, h2⟩ := h
  obtain ⟨k, hk, rfl⟩ := List.getElem_of_mem hp
  rw [ca_cb l k hk] at h2
  simp only [Bool.and_eq_true, beq_iff_eq] at h2
  exact ⟨k, hk, h2.1, h2.2⟩
theorem FarI.done {l : List (Int × Int)} {F f : Nat} {d : Nat → Nat} (hg : gdB (F : Int) l = true) (h : FarI l F f d) (hs : still l d = true) : FarS l F f d := by
  have hF := gd_fr hg
  refine ⟨h.zero, fun v _ => h.most v, fun u v hu hv ha => ?_, fun v _ => h.way v⟩
  obtain ⟨k, hk, h1, h2⟩ := has_ex ha
  obtain ⟨_, p2, p3⟩ := pair_adj hg hk
  have he := led_edge (still_yes hs) hk (by omega) (by omega) (by omega)
  rw [h1, h2] at he
  by_cases huv : u ≤ v
  · rw [show (min (u : Int) v).toNat = u by omega, show (max (u : Int) v).toNat = v by omega] at he
    exact he.2
  · rw [show (min (u : Int) v).toNat = v by omega, show (max (u : Int) v).toNat = u by omega] at he
    exact he.1
/-- The distances with which the program begins. -/
def far0 (f : Nat) : Nat → Nat := updD (fun _ => 10) f 0
theorem far0_inv (l : List (Int × Int)) (F f : Nat) : FarI l F f (far0 f) := by
  refine ⟨by simp [far0, updD], fun v => by unfold far0 updD; split; exact Nat.zero_le _; exact Nat.le_refl _, fun v hv hlt => ?_⟩
  simp [far0, updD, hv] at hlt
/-- The distances led on so often. -/
def leds (l : List (Int × Int)) (f : Nat) : Nat → (Nat → Nat)
  | 0 => far0 f
  | k + 1 => ledN l (leds l f k)
/-- The distances from a friend. -/
def dst (l : List (Int × Int)) (f : Nat) : Nat → Nat := leds l f 101
theorem leds_inv {l : List (Int × Int)} {F f : Nat} (hg : gdB (F : Int) l = true) : ∀ k, FarI l F f (leds l f k)
  | 0 => far0_inv l F f
  | k + 1 => (leds_inv hg k).leds hg l.length (Nat.le_refl _)
theorem still_led {l : List (Int × Int)} {F f : Nat} {d : Nat → Nat} (hg : gdB (F : Int) l = true) (hi : FarI l F f d) (h : still l d = true) : still l (ledN l d) = true := by
  have hF := gd_fr hg
  have hy := still_yes h
  have key : ∀ k, k ≤ l.length → ∀ v, v < 10 → ledT l (ledN l d) k v = ledT l d k v := by
    intro k
    induction k with
    | zero => intro _ v hv; exact hy v hv
    | succ k ih =>
      intro hk v hv
      obtain ⟨_, p2, p3⟩ := pair_adj hg (show k < l.length by omega)
      have ha := ih (by omega) (ca l k).toNat (by omega)
      have hb := ih (by omega) (cb l k).toNat (by omega)
      have hv' := ih (by omega) v hv
      rw [ledT, ledT]
      simp only [rel1, updD]
      split <;> (try split) <;> simp_all
  simp only [still, List.all_eq_true, List.mem_range, beq_iff_eq]
  intro v hv
  rw [hy v hv]
  exact (key l.length (Nat.le_refl _) v hv).trans (hy v hv)
theorem leds_still {l : List (Int × Int)} {F f : Nat} (hg : gdB (F : Int) l = true) : ∀ k, still l (leds l f k) = true ∨ sumD (leds l f k) 10 + k ≤ 100
  | 0 => .inr (by have := sumD_100 (far0_inv l F f).most 10; show sumD (far0 f) 10 + 0 ≤ 100; omega)
  | k + 1 => by
    rcases leds_still hg k with h | h
    · exact .inl (still_led hg (leds_inv hg k) h)
    · cases hs : still l (leds l f k)
      · have := still_no hs
        exact .inr (by show sumD (ledN l (leds l f k)) 10 + (k + 1) ≤ 100; omega)
      · exact .inl (still_led hg (leds_inv hg k) hs)
theorem dst_far {l : List (Int × Int)} {F f : Nat} (hg : gdB (F : Int) l = true) : FarS l F f (dst l f) := by
  refine (leds_inv hg 101).done hg ?_
  rcases leds_still (f := f) hg 101 with h | h
  · exact h
  · omega

end Go.Proofs.YtibjapfaljeclaaDoor
