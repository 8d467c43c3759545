/- The first plans: what the searches of the program and of the model find. -/
import Derived.Test.YtckkcmaajmphfaaSums
import Derived.Test.YtckkcmaajmphfaaWhole
namespace Go.Proofs.Ytckkcmaajmphfaa
open Go.ChangeShapes Go.WideShapes Go.ChangeAt Go.RowKit
set_option linter.unusedVariables false

/-- The pairs of a friend with those between this one and a bound for which a rule holds. -/
def rowP (P : Nat → Nat → Bool) (a : Nat) : Nat → List (Int × Int)
  | 0 => []
  | b + 1 => rowP P a b ++ if decide (a < b) && P a b then [((a : Int), (b : Int))] else []

/-- Those of all friends before a bound. -/
def wholeP (P : Nat → Nat → Bool) (F : Nat) : Nat → List (Int × Int)
  | 0 => []
  | a + 1 => wholeP P F a ++ rowP P a F

/-- The model's four rules. -/
def pr (r g F a b : Nat) : Bool :=
  match r with
  | 0 => b == a + 1
  | 1 => b == a + 1 || (a == 0 && b + 1 == F)
  | 2 => a == g || b == g
  | _ => true

theorem rowP_low (P : Nat → Nat → Bool) (a : Nat) : ∀ b, b ≤ a + 1 → rowP P a b = []
  | 0, _ => rfl
  | b + 1, h => by
    have hd : decide (a < b) = false := by simp; omega
    rw [rowP, rowP_low P a b (by omega), hd]; rfl

theorem rowP_yes {P : Nat → Nat → Bool} {a b : Nat} (h : a < b) (hP : P a b = true) : rowP P a (b + 1) = rowP P a b ++ [((a : Int), (b : Int))] := by
  rw [rowP, hP]; simp [h]

theorem rowP_no {P : Nat → Nat → Bool} {a b : Nat} (hP : P a b = false) : rowP P a (b + 1) = rowP P a b := by
  rw [rowP, hP]; simp

theorem rowP_len (P : Nat → Nat → Bool) (a : Nat) : ∀ b, (rowP P a b).length ≤ b
  | 0 => Nat.le_refl _
  | b + 1 => by
    have ih := rowP_len P a b
    rw [rowP, List.length_append]
    split <;> simp <;> omega

theorem wholeP_len (P : Nat → Nat → Bool) {F : Nat} (hF : F ≤ 10) : ∀ a, (wholeP P F a).length ≤ 10 * a
  | 0 => Nat.le_refl _
  | a + 1 => by
    have ih := wholeP_len P hF a
    have := rowP_len P a F
    rw [wholeP, List.length_append]
    omega

/-- The first that a search finds. -/
def fs {α : Type} (p : Nat → Option α) : Nat → Option α
  | 0 => none
  | k + 1 => match fs p k with
    | some x => some x
    | none => p k
theorem fs_keep {α : Type} {p : Nat → Option α} {x : α} {k : Nat} (h : fs p k = some x) : fs p (k + 1) = some x := by rw [fs, h]
theorem fs_next {α : Type} {p : Nat → Option α} {k : Nat} (h : fs p k = none) : fs p (k + 1) = p k := by rw [fs, h]
theorem fs_more {α : Type} {p : Nat → Option α} {x : α} {k : Nat} (h : fs p k = some x) : ∀ m, fs p (k + m) = some x
  | 0 => h
  | m + 1 => fs_keep (fs_more h m)
theorem fs_at {α : Type} {p : Nat → Option α} {x : α} {k n : Nat} (h : fs p k = none) (hk : k < n) (hp : p k = some x) : fs p n = some x := by
  have h1 : fs p (k + 1) = some x := by rw [fs_next h, hp]
  have := fs_more h1 (n - (k + 1))
  rwa [show k + 1 + (n - (k + 1)) = n by omega] at this
theorem fs_eq {α : Type} {p q : Nat → Option α} : ∀ k, (∀ i, i < k → p i = q i) → fs p k = fs q k
  | 0, _ => rfl
  | k + 1, h => by rw [fs, fs, fs_eq k (fun i hi => h i (by omega)), h k (by omega)]
theorem fs_none {α : Type} {p : Nat → Option α} : ∀ k, (∀ i, i < k → p i = none) → fs p k = none
  | 0, _ => rfl
  | k + 1, h => by rw [fs_next (fs_none k (fun i hi => h i (by omega))), h k (by omega)]

/-- What is known, as a list; behind a call. -/
def kn (F : Nat) (s : Nat → Nat) : List Nat := (List.range F).map s
def lst (l : List Nat) (a b : Nat) : List Nat := (l.set a (l.getD a 0 ||| l.getD b 0)).set b (l.getD a 0 ||| l.getD b 0)
theorem kn_get {F : Nat} {s : Nat → Nat} {a : Nat} (h : a < F) : (kn F s).getD a 0 = s a := by simp [kn, List.getD_eq_getElem?_getD, h]
theorem kn_set {F : Nat} {s : Nat → Nat} {a v : Nat} : (kn F s).set a v = kn F (upd s a v) := by
  apply List.ext_getElem?
  intro j
  rw [List.getElem?_set]
  by_cases hj : j < F
  · by_cases hij : a = j
    · subst hij; simp [kn, upd, hj]
    · simp [kn, upd, hj, hij, Ne.symm hij]
  · by_cases hij : a = j
    · subst hij; simp [kn, hj]
    · simp [kn, hj, hij]
theorem kn_stp {F : Nat} {s : Nat → Nat} {a b : Int} (ha : 0 ≤ a) (hab : a < b) (hb : b < F) : kn F (stp s (a, b)) = lst (kn F s) a.toNat b.toNat := by
  unfold lst
  rw [kn_get (show a.toNat < F by omega), kn_get (show b.toNat < F by omega), kn_set, kn_set]
  rfl
def allL (F : Nat) (l : List Nat) : Bool := l.all fun x => x == 2 ^ F - 1
def misL (F : Nat) (l : List Nat) : Nat := (l.filter fun x => x != 2 ^ F - 1).length
theorem all_kn (F : Nat) (s : Nat → Nat) : allB F s = allL F (kn F s) := by simp [allB, allL, kn, List.all_map, Function.comp_def]
/-- How many do not know all. -/
def misS (F : Nat) (s : Nat → Nat) : Nat → Nat
  | 0 => 0
  | k + 1 => misS F s k + (if s k != 2 ^ F - 1 then 1 else 0)
theorem mis_kn (F : Nat) (s : Nat → Nat) : ∀ k, misS F s k = misL F (kn k s)
  | 0 => rfl
  | k + 1 => by
    rw [misS, mis_kn F s k, misL, misL, kn, kn, List.range_succ, List.map_append, List.filter_append, List.length_append]
    cases h : (s k != 2 ^ F - 1) <;> simp [h]
theorem mis_pos {F : Nat} {s : Nat → Nat} : ∀ k, (∃ i, i < k ∧ s i ≠ 2 ^ F - 1) → 0 < misS F s k
  | 0, h => by obtain ⟨i, hi, _⟩ := h; omega
  | k + 1, h => by
    obtain ⟨i, hi, h2⟩ := h
    rw [misS]
    by_cases hik : i = k
    · subst hik; simp [h2]
    · have := mis_pos k ⟨i, by omega, h2⟩; omega
theorem mis_le (F : Nat) (s : Nat → Nat) : ∀ k, misS F s k ≤ k
  | 0 => Nat.le_refl _
  | k + 1 => by rw [misS]; have := mis_le F s k; split <;> omega

/-- The program's search: no idle calls. W: whether all know. -/
def tryI (R : (Nat → Nat) → Option (List (Int × Int))) (ch : List (Int × Int)) (s : Nat → Nat) (i : Nat) : Option (List (Int × Int)) :=
  if s (ca ch i).toNat == s (cb ch i).toNat then none else (R (stp s (ca ch i, cb ch i))).map ((ca ch i, cb ch i) :: ·)
def fpI (W : (Nat → Nat) → Bool) (ch : List (Int × Int)) : Nat → (Nat → Nat) → Option (List (Int × Int))
  | 0, s => if W s then some [] else none
  | n + 1, s => fs (tryI (fpI W ch n) ch s) ch.length
/-- The model's search. -/
def tryS (R : (Nat → Nat) → Option (List (Int × Int))) (s : Nat → Nat) (a b : Nat) : Option (List (Int × Int)) :=
  if a < b then (R (stp s ((a : Int), (b : Int)))).map (((a : Int), (b : Int)) :: ·) else none
def spS (F : Nat) : Nat → (Nat → Nat) → Option (List (Int × Int))
  | 0, s => if allB F s then some [] else none
  | n + 1, s => if allB F s then none else if 2 * (n + 1) < misS F s F then none else fs (fun a => fs (tryS (spS F n) s a) F) F
/-- The same, over lists. -/
def fpL (F : Nat) (ch : List (Int × Int)) : Nat → List Nat → Option (List (Int × Int))
  | 0, l => if allL F l then some [] else none
  | n + 1, l => fs (fun i => if l.getD (ca ch i).toNat 0 == l.getD (cb ch i).toNat 0 then none else (fpL F ch n (lst l (ca ch i).toNat (cb ch i).toNat)).map ((ca ch i, cb ch i) :: ·)) ch.length
def spL (F : Nat) : Nat → List Nat → Option (List (Int × Int))
  | 0, l => if allL F l then some [] else none
  | n + 1, l => if allL F l then none else if 2 * (n + 1) < misL F l then none else
     fs (fun a => fs (fun b => if a < b then (spL F n (lst l a b)).map (((a : Int), (b : Int)) :: ·) else none) F) F
theorem sp_kn (F : Nat) : ∀ n s, spS F n s = spL F n (kn F s)
  | 0, s => by rw [spS, spL, all_kn]
  | n + 1, s => by
    rw [spS, spL, all_kn, mis_kn]
    have e : fs (fun a => fs (tryS (spS F n) s a) F) F = fs (fun a => fs (fun b => if a < b then (spL F n (lst (kn F s) a b)).map (((a : Int), (b : Int)) :: ·) else none) F) F := by
      apply fs_eq
      intro a ha
      apply fs_eq
      intro b hb
      unfold tryS
      by_cases h : a < b
      · rw [if_pos h, if_pos h, sp_kn F n, kn_stp (by omega) (by omega) (by omega)]; rfl
      · rw [if_neg h, if_neg h]
    rw [e]
theorem fp_kn {F : Nat} {W : (Nat → Nat) → Bool} {ch : List (Int × Int)} (G : (Nat → Nat) → Prop) (hc : ∀ i, i < ch.length → 0 ≤ ca ch i ∧ ca ch i < cb ch i ∧ cb ch i < F)
    (hG : ∀ s i, G s → i < ch.length → G (stp s (ca ch i, cb ch i))) (hW : ∀ s, G s → W s = allB F s) : ∀ n s, G s → fpI W ch n s = fpL F ch n (kn F s)
  | 0, s, g => by rw [fpI, fpL, hW s g, all_kn]
  | n + 1, s, g => by
    rw [fpI, fpL]
    apply fs_eq
    intro i hi
    obtain ⟨h1, h2, h3⟩ := hc i hi
    unfold tryI
    rw [kn_get (show (ca ch i).toNat < F by omega), kn_get (show (cb ch i).toNat < F by omega), fp_kn G hc hG hW n _ (hG s i g hi), kn_stp h1 h2 h3]

def few (F : Nat) : Nat := if F < 4 then F * (F - 1) / 2 else 2 * F - 4
/-- The first plan. -/
def planL : Nat → List (Int × Int)
  | 2 => [(0, 1)]
  | 3 => [(0, 1), (0, 2), (0, 1)]
  | 4 => [(0, 1), (2, 3), (0, 2), (1, 3)]
  | 5 => [(0, 1), (0, 2), (3, 4), (0, 3), (0, 1), (2, 4)]
  | _ => []
def chL : Nat → List (Int × Int)
  | 2 => [(0, 1)]
  | 3 => [(0, 1), (0, 2), (1, 2)]
  | 4 => [(0, 1), (0, 2), (0, 3), (1, 2), (1, 3), (2, 3)]
  | 5 => [(0, 1), (0, 2), (0, 3), (0, 4), (1, 2), (1, 3), (1, 4), (2, 3), (2, 4), (3, 4)]
  | _ => []
def ownL : Nat → List Nat
  | 1 => [1]
  | 2 => [1, 2]
  | 3 => [1, 2, 4]
  | 4 => [1, 2, 4, 8]
  | 5 => [1, 2, 4, 8, 16]
  | _ => []
theorem own_kn : ∀ F : Fin 6, kn F.val (own0 F.val) = ownL F.val := by decide
theorem fpL_at : ∀ F : Fin 6, 0 < F.val → fpL F.val (chL F.val) (few F.val) (ownL F.val) = some (planL F.val) := by decide +kernel
theorem spL_at : ∀ F : Fin 6, 0 < F.val → spL F.val (few F.val) (ownL F.val) = some (planL F.val) := by decide +kernel

/-- Whether all know, as the program counts. -/
def whI (F : Nat) (s : Nat → Nat) : Bool := ((cntTo s 10 : Int) == (F : Int) * F)
/-- Friends know news of theirs alone; those that there are not know none. -/
def Gd (F : Nat) (s : Nat → Nat) : Prop := (∀ i, s i < 2 ^ F) ∧ ∀ i, F ≤ i → s i = 0
theorem whI_eq {F : Nat} (hF : F ≤ 10) {s : Nat → Nat} (h : Gd F s) : whI F s = allB F s := by
  have hb := cnt_bound hF h.1 F
  have ht : cntTo s 10 = cntTo s F := by
    have := cnt_more h.2 (10 - F)
    rwa [show F + (10 - F) = 10 by omega] at this
  unfold whI
  rw [ht, Bool.eq_iff_iff]
  have e : ((F : Int) * F) = ((F * F : Nat) : Int) := by simp
  rw [e]
  simp only [beq_iff_eq, allB, List.all_eq_true, List.mem_range]
  constructor
  · intro h
    exact hb.2.1 (by omega)
  · intro h
    have := hb.2.2 h
    omega
theorem gd_own {F : Nat} : Gd F (own0 F) := ⟨own0_lt F, fun i hi => by simp [own0]; omega⟩
theorem gd_stp {F : Nat} {s : Nat → Nat} (h : Gd F s) {a b : Int} (h0 : 0 ≤ a) (h1 : a < b) (h2 : b < F) : Gd F (stp s (a, b)) := ⟨stp_lt h.1 _, stp_zero h.2 h0 h1 h2⟩
theorem gd_small {F : Nat} (hF : F ≤ 10) {s : Nat → Nat} (h : Gd F s) : ∀ i, s i < 1024 := fun i => Nat.lt_of_lt_of_le (h.1 i) (Nat.pow_le_pow_right (n := 2) (by decide) hF)
theorem ch_all : ∀ F : Fin 6, wholeP (pr 3 0 F.val) F.val F.val = chL F.val := by decide +kernel
theorem ch_ok : ∀ F : Fin 6, ∀ i : Fin 60, i.val < (chL F.val).length → 0 ≤ ca (chL F.val) i.val ∧ ca (chL F.val) i.val < cb (chL F.val) i.val ∧ cb (chL F.val) i.val < (F.val : Int) := by decide +kernel
theorem ch_len : ∀ F : Fin 6, (chL F.val).length ≤ 10 := by decide +kernel
theorem few_le : ∀ F : Fin 6, few F.val ≤ 6 ∧ (planL F.val).length = few F.val ∧ (0 < F.val → 0 < few F.val → 0 < (chL F.val).length) := by decide +kernel
theorem fp_at {F : Nat} (h1 : 1 ≤ F) (h5 : F ≤ 5) : fpI (whI F) (chL F) (few F) (own0 F) = some (planL F) := by
  have hc : ∀ i, i < (chL F).length → 0 ≤ ca (chL F) i ∧ ca (chL F) i < cb (chL F) i ∧ cb (chL F) i < F := fun i hi => by
    have hl := ch_len ⟨F, by omega⟩
    exact ch_ok ⟨F, by omega⟩ ⟨i, by simp only at hl; omega⟩ hi
  rw [fp_kn (Gd F) hc (fun s i g hi => gd_stp g (hc i hi).1 (hc i hi).2.1 (hc i hi).2.2) (fun s g => whI_eq (by omega) g) _ _ gd_own]
  have e := own_kn ⟨F, by omega⟩
  simp only at e
  rw [e]
  exact fpL_at ⟨F, by omega⟩ h1
theorem sp_at {F : Nat} (h1 : 1 ≤ F) (h5 : F ≤ 5) : spS F (few F) (own0 F) = some (planL F) := by
  rw [sp_kn]
  have e := own_kn ⟨F, by omega⟩
  simp only at e
  rw [e]
  exact spL_at ⟨F, by omega⟩ h1

end Go.Proofs.Ytckkcmaajmphfaa
