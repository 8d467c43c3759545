/- All hidden lists, in order: by the program, one call longer and longer; by the model, one begun after the other. -/
import Derived.Test.YtmgmkgjefplfdaaRows2
namespace Go.Proofs.Ytmgmkgjefplfdaa
open Go.ChangeShapes Go.WideShapes Go.ChangeAt Go.RowKit
set_option linter.unusedVariables false

/-- The pairs of a friend with those between this one and a bound for which a rule holds. -/
def rowP (P : Nat → Nat → Bool) (a : Nat) : Nat → List (Int × Int)
  | 0 => []
  | b + 1 => rowP P a b ++ if decide (a < b) && P a b then [((a : Int), (b : Int))] else []

/-- Those of all friends before a bound. -/
def wholeP (P : Nat → Nat → Bool) (F : Nat) : Nat → List (Int × Int)
  | 0 => []
  | a + 1 => wholeP P F a ++ rowP P a F

/-- The model's four rules. -/
def pr (r g F a b : Nat) : Bool :=
  match r with
  | 0 => b == a + 1
  | 1 => b == a + 1 || (a == 0 && b + 1 == F)
  | 2 => a == g || b == g
  | _ => true

theorem rowP_low (P : Nat → Nat → Bool) (a : Nat) : ∀ b, b ≤ a + 1 → rowP P a b = []
  | 0, _ => rfl
  | b + 1, h => by
    have hd : decide (a < b) = false := by simp; omega
    rw [rowP, rowP_low P a b (by omega), hd]; rfl

theorem rowP_yes {P : Nat → Nat → Bool} {a b : Nat} (h : a < b) (hP : P a b = true) : rowP P a (b + 1) = rowP P a b ++ [((a : Int), (b : Int))] := by
  rw [rowP, hP]; simp [h]

theorem rowP_no {P : Nat → Nat → Bool} {a b : Nat} (hP : P a b = false) : rowP P a (b + 1) = rowP P a b := by
  rw [rowP, hP]; simp

theorem rowP_len (P : Nat → Nat → Bool) (a : Nat) : ∀ b, (rowP P a b).length ≤ b
  | 0 => Nat.le_refl _
  | b + 1 => by
    have ih := rowP_len P a b
    rw [rowP, List.length_append]
    split <;> simp <;> omega

theorem wholeP_len (P : Nat → Nat → Bool) {F : Nat} (hF : F ≤ 10) : ∀ a, (wholeP P F a).length ≤ 10 * a
  | 0 => Nat.le_refl _
  | a + 1 => by
    have ih := wholeP_len P hF a
    have := rowP_len P a F
    rw [wholeP, List.length_append]
    omega

theorem rowP_in (F a : Nat) : ∀ b, b ≤ F → ∀ p ∈ rowP (pr 3 0 F) a b, 0 ≤ p.1 ∧ p.1 < p.2 ∧ p.2 < (F : Int)
  | 0, _, p, hp => by simp [rowP] at hp
  | b + 1, hb, p, hp => by
    rw [rowP] at hp
    rcases List.mem_append.1 hp with h | h
    · exact rowP_in F a b (by omega) p h
    · by_cases hab : a < b
      · simp [hab, pr] at h
        rw [h]
        exact ⟨by simp, by simp; omega, by simp; omega⟩
      · simp [hab] at h

theorem wholeP_in (F : Nat) : ∀ a, ∀ p ∈ wholeP (pr 3 0 F) F a, 0 ≤ p.1 ∧ p.1 < p.2 ∧ p.2 < (F : Int)
  | 0, p, hp => by simp [wholeP] at hp
  | a + 1, p, hp => by
    rw [wholeP] at hp
    rcases List.mem_append.1 hp with h | h
    · exact wholeP_in F a p h
    · exact rowP_in F a F (Nat.le_refl _) p h

/-- All calls of so many friends, in order. -/
def chs (F : Nat) : List (Int × Int) := wholeP (pr 3 0 F) F F
/-- The lists that begin so and have so many calls more. -/
def ext (C : List (Int × Int)) : Nat → List (Int × Int) → List (List (Int × Int))
  | 0, b => [b]
  | k + 1, b => C.flatMap fun c => ext C k (b ++ [c])
/-- The lists of so many calls, one call longer and longer. -/
def lv (C : List (Int × Int)) : Nat → List (List (Int × Int))
  | 0 => [[]]
  | k + 1 => (lv C k).flatMap fun l => C.map fun c => l ++ [c]
theorem ext_succ (C : List (Int × Int)) : ∀ k b, ext C (k + 1) b = (ext C k b).flatMap fun l => C.map fun c => l ++ [c]
  | 0, b => by
    simp only [ext, List.flatMap_singleton]
    induction C with
    | nil => rfl
    | cons c C ih => simp_all
  | k + 1, b => by
    rw [ext]
    conv => lhs; arg 1; ext c; rw [ext_succ C k (b ++ [c])]
    rw [ext, List.flatMap_assoc]
theorem lv_ext (C : List (Int × Int)) : ∀ k, lv C k = ext C k []
  | 0 => rfl
  | k + 1 => by rw [lv, lv_ext C k, ext_succ]
/-- Those of them that fit. -/
def lk (p : List (Int × Int) → Bool) (C : List (Int × Int)) : Nat → List (Int × Int) → List (List (Int × Int))
  | 0, b => if p b then [b] else []
  | k + 1, b => C.flatMap fun c => lk p C k (b ++ [c])
theorem lk_ext (p : List (Int × Int) → Bool) (C : List (Int × Int)) : ∀ k b, lk p C k b = (ext C k b).filter p
  | 0, b => by
    by_cases h : p b <;> simp [lk, ext, h]
  | k + 1, b => by
    rw [lk, ext, List.filter_flatMap]
    congr 1
    funext c
    exact lk_ext p C k (b ++ [c])
theorem flat_len {α β : Type} {m : Nat} (g : α → List β) (l : List α) (h : ∀ x ∈ l, (g x).length ≤ m) : (l.flatMap g).length ≤ l.length * m := by
  induction l with
  | nil => simp
  | cons a l ih =>
    have h1 := h a (by simp)
    have h2 := ih (fun x hx => h x (by simp [hx]))
    rw [List.flatMap_cons, List.length_append, List.length_cons, Nat.add_mul]
    omega
theorem chs_len : ∀ F : Fin 5, (chs F.val).length ≤ 6 ∧ (2 ≤ F.val → 0 < (chs F.val).length) := by decide +kernel
theorem lk_len (p : List (Int × Int) → Bool) {C : List (Int × Int)} (hC : C.length ≤ 6) : ∀ k b, (lk p C k b).length ≤ 6 ^ k
  | 0, b => by
    rw [lk]; split <;> simp
  | k + 1, b => by
    rw [lk]
    refine Nat.le_trans (flat_len _ _ (fun c _ => lk_len p hC k (b ++ [c]))) ?_
    rw [Nat.pow_succ, Nat.mul_comm]
    exact Nat.mul_le_mul_left _ hC
theorem lv_len {C : List (Int × Int)} (hC : C.length ≤ 6) : ∀ k, (lv C k).length ≤ 6 ^ k
  | 0 => Nat.le_refl _
  | k + 1 => by
    rw [lv]
    have h := flat_len (m := 6) (fun l => C.map fun c => l ++ [c]) (lv C k) (fun l _ => by rw [List.length_map]; exact hC)
    have := lv_len hC k
    rw [Nat.pow_succ]
    exact Nat.le_trans h (Nat.mul_le_mul_right _ this)
theorem lv_pos {C : List (Int × Int)} (hC : 0 < C.length) : ∀ k, 0 < (lv C k).length
  | 0 => Nat.one_pos
  | k + 1 => by
    have h := lv_pos hC k
    rw [lv]
    cases e : lv C k with
    | nil => rw [e] at h; simp at h
    | cons a l => rw [List.flatMap_cons, List.length_append, List.length_map]; omega
/-- The rows of the first lists, and of the first calls of one more. -/
def fmL (C : List (Int × Int)) (L : List (List (Int × Int))) (k : Nat) : List (List (Int × Int)) := (L.take k).flatMap fun l => C.map fun c => l ++ [c]
def exL (C : List (Int × Int)) (l : List (Int × Int)) (q : Nat) : List (List (Int × Int)) := (C.take q).map fun c => l ++ [c]
theorem exL_succ (C : List (Int × Int)) (l : List (Int × Int)) {q : Nat} (h : q < C.length) : exL C l (q + 1) = exL C l q ++ [l ++ [(ca C q, cb C q)]] := by
  unfold exL
  rw [List.take_succ_eq_append_getElem h, List.map_append, ca_cb C q h]
  rfl
theorem fmL_succ (C : List (Int × Int)) (L : List (List (Int × Int))) {k : Nat} (h : k < L.length) : fmL C L (k + 1) = fmL C L k ++ exL C (crow L k) C.length := by
  unfold fmL exL
  rw [List.take_succ_eq_append_getElem h, List.flatMap_append, List.take_length, crow_get h]
  simp
theorem fmL_len (C : List (Int × Int)) (hC : C.length ≤ 6) (L : List (List (Int × Int))) (k : Nat) : (fmL C L k).length ≤ L.length * 6 := by
  refine Nat.le_trans (flat_len (m := 6) _ _ (fun l _ => by rw [List.length_map]; exact hC)) (Nat.mul_le_mul_right _ (by rw [List.length_take]; omega))
theorem exL_len (C : List (Int × Int)) (hC : C.length ≤ 6) (l : List (Int × Int)) (q : Nat) : (exL C l q).length ≤ 6 := by
  unfold exL; rw [List.length_map, List.length_take]; omega
theorem fmL_all (C : List (Int × Int)) (L : List (List (Int × Int))) : fmL C L L.length = L.flatMap fun l => C.map fun c => l ++ [c] := by unfold fmL; rw [List.take_length]
/-- What a list of calls of so many friends is. -/
def callsIn (F : Nat) (l : List (Int × Int)) : Prop := ∀ x ∈ l, 0 ≤ x.1 ∧ x.1 < x.2 ∧ x.2 < (F : Int)
theorem chs_in (F : Nat) : callsIn F (chs F) := wholeP_in F F
theorem ext_in {F : Nat} {C : List (Int × Int)} (hC : callsIn F C) : ∀ k b, callsIn F b → ∀ l ∈ ext C k b, callsIn F l ∧ l.length = b.length + k
  | 0, b, hb, l, hl => by
    simp [ext] at hl
    subst hl
    exact ⟨hb, rfl⟩
  | k + 1, b, hb, l, hl => by
    rw [ext, List.mem_flatMap] at hl
    obtain ⟨c, hc, hl⟩ := hl
    obtain ⟨h1, h2⟩ := ext_in hC k (b ++ [c]) (fun x hx => by
      rcases List.mem_append.1 hx with h | h
      · exact hb x h
      · simp at h; subst h; exact hC _ hc) l hl
    refine ⟨h1, ?_⟩
    rw [h2, List.length_append]
    simp; omega

end Go.Proofs.Ytmgmkgjefplfdaa
