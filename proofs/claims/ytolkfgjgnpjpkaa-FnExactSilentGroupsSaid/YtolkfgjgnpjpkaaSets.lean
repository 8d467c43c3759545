/- Sets of news as maps: what they read as, merged, compared, with their sizes and keys. -/
import Derived.Test.YtolkfgjgnpjpkaaGood
import Derived.Maps.Ext
import Derived.Lib.SlMapMerge
import Derived.Lib.SlMapEqual
import Derived.Maps.OwnSet
import Derived.Maps.OwnOps
import Derived.Lib.SlKeysI
namespace Go.Proofs.Ytolkfgjgnpjpkaa
open Go.ChangeShapes Go.WideShapes Go.ChangeAt Go.RowKit Go.Maps

/-- How many news are in a set. -/
def pc (n : Nat) : Nat := ((List.range 10).filter fun i => n.testBit i).length

def pcTo (n k : Nat) : Nat := ((List.range k).filter fun i => n.testBit i).length

theorem pcTo_ten (n : Nat) : pcTo n 10 = pc n := rfl

theorem pcTo_succ (n k : Nat) : pcTo n (k + 1) = pcTo n k + (n.testBit k).toNat := by
  simp only [pcTo, List.range_succ, List.filter_append, List.length_append]
  cases h : n.testBit k <;> simp [h]

theorem pcTo_or (x y : Nat) : ∀ k, pcTo x k ≤ pcTo (x ||| y) k ∧ pcTo y k ≤ pcTo (x ||| y) k ∧ (2 * pcTo (x ||| y) k = pcTo x k + pcTo y k → ∀ i, i < k → x.testBit i = y.testBit i) := by
  intro k
  induction k with
  | zero => simp [pcTo]
  | succ k ih =>
    obtain ⟨h1, h2, h3⟩ := ih
    simp only [pcTo_succ, Nat.testBit_or]
    cases hx : x.testBit k <;> cases hy : y.testBit k <;> simp only [Bool.or_false, Bool.or_true, Bool.toNat_false, Bool.toNat_true, Bool.or_self]
    · refine ⟨by omega, by omega, fun h i hi => ?_⟩
      by_cases hik : i = k
      · subst hik; rw [hx, hy]
      · exact h3 (by omega) i (by omega)
    · exact ⟨by omega, by omega, fun h => by omega⟩
    · exact ⟨by omega, by omega, fun h => by omega⟩
    · refine ⟨by omega, by omega, fun h i hi => ?_⟩
      by_cases hik : i = k
      · subst hik; rw [hx, hy]
      · exact h3 (by omega) i (by omega)

theorem pc_same {x y : Nat} (hx : x < 1024) (hy : y < 1024) (h : 2 * pc (x ||| y) = pc x + pc y) : x = y := by
  have h1 := (pcTo_or x y 10).2.2 h
  apply Nat.eq_of_testBit_eq
  intro i
  by_cases hi : i < 10
  · exact h1 i hi
  · have hp : 2 ^ 10 ≤ 2 ^ i := Nat.pow_le_pow_right (by decide) (by omega)
    rw [Nat.testBit_lt_two_pow (by omega), Nat.testBit_lt_two_pow (by omega)]

theorem full_pc : ∀ f : Fin 11, ∀ x : Fin 1024, x.val < 2 ^ f.val → pc x.val ≤ f.val ∧ (pc x.val = f.val ↔ x.val = 2 ^ f.val - 1) := by decide +kernel

/-- The digits 1 among the first k. -/
def bl (x k : Nat) : List Int := ((List.range k).filter fun i => x.testBit i).map fun (i : Nat) => (i : Int)

theorem bl_length (x : Nat) : (bl x 10).length = pc x := by simp [bl, pc]

theorem bl_yes (x k : Nat) (h : x.testBit k = true) : bl x (k + 1) = bl x k ++ [(k : Int)] := by simp [bl, List.range_succ, List.filter_append, h]

theorem bl_no (x k : Nat) (h : x.testBit k = false) : bl x (k + 1) = bl x k := by simp [bl, List.range_succ, List.filter_append, h]

theorem bl_le (x k : Nat) : (bl x k).length ≤ k := by
  have := List.length_filter_le (fun i => x.testBit i) (List.range k)
  simpa [bl] using this

theorem bl_done (x k : Nat) (h : x / 2 ^ k = 0) : ∀ d, bl x (k + d) = bl x k := by
  intro d
  induction d with
  | zero => rfl
  | succ d ih =>
    rw [← Nat.add_assoc, bl_no, ih]
    rw [Nat.testBit_eq_decide_div_mod_eq]
    have hlt : x < 2 ^ k := by
      rcases Nat.lt_or_ge x (2 ^ k) with h1 | h1
      · exact h1
      · have := Nat.div_pos h1 (Nat.two_pow_pos k); omega
    have hlt2 : x < 2 ^ (k + d) := Nat.lt_of_lt_of_le hlt (Nat.pow_le_pow_right (by decide) (by omega))
    rw [Nat.div_eq_of_lt hlt2]
    rfl
/-- The entries of a set of news: their numbers, each with true. -/
def setL (s : Nat) : List (Lit × DataW Unit) := ((List.range 10).filter fun i => s.testBit i).map fun (i : Nat) => (.int .i64 (i : Int), .lit (.bool true))
/-- A set of news as a map reads. -/
def setD (s : Nat) : DataW Unit := .map (setL s)

theorem mem_setL {s : Nat} {p : Lit × DataW Unit} : p ∈ setL s ↔ ∃ i : Nat, i < 10 ∧ s.testBit i = true ∧ p = (.int .i64 (i : Int), .lit (.bool true)) := by
  simp only [setL, List.mem_map, List.mem_filter, List.mem_range]
  constructor
  · rintro ⟨i, ⟨h1, h2⟩, rfl⟩; exact ⟨i, h1, h2, rfl⟩
  · rintro ⟨i, h1, h2, rfl⟩; exact ⟨i, ⟨h1, h2⟩, rfl⟩

theorem keyLit (i : Nat) (_h : i < 10) : WideAt.IsKeyLit (.int .i64 (i : Int)) := by
  trivial
theorem has_setD (s : Nat) (k : Lit) : Maps.has (setD s) k = true ↔ ∃ i : Nat, i < 10 ∧ s.testBit i = true ∧ k = .int .i64 (i : Int) := by
  show (setL s).any (fun p => p.1.sameKey k) = true ↔ _
  rw [List.any_eq_true]
  constructor
  · rintro ⟨p, hp, hs⟩
    obtain ⟨i, h1, h2, rfl⟩ := mem_setL.1 hp
    exact ⟨i, h1, h2, (WideAt.sameKey_eq hs).symm⟩
  · rintro ⟨i, h1, h2, rfl⟩
    exact ⟨_, mem_setL.2 ⟨i, h1, h2, rfl⟩, by simp [Lit.sameKey]⟩
theorem rise_setL (s : Nat) : (setL s).Pairwise (fun p q => p.1.before q.1 = true) := by
  unfold setL
  rw [List.pairwise_map]
  refine List.Pairwise.imp ?_ (List.Pairwise.filter _ List.pairwise_lt_range)
  intro a b h
  simpa [Lit.before] using h
theorem canon_setD (s : Nat) : Maps.Canon (setD s) := by
  refine ⟨_, rfl, rise_setL s, fun p hp => ?_⟩
  obtain ⟨i, h1, _, rfl⟩ := mem_setL.1 hp
  exact keyLit i h1
theorem atKey_setD (s : Nat) (k : Lit) (z : DataW Unit) (h : Maps.has (setD s) k = true) : (setD s).atKey k z = .lit (.bool true) := by
  obtain ⟨i, h1, h2, rfl⟩ := (has_setD s k).1 h
  exact WideAt.atKey_mem z (keyLit i h1) (Maps.apart_of_rising (rise_setL s)) (mem_setL.2 ⟨i, h1, h2, rfl⟩)
theorem atKey_int (s j : Nat) (hj : j < 10) : (setD s).atKey (.int .i64 (j : Int)) (.lit (.bool false)) = .lit (.bool (s.testBit j)) := by
  cases h : s.testBit j
  · refine Maps.atKey_of_not_has ?_ _
    rw [Bool.eq_false_iff]
    intro hh
    obtain ⟨i, _, h2, e⟩ := (has_setD s _).1 hh
    have h9 : (j : Int) = (i : Int) := by simpa using e
    have : i = j := by omega
    subst this
    rw [h] at h2; cases h2
  · exact atKey_setD s _ _ ((has_setD s _).2 ⟨j, hj, h, rfl⟩)
theorem size_setD (s : Nat) : Maps.size (setD s) = pc s := by simp [setD, Maps.size, setL, pc]
theorem pc_ten (s : Nat) : pc s ≤ 10 := by
  have := List.length_filter_le (fun i => s.testBit i) (List.range 10)
  simpa [pc] using this
theorem set_zero : (.map [] : DataW Unit) = setD 0 := by simp [setD, setL]

/-- Two sets with the same keys are one. -/
theorem set_ext {D : DataW Unit} {s : Nat} (hc : Maps.Canon D) (hh : ∀ k, Maps.has D k = true ↔ ∃ i : Nat, i < 10 ∧ s.testBit i = true ∧ k = .int .i64 (i : Int)) (ha : ∀ k z, Maps.has D k = true → D.atKey k z = .lit (.bool true)) : D = setD s := by
  refine Maps.ext hc (canon_setD s) (fun k => ?_) (fun k z h => ?_)
  · rw [Bool.eq_iff_iff, hh k, has_setD]
  · rw [ha k z h, atKey_setD s k z ((has_setD s k).2 ((hh k).1 h))]

theorem set_put {s j : Nat} (hj : j < 10) (hc : Maps.Canon ((setD s).put (.int .i64 (j : Int)) (.lit (.bool true)))) : (setD s).put (.int .i64 (j : Int)) (.lit (.bool true)) = setD (s ||| 2 ^ j) := by
  refine set_ext hc (fun k => ?_) (fun k z h => ?_)
  · by_cases e : k = .int .i64 (j : Int)
    · subst e
      rw [Maps.has_put_same (D := setD s) ⟨_, rfl⟩ (keyLit j hj)]
      exact ⟨fun _ => ⟨j, hj, by rw [Nat.testBit_or, Nat.testBit_two_pow_self, Bool.or_true], rfl⟩, fun _ => rfl⟩
    · rw [Maps.has_put_other e, has_setD]
      constructor
      · rintro ⟨i, h1, h2, rfl⟩; exact ⟨i, h1, by rw [Nat.testBit_or, h2, Bool.true_or], rfl⟩
      · rintro ⟨i, h1, h2, rfl⟩
        have hne : ¬ j = i := fun h => e (by rw [h])
        rw [Nat.testBit_or, Nat.testBit_two_pow, Bool.or_eq_true, decide_eq_true_eq] at h2
        exact ⟨i, h1, h2.resolve_right hne, rfl⟩
  · by_cases e : k = .int .i64 (j : Int)
    · subst e
      rw [Maps.atKey_put_same (D := setD s) ⟨_, rfl⟩ (keyLit j hj)]
    · rw [Maps.atKey_put_other e]
      rw [Maps.has_put_other e] at h
      exact atKey_setD s k z h

theorem set_merge {a b : Nat} (hc : Maps.Canon (Lib.mergeD (setD a) (setD b))) : Lib.mergeD (setD a) (setD b) = setD (a ||| b) := by
  have hk : ∀ p ∈ setL b, WideAt.IsKeyLit p.1 := by
    intro p hp
    obtain ⟨i, h1, _, rfl⟩ := mem_setL.1 hp
    exact keyLit i h1
  have hhas : ∀ k, Maps.has (Lib.mergeD (setD a) (setD b)) k = (Maps.has (setD a) k || Maps.has (setD b) k) := fun k => Maps.has_foldPut k (setL b) (setD a) ⟨_, rfl⟩ hk
  refine set_ext hc (fun k => ?_) (fun k z h => ?_)
  · rw [hhas, Bool.or_eq_true, has_setD, has_setD]
    constructor
    · rintro (⟨i, h1, h2, rfl⟩ | ⟨i, h1, h2, rfl⟩)
      · exact ⟨i, h1, by rw [Nat.testBit_or, h2, Bool.true_or], rfl⟩
      · exact ⟨i, h1, by rw [Nat.testBit_or, h2, Bool.or_true], rfl⟩
    · rintro ⟨i, h1, h2, rfl⟩
      rw [Nat.testBit_or, Bool.or_eq_true] at h2
      rcases h2 with h2 | h2
      · exact .inl ⟨i, h1, h2, rfl⟩
      · exact .inr ⟨i, h1, h2, rfl⟩
  · have e := Maps.atKey_foldPut k z (setL b) (setD a) ⟨_, rfl⟩ hk (Maps.apart_of_rising (rise_setL b))
    rw [hhas, Bool.or_eq_true] at h
    show ((setL b).foldl (fun D p => D.put p.1 p.2) (setD a)).atKey k z = _
    rw [e]
    cases hf : (setL b).find? (fun p => p.1.sameKey k) with
    | none =>
      refine atKey_setD a k z (h.resolve_right fun h2 => ?_)
      obtain ⟨p, hp, hs⟩ := List.any_eq_true.1 (show (setL b).any (fun p => p.1.sameKey k) = true from h2)
      have := List.find?_eq_none.1 hf p hp
      exact this hs
    | some p =>
      obtain ⟨i, _, _, rfl⟩ := mem_setL.1 (List.mem_of_find?_eq_some hf)
      rfl

/-- Whether two elements that are bools are the same. -/
def sameBD (x y : DataW Unit) : Bool := match x, y with | .lit (.bool a), .lit (.bool b) => a == b | _, _ => false

theorem pc_sub {a b : Nat} : ∀ k, (∀ i, i < k → a.testBit i = true → b.testBit i = true) → pcTo a k ≤ pcTo b k ∧ (pcTo a k = pcTo b k → ∀ i, i < k → a.testBit i = b.testBit i) := by
  intro k
  induction k with
  | zero => intro _; simp [pcTo]
  | succ k ih =>
    intro h
    obtain ⟨h1, h2⟩ := ih (fun i hi => h i (by omega))
    have hk := h k (by omega)
    simp only [pcTo_succ]
    cases hx : a.testBit k <;> cases hy : b.testBit k <;> simp only [Bool.toNat_false, Bool.toNat_true]
    · refine ⟨by omega, fun e i hi => ?_⟩
      by_cases hik : i = k
      · subst hik; rw [hx, hy]
      · exact h2 (by omega) i (by omega)
    · exact ⟨by omega, fun e => by omega⟩
    · rw [hx, hy] at hk; exact absurd (hk rfl) (by simp)
    · refine ⟨by omega, fun e i hi => ?_⟩
      by_cases hik : i = k
      · subst hik; rw [hx, hy]
      · exact h2 (by omega) i (by omega)

theorem set_equal {a b : Nat} (ha : a < 1024) (hb : b < 1024) : Lib.equalFuncD sameBD (setD a) (setD b) = (a == b) := by
  have hall : (Lib.entriesD (setD a)).all (Lib.goodD sameBD (setD b)) = true ↔ ∀ i, i < 10 → a.testBit i = true → b.testBit i = true := by
    rw [List.all_eq_true]
    constructor
    · intro h i hi ht
      have := h _ (mem_setL.2 ⟨i, hi, ht, rfl⟩)
      simp only [Lib.goodD, Bool.and_eq_true] at this
      obtain ⟨j, _, h2, e⟩ := (has_setD b _).1 this.1
      have h9 : (i : Int) = (j : Int) := by simpa using e
      have : i = j := by omega
      subst this; exact h2
    · intro h p hp
      obtain ⟨i, h1, h2, rfl⟩ := mem_setL.1 hp
      have hh := (has_setD b (.int .i64 (i : Int))).2 ⟨i, h1, h i h1 h2, rfl⟩
      simp only [Lib.goodD, hh, atKey_setD b _ _ hh, Bool.true_and]
      rfl
  rw [Bool.eq_iff_iff]
  simp only [Lib.equalFuncD, Bool.and_eq_true, decide_eq_true_eq, size_setD, hall, beq_iff_eq]
  constructor
  · rintro ⟨h1, h2⟩
    have := (pc_sub 10 h2).2 h1
    apply Nat.eq_of_testBit_eq
    intro i
    by_cases hi : i < 10
    · exact this i hi
    · have hp : 2 ^ 10 ≤ 2 ^ i := Nat.pow_le_pow_right (by decide) (by omega)
      rw [Nat.testBit_lt_two_pow (by omega), Nat.testBit_lt_two_pow (by omega)]
  · rintro rfl
    exact ⟨rfl, fun _ _ h => h⟩

theorem keys_setD (s : Nat) : intKeys (setD s) = bl s 10 := by simp [intKeys, setD, setL, bl, Go.intOf]

end Go.Proofs.Ytolkfgjgnpjpkaa
