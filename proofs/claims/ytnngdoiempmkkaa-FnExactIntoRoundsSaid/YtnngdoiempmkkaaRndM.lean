/- What a round is: calls that grow and share no friend; and the arithmetic of sets of friends as bits. -/
import Derived.Test.YtnngdoiempmkkaaGood
namespace Go.Proofs.Ytnngdoiempmkkaa
open Go.ChangeShapes Go.WideShapes Go.ChangeAt Go.RowKit


theorem wrap_pow : ∀ k : Nat, k < 10 → IntKind.u16.wrap ((2 : Int) ^ k) = ((2 ^ k : Nat) : Int) := by decide
theorem wrap_pow64 : ∀ k : Nat, k < 11 → wrap64 ((2 : Int) ^ k) = ((2 ^ k : Nat) : Int) := by unfold wrap64; decide
theorem pow_small : ∀ k : Nat, k < 10 → 2 ^ k < 1024 := by decide

/-- The friends of the first calls, as bits. -/
def ub (l : List (Int × Int)) : Nat → Nat
  | 0 => 0
  | k + 1 => ub l k ||| (2 ^ (ca l k).toNat ||| 2 ^ (cb l k).toNat)
/-- This call comes behind the one before it. -/
def lessB (l : List (Int × Int)) (k : Nat) : Bool := decide (ca l (k - 1) < ca l k ∨ ca l (k - 1) = ca l k ∧ cb l (k - 1) < cb l k)
/-- No friend of this call is in one before it. -/
def apart (l : List (Int × Int)) (k : Nat) : Bool := !(ub l k).testBit (ca l k).toNat && !(ub l k).testBit (cb l k).toNat
def rok (f : Int) (l : List (Int × Int)) (k : Nat) : Bool := calB f (ca l k) (cb l k) && (apart l k && (k == 0 || lessB l k))
/-- This is a round of so many friends. -/
def rndB (f : Int) (l : List (Int × Int)) : Bool := (List.range l.length).all (rok f l)
/-- These are rounds of so many friends. -/
def rndsB (f : Int) (L : List (List (Int × Int))) : Bool := frB f && (decide (L.length ≤ 20) && L.all (rndB f))

theorem rok_parts {f : Int} {l : List (Int × Int)} {k : Nat} (h : rok f l k = true) : (0 ≤ ca l k ∧ ca l k < cb l k ∧ cb l k < f) ∧ (ub l k).testBit (ca l k).toNat = false ∧ (ub l k).testBit (cb l k).toNat = false ∧ (0 < k → lessB l k = true) := by
  simp only [rok, calB, apart, Bool.and_eq_true, decide_eq_true_eq, Bool.not_eq_true', Bool.or_eq_true, beq_iff_eq] at h
  exact ⟨h.1, h.2.1.1, h.2.1.2, fun h0 => by rcases h.2.2 with h1 | h1; omega; exact h1⟩

theorem ub_lt (l : List (Int × Int)) {f : Int} (hf : f ≤ 10) : ∀ k, (∀ i, i < k → calB f (ca l i) (cb l i) = true) → ub l k < 1024
  | 0, _ => by simp [ub]
  | k + 1, h => by
    have ih := ub_lt l hf k (fun i hi => h i (by omega))
    have hk := h k (Nat.lt_succ_self k)
    simp only [calB, decide_eq_true_eq] at hk
    have h1 := pow_small (ca l k).toNat (by omega)
    have h2 := pow_small (cb l k).toNat (by omega)
    exact Nat.or_lt_two_pow (n := 10) ih (Nat.or_lt_two_pow (n := 10) h1 h2)

theorem ub_has (l : List (Int × Int)) (k : Nat) : (ub l (k + 1)).testBit (ca l k).toNat = true := by
  simp [ub, Nat.testBit_or, Nat.testBit_two_pow_self]

/-- In a round the lesser friends grow from call to call. -/
theorem rok_grow {f : Int} {l : List (Int × Int)} {k : Nat} (h1 : rok f l k = true) (h2 : rok f l (k + 1) = true) : ca l k < ca l (k + 1) := by
  have p1 := rok_parts h1
  have p2 := rok_parts h2
  have hl := p2.2.2.2 (by omega)
  simp only [lessB, decide_eq_true_eq, Nat.add_sub_cancel] at hl
  rcases hl with hl | hl
  · exact hl
  · have e := ub_has l k
    rw [hl.1] at e
    rw [p2.2.1] at e
    cases e

theorem rok_ge {f : Int} {l : List (Int × Int)} : ∀ k, (∀ i, i ≤ k → rok f l i = true) → (k : Int) ≤ ca l k
  | 0, h => (rok_parts (h 0 (Nat.le_refl _))).1.1
  | k + 1, h => by
    have ih := rok_ge k (fun i hi => h i (by omega))
    have := rok_grow (h k (by omega)) (h (k + 1) (Nat.le_refl _))
    omega

theorem rnd_len {f : Int} {l : List (Int × Int)} (hf : f ≤ 10) (h : rndB f l = true) : l.length ≤ 10 := by
  simp only [rndB, List.all_eq_true, List.mem_range] at h
  by_cases h0 : l.length = 0
  · omega
  · have h1 := rok_ge (l.length - 1) (fun i hi => h i (by omega))
    have h2 := (rok_parts (h (l.length - 1) (by omega))).1
    omega

/-- What the program asks of a round. -/
def incB (l : List (Int × Int)) : Bool := (List.range (l.length - 1)).all fun k => lessB l (k + 1)
def apB (l : List (Int × Int)) : Bool := (List.range l.length).all (apart l)

theorem rnd_eq {f : Int} {l : List (Int × Int)} (hf : frB f = true) : (gdB f l && (incB l && apB l)) = rndB f l := by
  have hff : 1 ≤ f ∧ f ≤ 10 := by simpa [frB] using hf
  rw [Bool.eq_iff_iff]
  constructor
  · intro h
    simp only [gdB, incB, apB, Bool.and_eq_true, List.all_eq_true, List.mem_range, decide_eq_true_eq] at h
    simp only [rndB, List.all_eq_true, List.mem_range, rok, Bool.and_eq_true]
    intro k hk
    refine ⟨?_, h.2.2 k hk, ?_⟩
    · have := h.1.2 l[k] (List.getElem_mem hk)
      rw [ca_cb l k hk] at this
      exact this
    · cases k with
      | zero => simp
      | succ k => simp [h.2.1 k (by omega)]
  · intro h
    have hlen := rnd_len hff.2 h
    simp only [rndB, List.all_eq_true, List.mem_range] at h
    simp only [gdB, incB, apB, Bool.and_eq_true, List.all_eq_true, List.mem_range, decide_eq_true_eq]
    refine ⟨⟨⟨hf, by omega⟩, fun c hc => ?_⟩, fun k hk => ?_, fun k hk => ?_⟩
    · obtain ⟨i, hi, rfl⟩ := List.getElem_of_mem hc
      rw [ca_cb l i hi]
      simp only [calB, decide_eq_true_eq]
      exact (rok_parts (h i hi)).1
    · exact (rok_parts (h (k + 1) (by omega))).2.2.2 (by omega)
    · have := rok_parts (h k hk)
      simp [apart, this.2.1, this.2.2.1]

theorem and_one (y : Nat) (hy : y < 1024) : bits BinOp.and IntKind.i64 (y : Int) 1 = ((y % 2 : Nat) : Int) := by
  have hx2 : y &&& 1 < 2 ^ 10 := Nat.and_lt_two_pow (n := 10) _ (by decide)
  have h1 : (BitVec.ofInt 64 (y : Int)).toNat = y := by
    rw [BitVec.ofInt_natCast, BitVec.toNat_ofNat]; exact Nat.mod_eq_of_lt (by omega)
  have h2 : (BitVec.ofInt 64 (1 : Int)).toNat = 1 := rfl
  show IntKind.i64.wrap ((BitVec.ofInt 64 (y : Int) &&& BitVec.ofInt 64 (1 : Int)).toNat : Int) = _
  rw [BitVec.toNat_and, h1, h2, IntKind.wrap_i64, Nat.and_one_is_mod]
  omega

/-- The model's test of a digit. -/
theorem digit_test (x k : Nat) (hx : x < 1024) : (bits BinOp.and IntKind.i64 ((x : Int) / 2 ^ k) 1 == 1) = x.testBit k := by
  have e : (x : Int) / 2 ^ k = ((x / 2 ^ k : Nat) : Int) := by simp
  have hlt : x / 2 ^ k < 1024 := Nat.lt_of_le_of_lt (Nat.div_le_self _ _) hx
  rw [e, and_one _ hlt, Nat.testBit_eq_decide_div_mod_eq]
  rw [Bool.eq_iff_iff]
  simp
  omega

theorem bits_or_nat (x y : Nat) (hx : x < 1024) (hy : y < 1024) : bits BinOp.or IntKind.u16 x y = ((x ||| y : Nat) : Int) := by
  have hx2 : x ||| y < 2 ^ 10 := Nat.or_lt_two_pow (n := 10) hx hy
  have h1 : (BitVec.ofInt 16 (x : Int)).toNat = x := by
    rw [BitVec.ofInt_natCast, BitVec.toNat_ofNat]; exact Nat.mod_eq_of_lt (by omega)
  have h2 : (BitVec.ofInt 16 (y : Int)).toNat = y := by
    rw [BitVec.ofInt_natCast, BitVec.toNat_ofNat]; exact Nat.mod_eq_of_lt (by omega)
  show IntKind.u16.wrap ((BitVec.ofInt 16 (x : Int) ||| BitVec.ofInt 16 (y : Int)).toNat : Int) = _
  rw [BitVec.toNat_or, h1, h2, IntKind.wrap_u16]
  omega

theorem bits_and_nat (x y : Nat) (hx : x < 1024) (hy : y < 1024) : bits BinOp.and IntKind.u16 x y = ((x &&& y : Nat) : Int) := by
  have hx2 : x &&& y < 2 ^ 10 := Nat.and_lt_two_pow (n := 10) _ hy
  have h1 : (BitVec.ofInt 16 (x : Int)).toNat = x := by
    rw [BitVec.ofInt_natCast, BitVec.toNat_ofNat]; exact Nat.mod_eq_of_lt (by omega)
  have h2 : (BitVec.ofInt 16 (y : Int)).toNat = y := by
    rw [BitVec.ofInt_natCast, BitVec.toNat_ofNat]; exact Nat.mod_eq_of_lt (by omega)
  show IntKind.u16.wrap ((BitVec.ofInt 16 (x : Int) &&& BitVec.ofInt 16 (y : Int)).toNat : Int) = _
  rw [BitVec.toNat_and, h1, h2, IntKind.wrap_u16]
  omega

theorem and_pow (n x : Nat) : n &&& 2 ^ x = if n.testBit x then 2 ^ x else 0 := by
  apply Nat.eq_of_testBit_eq
  intro i
  rw [Nat.testBit_and, Nat.testBit_two_pow]
  by_cases h : x = i
  · subst h
    cases hb : n.testBit x <;> simp [Nat.testBit_two_pow_self]
  · cases hb : n.testBit x <;> simp [h]

theorem bits_or_int (x y : Nat) (hx : x < 1024) (hy : y < 1024) : bits BinOp.or IntKind.i64 x y = ((x ||| y : Nat) : Int) := by
  have hx2 : x ||| y < 2 ^ 10 := Nat.or_lt_two_pow (n := 10) hx hy
  have h1 : (BitVec.ofInt 64 (x : Int)).toNat = x := by
    rw [BitVec.ofInt_natCast, BitVec.toNat_ofNat]; exact Nat.mod_eq_of_lt (by omega)
  have h2 : (BitVec.ofInt 64 (y : Int)).toNat = y := by
    rw [BitVec.ofInt_natCast, BitVec.toNat_ofNat]; exact Nat.mod_eq_of_lt (by omega)
  show IntKind.i64.wrap ((BitVec.ofInt 64 (x : Int) ||| BitVec.ofInt 64 (y : Int)).toNat : Int) = _
  rw [BitVec.toNat_or, h1, h2, IntKind.wrap_i64]
  omega


theorem wrap_pow16 : ∀ k : Nat, k < 10 → IntKind.u16.wrap ((2 : Int) ^ k) = ((2 ^ k : Nat) : Int) := wrap_pow

theorem has_test (n x : Nat) (hn : n < 1024) (hx : x < 10) : (bits BinOp.and IntKind.u16 (n : Int) (IntKind.u16.wrap (2 ^ x)) != 0) = n.testBit x := by
  rw [wrap_pow16 x hx, bits_and_nat n (2 ^ x) hn (pow_small x hx), and_pow]
  have hp : 0 < 2 ^ x := Nat.two_pow_pos x
  cases n.testBit x
  · simp
  · simp only [if_true]; rw [bne_iff_ne]; omega

end Go.Proofs.Ytnngdoiempmkkaa
