/- Suspects: the pure part. -/
import Derived.Test.YtejmlhhblckddaaAs
import Derived.Test.YtejmlhhblckddaaHs
import Derived.Test.YtejmlhhblckddaaLi0
namespace Go.Proofs.Ytejmlhhblckddaa
open Go.ChangeShapes Go.WideShapes Go.ChangeAt Go.RowKit
set_option linter.unusedVariables false


theorem ask_zero (f : Int) (L : List (List Int)) (s : ByteArray) : askB f L s 0 = (wiB f L && arB L.length s) := by
  cases hg : wiB f L
  · simp [askB, hg]
  · have := (wi_parts hg).1
    have h : decide ((0 : Int) ≤ 0 ∧ 0 ≤ f) = true := by simp; omega
    simp only [askB, hg, h, arB, Bool.true_and]
def suB (f : Int) (L : List (List Int)) (s : ByteArray) : Bool := wiB f L && arB L.length s
/-- A wire is in a test with the result 0, among the first k. -/
def free (L : List (List Int)) (s : ByteArray) (k x : Nat) : Bool := (List.range k).any fun i => ((bt s).getD i 0 == 48) && seen (row L i) (row L i).length (x : Int)
theorem free_succ (L : List (List Int)) (s : ByteArray) (k x : Nat) : free L s (k + 1) x = (free L s k x || (((bt s).getD k 0 == 48) && seen (row L k) (row L k).length (x : Int))) := by
  simp [free, List.range_succ]
/-- The wires below k in no such test. -/
def spT (L : List (List Int)) (s : ByteArray) (n : Nat) : Nat → List Int | 0 => [] | k + 1 => if free L s n k then spT L s n k else spT L s n k ++ [(k : Int)]
theorem spT_len (L : List (List Int)) (s : ByteArray) (n k : Nat) : (spT L s n k).length ≤ k := by
  induction k with
  | zero => exact Nat.le_refl _
  | succ k ih =>
    simp only [spT]
    split
    · omega
    · simp; omega
def suR (f : Int) (L : List (List Int)) (s : ByteArray) : List Int := if suB f L s then spT L s L.length f.toNat else []
theorem suR_length (f : Int) (L : List (List Int)) (s : ByteArray) : (suR f L s).length ≤ 1000 := by
  unfold suR; split
  · rename_i h
    simp only [suB, Bool.and_eq_true] at h
    have := (wi_parts h.1).1
    have h2 := spT_len L s L.length f.toNat
    omega
  · simp
/-- The suspects behind the first k results, as bits. -/
def sm (n : Nat) (L : List (List Int)) (s : ByteArray) : Nat → Nat
  | 0 => bw (iot 0 n)
  | k + 1 => if (bt s).getD k 0 == 48 then clr (sm n L s k) (bw (row L k)) else sm n L s k
theorem bw_seen {f : Int} {l : List Int} (h : risB f l = true) (x : Nat) : (bw l).testBit x = seen l l.length (x : Int) := by
  unfold bw seen
  rw [bm_has, Bool.eq_iff_iff, List.any_eq_true, List.any_eq_true]
  constructor
  · rintro ⟨j, hj, e⟩
    refine ⟨j, hj, ?_⟩
    have := (up_parts (ris_at h (List.mem_range.1 hj))).1
    simp only [beq_iff_eq] at e ⊢
    omega
  · rintro ⟨j, hj, e⟩
    refine ⟨j, hj, ?_⟩
    simp only [beq_iff_eq] at e ⊢
    omega
theorem iot_ris (n : Nat) : risB (n : Int) (iot 0 n) = true := by
  refine ris_yes fun j hj => ?_
  rw [iot_length] at hj
  have e := iot_get 0 n j hj
  simp only [up, Bool.and_eq_true, decide_eq_true_eq, Bool.or_eq_true, beq_iff_eq]
  refine ⟨by rw [e]; omega, ?_⟩
  by_cases h0 : j = 0
  · exact .inl h0
  · right
    rw [e, iot_get 0 n (j - 1) (by omega)]; omega
theorem iot_bit (n x : Nat) : (bw (iot 0 n)).testBit x = decide (x < n) := by
  rw [bw_seen (iot_ris n), iot_length]
  have := iot_seen 0 n (x : Int) (by omega)
  rw [this, Bool.eq_iff_iff]; simp
theorem sm_lt {n : Nat} (hn : n ≤ 10) (L : List (List Int)) (s : ByteArray) : ∀ k, sm n L s k < 1024
  | 0 => bw_lt (by omega) (iot_ris n)
  | k + 1 => by
    simp only [sm]
    split
    · exact Nat.lt_of_le_of_lt (clr_le _ _) (sm_lt hn L s k)
    · exact sm_lt hn L s k
theorem sm_bit {n : Nat} (hn : n ≤ 10) {L : List (List Int)} (hg : wiB (n : Int) L = true) (s : ByteArray) (x : Nat) (hx : x < 10) : ∀ k, k ≤ L.length → (sm n L s k).testBit x = (decide (x < n) && !free L s k x)
  | 0, _ => by simp [sm, iot_bit, free]
  | k + 1, hk => by
    have ih := sm_bit hn hg s x hx k (by omega)
    have hr := (wi_row hg (i := k) (by omega)).1
    rw [free_succ]
    simp only [sm]
    cases hb : ((bt s).getD k 0 == 48)
    · simp only [Bool.false_eq_true, if_false, Bool.false_and, Bool.or_false]
      exact ih
    · simp only [if_true, Bool.true_and]
      rw [clr_bit _ _ _ (bw_lt (by omega) hr) (by omega), ih, bw_seen hr, Bool.not_or, Bool.and_assoc]
theorem sm_list {n : Nat} (hn : n ≤ 10) {L : List (List Int)} (hg : wiB (n : Int) L = true) (s : ByteArray) : lsT (sm n L s L.length) 10 = spT L s L.length n := by
  have h1 : ∀ k, k ≤ n → lsT (sm n L s L.length) k = spT L s L.length k := by
    intro k
    induction k with
    | zero => intro _; rfl
    | succ k ih =>
      intro hk
      have hb := sm_bit hn hg s k (by omega) L.length (Nat.le_refl _)
      have hd : decide (k < n) = true := by simp; omega
      rw [hd, Bool.true_and] at hb
      cases hf : free L s L.length k
      · rw [hf] at hb
        rw [lsT_yes hb, ih (by omega)]
        simp only [spT]; rw [if_neg (by rw [hf]; decide)]
      · rw [hf] at hb
        rw [lsT_no hb, ih (by omega)]
        simp only [spT]; rw [if_pos hf]
  have h2 : ∀ d, n + d ≤ 10 → lsT (sm n L s L.length) (n + d) = lsT (sm n L s L.length) n := by
    intro d
    induction d with
    | zero => intro _; rfl
    | succ d ih =>
      intro hd
      have hb := sm_bit hn hg s (n + d) (by omega) L.length (Nat.le_refl _)
      have hd2 : decide (n + d < n) = false := by simp
      rw [hd2, Bool.false_and] at hb
      rw [show n + (d + 1) = n + d + 1 by omega, lsT_no hb, ih (by omega)]
  have := h2 (10 - n) (by omega)
  rw [show n + (10 - n) = 10 by omega] at this
  rw [this, h1 n (Nat.le_refl _)]

end Go.Proofs.Ytejmlhhblckddaa
