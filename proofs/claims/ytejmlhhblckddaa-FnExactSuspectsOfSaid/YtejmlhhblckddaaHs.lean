/- Searches by halves: the pure part. -/
import Derived.Test.YtejmlhhblckddaaWl
import Derived.Test.YtejmlhhblckddaaSg
namespace Go.Proofs.Ytejmlhhblckddaa
open Go.ChangeShapes Go.WideShapes Go.ChangeAt Go.RowKit
set_option linter.unusedVariables false

/-- Among the first k names is this one. -/
def seen (ns' : List Int) (k : Nat) (x : Int) : Bool := (List.range k).any fun i => na ns' i == x

set_option maxRecDepth 20000 in
theorem l1Has_pos (b off cap : Nat) (l : List Int) (n : Nat) (x : Int) (w : World) (hn : n ≤ 1048576)
    (Hc : Hid (∀ i, i < n → w.cell? ⟨b, off + i, none⟩ = some (.int .i64 (na l i)))) :
    Calls Try.prog 49 #[.slice (some ⟨b, off, none⟩) n cap, .int .i64 x] w fun e w' => e = .returned (.bool (seen l n x)) ∧ w = w' := by
  go_enter Try.func49, Try.ntmps49
  go_wp2_with fail
  go_loop [9] (fun i => ∃ k : Nat, k ≤ n ∧ i = .int .i64 k ∧ Hid (∀ j, j < k → (na l j == x) = false)) (fun i => n - (intOf i).toNat)
  case atStart => exact ⟨0, Nat.zero_le _, rfl, fun j hj => absurd hj (by omega)⟩
  case round =>
    obtain ⟨k, hk, rfl, hno⟩ := hrel
    by_cases hlt : k < n
    · have h0 := Hc.out k hlt
      cases ht : (na l k == x)
      · have hno2 : Hid (∀ j, j < k + 1 → (na l j == x) = false) := by
          intro j hj
          by_cases hjk : j = k
          · subst hjk; exact ht
          · exact hno.out j (by omega)
        go_wp2_with fail
        go_round
        case rel => exact ⟨k + 1, by omega, by go_num, hno2⟩
        case measure => simp [intOf]; omega
      · have hyes : seen l n x = true := by
          unfold seen
          rw [List.any_eq_true]
          exact ⟨k, List.mem_range.2 hlt, ht⟩
        have Hyes := Lib.hid hyes
        clear hyes
        go_wp2_with fail
        go_ret
        exact ⟨ret_bool Hyes.out.symm, rfl⟩
    · obtain rfl : k = n := by omega
      have hnn : seen l k x = false := by
        unfold seen
        rw [List.any_eq_false]
        intro j hj
        simpa using hno.out j (List.mem_range.1 hj)
      have Hnn := Lib.hid hnn
      clear hnn
      go_wp2_with fail
      go_ret
      exact ⟨ret_bool Hnn.out.symm, rfl⟩

set_option maxRecDepth 20000 in
theorem l1Has_zero (ao : Option Addr) (cap : Nat) (x : Int) (w : World) :
    Calls Try.prog 49 #[.slice ao 0 cap, .int .i64 x] w fun e w' => e = .returned (.bool false) ∧ w = w' := by
  go_enter Try.func49, Try.ntmps49
  go_wp2_with fail
  go_rounds 1
  go_ret
  exact ⟨rfl, rfl⟩
/-- The wires from a to the one before b. -/
def iot (a b : Nat) : List Int := (List.range' a (b - a)).map fun (x : Nat) => (x : Int)
theorem iot_length (a b : Nat) : (iot a b).length = b - a := by simp [iot]
theorem iot_get (a b i : Nat) (h : i < b - a) : na (iot a b) i = ((a + i : Nat) : Int) := by
  simp [na, iot, List.getD_eq_getElem?_getD, h]
theorem iot_succ (a b : Nat) (h : a ≤ b) : iot a (b + 1) = iot a b ++ [(b : Int)] := by
  unfold iot
  rw [show b + 1 - a = (b - a) + 1 by omega, List.range'_1_concat, List.map_append]
  simp
  omega
/-- The halves that are tested, of the wires from lo to hi. -/
def hv (b : Int) : Nat → Nat → Nat → List (List Int)
  | 0, _, _ => []
  | k + 1, lo, hi => if 1 < hi - lo then iot lo (lo + (hi - lo) / 2) :: (if b < ((lo + (hi - lo) / 2 : Nat) : Int) then hv b k lo (lo + (hi - lo) / 2) else hv b k (lo + (hi - lo) / 2) hi) else []
theorem hv_len (b : Int) : ∀ k lo hi, (hv b k lo hi).length ≤ k
  | 0, _, _ => by simp [hv]
  | k + 1, lo, hi => by
    simp only [hv]
    split
    · have h1 := hv_len b k lo (lo + (hi - lo) / 2)
      have h2 := hv_len b k (lo + (hi - lo) / 2) hi
      split <;> simp <;> omega
    · simp
theorem hv_row (b : Int) (B : Nat) : ∀ k lo hi, hi - lo ≤ B → ∀ x, x ∈ hv b k lo hi → x.length ≤ B
  | 0, _, _ => fun _ x hx => by simp [hv] at hx
  | k + 1, lo, hi => fun hB x hx => by
    simp only [hv] at hx
    split at hx
    · rw [List.mem_cons] at hx
      rcases hx with rfl | hx
      · rw [iot_length]; omega
      · split at hx
        · exact hv_row b B k _ _ (by omega) x hx
        · exact hv_row b B k _ _ (by omega) x hx
    · simp at hx
theorem hv_stop (b : Int) (k lo hi : Nat) (h : ¬ 1 < hi - lo) : hv b k lo hi = [] := by
  cases k with
  | zero => rfl
  | succ k => simp only [hv]; rw [if_neg h]
theorem hv_low (b : Int) (k lo hi : Nat) (h : 1 < hi - lo) (hb : b < ((lo + (hi - lo) / 2 : Nat) : Int)) : hv b (k + 1) lo hi = iot lo (lo + (hi - lo) / 2) :: hv b k lo (lo + (hi - lo) / 2) := by
  simp only [hv]; rw [if_pos h, if_pos hb]
theorem hv_high (b : Int) (k lo hi : Nat) (h : 1 < hi - lo) (hb : ¬ b < ((lo + (hi - lo) / 2 : Nat) : Int)) : hv b (k + 1) lo hi = iot lo (lo + (hi - lo) / 2) :: hv b k (lo + (hi - lo) / 2) hi := by
  simp only [hv]; rw [if_pos h, if_neg hb]
def hsB (f b : Int) : Bool := wfB f && decide (-1 ≤ b ∧ b ≤ f - 1)
def hsF (f b : Int) : List (List Int) := iot 0 f.toNat :: (if b = -1 then [] else hv b f.toNat 0 f.toNat)
def hsR (f b : Int) : List (List Int) := if hsB f b then hsF f b else []
theorem hs_parts {f b : Int} (h : hsB f b = true) : (1 ≤ f ∧ f ≤ 10) ∧ -1 ≤ b ∧ b ≤ f - 1 := by
  simpa [hsB, wfB] using h
theorem hsR_length (f b : Int) : (hsR f b).length ≤ 1000 := by
  unfold hsR; split
  · rename_i h
    have := hs_parts h
    unfold hsF
    have h2 := hv_len b f.toNat 0 f.toNat
    rw [List.length_cons]
    split
    · simp
    · omega
  · simp
theorem row_mem {L : List (List Int)} {i : Nat} (h : i < L.length) : row L i ∈ L := by rw [← row_get h]; exact List.getElem_mem h
theorem hsR_row (f b : Int) (i : Nat) : (row (hsR f b) i).length ≤ 1000 := by
  by_cases hi : i < (hsR f b).length
  · have hm := row_mem hi
    revert hm
    unfold hsR
    split
    · rename_i h
      have h1 := hs_parts h
      obtain ⟨r, hr⟩ : ∃ r, row (hsF f b) i = r := ⟨_, rfl⟩
      rw [hr]
      intro hm
      unfold hsF at hm
      rw [List.mem_cons] at hm
      rcases hm with e | e
      · rw [e, iot_length]; omega
      · split at e
        · simp at e
        · exact Nat.le_trans (hv_row b 10 f.toNat 0 f.toNat (by omega) _ e) (by omega)
    · intro hm; simp at hm
  · rw [row_none (by omega)]; simp
theorem lx_full : ∀ n, n ≤ 10 → lx n n [] = [iot 0 n] := by decide +kernel
def slen : Value → Nat | .slice _ n _ => n | _ => 0
def difI : Value → Value → Nat | .int _ a, .int _ b => (b - a).toNat | _, _ => 0
theorem iot_seen (lo m : Nat) (b : Int) (hl : (lo : Int) ≤ b) : seen (iot lo m) (m - lo) b = decide (b < (m : Int)) := by
  unfold seen
  rw [Bool.eq_iff_iff, List.any_eq_true]
  simp only [List.mem_range, decide_eq_true_eq, beq_iff_eq]
  constructor
  · rintro ⟨i, hi, e⟩
    rw [iot_get lo m i hi] at e
    omega
  · intro h
    refine ⟨b.toNat - lo, by omega, ?_⟩
    rw [iot_get lo m _ (by omega)]; omega

end Go.Proofs.Ytejmlhhblckddaa
