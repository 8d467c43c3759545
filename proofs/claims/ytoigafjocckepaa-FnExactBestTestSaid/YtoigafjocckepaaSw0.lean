/- Sure wires: the pure part. -/
import Derived.Test.YtoigafjocckepaaFs
import Derived.Test.YtoigafjocckepaaCm
namespace Go.Proofs.Ytoigafjocckepaa
open Go.ChangeShapes Go.WideShapes Go.ChangeAt Go.RowKit
set_option linter.unusedVariables false

/-- Among the first k names is this one. -/
def seen (ns' : List Int) (k : Nat) (x : Int) : Bool := (List.range k).any fun i => na ns' i == x

set_option maxRecDepth 20000 in
theorem l1Has_pos (b off cap : Nat) (l : List Int) (n : Nat) (x : Int) (w : World) (hn : n ≤ 1048576)
    (Hc : Hid (∀ i, i < n → w.cell? ⟨b, off + i, none⟩ = some (.int .i64 (na l i)))) :
    Calls Try.prog 47 #[.slice (some ⟨b, off, none⟩) n cap, .int .i64 x] w fun e w' => e = .returned (.bool (seen l n x)) ∧ w = w' := by
  go_enter Try.func47, Try.ntmps47
  go_wp2_with fail
  go_loop [9] (fun i => ∃ k : Nat, k ≤ n ∧ i = .int .i64 k ∧ Hid (∀ j, j < k → (na l j == x) = false)) (fun i => n - (intOf i).toNat)
  case atStart => exact ⟨0, Nat.zero_le _, rfl, fun j hj => absurd hj (by omega)⟩
  case round =>
    obtain ⟨k, hk, rfl, hno⟩ := hrel
    by_cases hlt : k < n
    · have h0 := Hc.out k hlt
      cases ht : (na l k == x)
      · have hno2 : Hid (∀ j, j < k + 1 → (na l j == x) = false) := by
          intro j hj
          by_cases hjk : j = k
          · subst hjk; exact ht
          · exact hno.out j (by omega)
        go_wp2_with fail
        go_round
        case rel => exact ⟨k + 1, by omega, by go_num, hno2⟩
        case measure => simp [intOf]; omega
      · have hyes : seen l n x = true := by
          unfold seen
          rw [List.any_eq_true]
          exact ⟨k, List.mem_range.2 hlt, ht⟩
        have Hyes := Lib.hid hyes
        clear hyes
        go_wp2_with fail
        go_ret
        exact ⟨ret_bool Hyes.out.symm, rfl⟩
    · obtain rfl : k = n := by omega
      have hnn : seen l k x = false := by
        unfold seen
        rw [List.any_eq_false]
        intro j hj
        simpa using hno.out j (List.mem_range.1 hj)
      have Hnn := Lib.hid hnn
      clear hnn
      go_wp2_with fail
      go_ret
      exact ⟨ret_bool Hnn.out.symm, rfl⟩

set_option maxRecDepth 20000 in
theorem l1Has_zero (ao : Option Addr) (cap : Nat) (x : Int) (w : World) :
    Calls Try.prog 47 #[.slice ao 0 cap, .int .i64 x] w fun e w' => e = .returned (.bool false) ∧ w = w' := by
  go_enter Try.func47, Try.ntmps47
  go_wp2_with fail
  go_rounds 1
  go_ret
  exact ⟨rfl, rfl⟩
/-- How many of the lists have a wire. -/
def hc (K : List (List Int)) (x : Nat) : Nat → Nat | 0 => 0 | k + 1 => hc K x k + (if seen (row K k) (row K k).length (x : Int) then 1 else 0)
theorem hc_le (K : List (List Int)) (x k : Nat) : hc K x k ≤ k := by
  induction k with
  | zero => exact Nat.le_refl _
  | succ k ih => simp only [hc]; split <;> omega
theorem bw_seen {f : Int} {l : List Int} (h : risB f l = true) (x : Nat) : (bw l).testBit x = seen l l.length (x : Int) := by
  unfold bw seen
  rw [bm_has, Bool.eq_iff_iff, List.any_eq_true, List.any_eq_true]
  constructor
  · rintro ⟨j, hj, e⟩
    refine ⟨j, hj, ?_⟩
    have := (up_parts (ris_at h (List.mem_range.1 hj))).1
    simp only [beq_iff_eq] at e ⊢
    omega
  · rintro ⟨j, hj, e⟩
    refine ⟨j, hj, ?_⟩
    simp only [beq_iff_eq] at e ⊢
    omega
theorem and_pow2 (n x : Nat) : mtB n (2 ^ x) = n.testBit x := by
  have e : n &&& 2 ^ x = if n.testBit x then 2 ^ x else 0 := by
    apply Nat.eq_of_testBit_eq
    intro i
    rw [Nat.testBit_and, Nat.testBit_two_pow]
    by_cases h : x = i
    · subst h
      cases hb : n.testBit x <;> simp [Nat.testBit_two_pow_self]
    · cases hb : n.testBit x <;> simp [h]
  unfold mtB
  rw [e]
  have := Nat.two_pow_pos x
  cases n.testBit x
  · rfl
  · simp only [if_true]; rw [bne_iff_ne]; omega
theorem cm_hc {f : Int} (K : List (List Int)) (hK : ∀ x, x ∈ K → risB f x = true) (x : Nat) : ∀ k, k ≤ K.length → cm (K.map bw) (2 ^ x) k = hc K x k
  | 0, _ => rfl
  | k + 1, hk => by
    have e : wa (K.map bw) k = bw (row K k) := by simp [wa, row, List.getD_eq_getElem?_getD, (by omega : k < K.length)]
    have hr : risB f (row K k) = true := by rw [← row_get (by omega : k < K.length)]; exact hK _ (List.getElem_mem _)
    simp only [cm, hc]
    rw [cm_hc K hK x k (by omega), e, and_pow2, bw_seen hr]
/-- The sign of a wire. -/
def sgU (N c : Nat) : UInt8 := if c = 0 then 111 else if c = N then 120 else 63
def swU (K : List (List Int)) (k : Nat) : List UInt8 := (List.range k).map fun x => sgU K.length (hc K x K.length)
theorem swU_succ (K : List (List Int)) (k : Nat) : swU K (k + 1) = swU K k ++ [sgU K.length (hc K k K.length)] := by simp [swU, List.range_succ]
theorem swU_len (K : List (List Int)) (k : Nat) : (swU K k).length = k := by simp [swU]
def swT (K : List (List Int)) (k : Nat) : ByteArray := ⟨(swU K k).toArray⟩
theorem swT_size (K : List (List Int)) (k : Nat) : (swT K k).size = k := by
  show (swU K k).toArray.size = k
  rw [List.size_toArray, swU_len]
theorem swT_succ (K : List (List Int)) (k : Nat) : swT K (k + 1) = swT K k ++ ⟨#[sgU K.length (hc K k K.length)]⟩ := by
  unfold swT
  rw [swU_succ]
  apply ByteArray.ext
  apply Array.toList_inj.1
  simp [ByteArray.data_append]
def swB (f : Int) (L : List (List Int)) (s : ByteArray) (m : Int) : Bool := askB f L s m && !((ftR f L s m).length == 0)
def swR (f : Int) (L : List (List Int)) (s : ByteArray) (m : Int) : ByteArray := if swB f L s m then swT (fitL L s f.toNat m.toNat) f.toNat else ⟨#[]⟩

end Go.Proofs.Ytoigafjocckepaa
