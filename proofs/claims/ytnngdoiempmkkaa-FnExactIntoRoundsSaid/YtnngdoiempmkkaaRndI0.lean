/- Sets of friends in the program. -/
import Derived.Test.YtnngdoiempmkkaaCmp
import Derived.Test.YtnngdoiempmkkaaRowsI
namespace Go.Proofs.Ytnngdoiempmkkaa
open Go.ChangeShapes Go.WideShapes Go.ChangeAt Go.RowKit
set_option linter.unusedVariables false


/-- The friends of the first calls and those of a set, as bits. -/
def ubs (s : Nat) (l : List (Int × Int)) : Nat → Nat
  | 0 => s
  | k + 1 => ubs s l k ||| (2 ^ (ca l k).toNat ||| 2 ^ (cb l k).toNat)
theorem ubs_zero (l : List (Int × Int)) : ∀ k, ubs 0 l k = ub l k
  | 0 => rfl
  | k + 1 => by rw [ubs, ub, ubs_zero l k]
theorem ubs_lt (s : Nat) (hs : s < 1024) (l : List (Int × Int)) : ∀ k, (∀ i, i < k → 0 ≤ ca l i ∧ ca l i < 10 ∧ 0 ≤ cb l i ∧ cb l i < 10) → ubs s l k < 1024
  | 0, _ => hs
  | k + 1, h => by
    have ih := ubs_lt s hs l k (fun i hi => h i (by omega))
    have hk := h k (Nat.lt_succ_self k)
    have h1 := pow_small (ca l k).toNat (by omega)
    have h2 := pow_small (cb l k).toNat (by omega)
    exact Nat.or_lt_two_pow (n := 10) ih (Nat.or_lt_two_pow (n := 10) h1 h2)

theorem belowN {B : Nat} {w w' : World} (h : Below B w w') (n : Nat) : Below B w (w'.drewN n) := ⟨h.os, h.tape, h.output, h.size, h.block⟩

theorem has_any (n x : Nat) (w : World) (hn : n < 1024) (hx : x < 10) :
    Calls Try.prog 54 #[.int .u16 n, .int .i64 x] w fun e w' => e = .returned (.bool (n.testBit x)) ∧ w = w' := by
  have HT := Lib.hid (has_test n x hn hx)
  go_enter Try.func54, Try.ntmps54
  go_wp2
  go_ret
  exact ⟨ret_bool HT.out, rfl⟩

theorem hasOneOf_any (n a b : Nat) (w : World) (hn : n < 1024) (ha : a < 10) (hb : b < 10) :
    Calls Try.prog 44 #[.int .u16 n, .agg #[.int .i64 a, .int .i64 b]] w fun e w' => e = .returned (.bool (n.testBit a || n.testBit b)) ∧ Below w.heap.size w w' := by
  cases ht : n.testBit a
  · rw [Bool.false_or]
    have Ht := Lib.hid ht
    clear ht
    go_enter Try.func44, Try.ntmps44
    go_wp2_with fail
    refine (has_any n a _ hn ha).mono ?_
    rintro e w' ⟨rfl, rfl⟩
    rw [Ht.out]
    go_wp2_with fail
    refine (has_any n b _ hn hb).mono ?_
    rintro e w' ⟨rfl, rfl⟩
    go_wp2_with fail
    go_ret
    exact ⟨rfl, by go_grown⟩
  · rw [Bool.true_or]
    have Ht := Lib.hid ht
    clear ht
    go_enter Try.func44, Try.ntmps44
    go_wp2_with fail
    refine (has_any n a _ hn ha).mono ?_
    rintro e w' ⟨rfl, rfl⟩
    rw [Ht.out]
    go_wp2_with fail
    go_ret
    exact ⟨rfl, by go_grown⟩

theorem with_zero (s : Nat) (ao : Option Addr) (cap : Nat) (w : World) :
    Calls Try.prog 43 #[.int .u16 s, .slice ao 0 cap] w fun e w' => e = .returned (.int .u16 s) ∧ Below w.heap.size w w' := by
  go_enter Try.func43, Try.ntmps43
  go_wp2_with fail
  go_rounds 1
  go_ret
  exact ⟨rfl, Below.refl _ _⟩

set_option maxRecDepth 20000 in
theorem with_pos (s b off cap : Nat) (l : List (Int × Int)) (n : Nat) (w : World) (hs : s < 1024) (hn : n ≤ 1048576) (Hr : Hid (∀ i, i < n → 0 ≤ ca l i ∧ ca l i < 10 ∧ 0 ≤ cb l i ∧ cb l i < 10))
    (Hc : Hid (∀ i, i < n → w.cell? ⟨b, off + i * 2, none⟩ = some (.int .i64 (ca l i)) ∧ w.cell? ⟨b, off + i * 2 + 1, none⟩ = some (.int .i64 (cb l i)))) :
    Calls Try.prog 43 #[.int .u16 s, .slice (some ⟨b, off, none⟩) n cap] w fun e w' => e = .returned (.int .u16 (ubs s l n)) ∧ Below w.heap.size w w' := by
  go_enter Try.func43, Try.ntmps43
  go_wp2_with fail
  go_loopw [0, 9] (fun v i wr => ∃ k : Nat, k ≤ n ∧ i = .int .i64 k ∧ v = .int .u16 (ubs s l k) ∧ Below w.heap.size w wr) (fun _ i _ => n - (intOf i).toNat)
  case atStart => exact ⟨0, Nat.zero_le _, rfl, rfl, Below.refl _ _⟩
  case round =>
    obtain ⟨k, hk, rfl, rfl, hbel⟩ := hrel
    by_cases hlt : k < n
    · have hr := Hr.out k hlt
      obtain ⟨x, hx⟩ := Int.eq_ofNat_of_zero_le hr.1
      obtain ⟨y, hy⟩ := Int.eq_ofNat_of_zero_le hr.2.2.1
      have hx10 : x < 10 := by omega
      have hy10 : y < 10 := by omega
      have h0 := hbel.cell (p := ⟨b, off + k * 2, none⟩) (World.block_lt_of_cell? w _ (Hc.out k hlt).1)
      have h1 := hbel.cell (p := ⟨b, off + k * 2 + 1, none⟩) (World.block_lt_of_cell? w _ (Hc.out k hlt).2)
      rw [(Hc.out k hlt).1, hx] at h0
      rw [(Hc.out k hlt).2, hy] at h1
      have hu := ubs_lt s hs l k (fun i hi => Hr.out i (by omega))
      have Hsucc : Hid (ubs s l (k + 1) = ubs s l k ||| (2 ^ x ||| 2 ^ y)) := by show ubs s l k ||| _ = _; rw [hx, hy]; rfl
      have Hw1 := Lib.hid (wrap_pow x hx10)
      have Hw2 := Lib.hid (wrap_pow y hy10)
      have Hor1 := Lib.hid (bits_or_nat (2 ^ x) (2 ^ y) (pow_small x hx10) (pow_small y hy10))
      have Hor2 := Lib.hid (bits_or_nat (ubs s l k) (2 ^ x ||| 2 ^ y) hu (Nat.or_lt_two_pow (n := 10) (pow_small x hx10) (pow_small y hy10)))
      have hs1 := hbel.size
      have hb3 : Below w.heap.size w (wr.alloc (Obj.cells #[Value.int IntKind.i64 x, Value.int IntKind.i64 y] 46)) := hbel.alloc hs1 _
      clear hx hy hr
      go_wp2_with fail
      go_quiet (fail)
      go_wp2_with fail
      go_roundw
      case rel => exact ⟨k + 1, by omega, by go_num, by rw [Hw1.out, Hw2.out, Hor1.out, Hor2.out, Hsucc.out], belowN hb3 _⟩
      case measure => simp [intOf]; omega
    · obtain rfl : k = n := by omega
      go_wp2_with fail
      go_ret
      exact ⟨rfl, hbel⟩

theorem with_any (s : Nat) (ao : Option Addr) (cap : Nat) (l : List (Int × Int)) (n : Nat) (w : World) (hs : s < 1024) (hn : n ≤ 1048576) (hnl : n ≤ l.length) (hr : ∀ i, i < n → 0 ≤ ca l i ∧ ca l i < 10 ∧ 0 ≤ cb l i ∧ cb l i < 10) (Hc : CallsAt w ao l) :
    Calls Try.prog 43 #[.int .u16 s, .slice ao n cap] w fun e w' => e = .returned (.int .u16 (ubs s l n)) ∧ Below w.heap.size w w' := by
  by_cases h0 : n = 0
  · subst h0
    exact with_zero s ao cap w
  · rcases Hc with h | ⟨b, off, rfl, hc⟩
    · subst h; simp at hnl; omega
    · exact with_pos s b off cap l n w hs hn hr (fun i hi => hc i (by omega))

theorem cmC_less (l : List (Int × Int)) (k : Nat) : decide (0 ≤ cmC (ca l (k - 1), cb l (k - 1)) (ca l k, cb l k)) = !lessB l k := by
  rw [Bool.eq_iff_iff]
  simp only [lessB, decide_eq_true_eq, Bool.not_eq_true', decide_eq_false_iff_not, cmC, cmI]
  split <;> (try split at *) <;> (try split) <;> (try split at *) <;> omega

end Go.Proofs.Ytnngdoiempmkkaa
