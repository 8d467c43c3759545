/- Sizes of groups: what they are; the model. -/
import Derived.Test.YtcedacneagpjcaaPt
namespace Go.Proofs.Ytcedacneagpjcaa
open Go.ChangeShapes Go.WideShapes Go.ChangeAt Go.RowKit
set_option linter.unusedVariables false



def sumZ (l : List Int) : Nat → Int | 0 => 0 | k + 1 => sumZ l k + na l k

/-- The first k sizes are at least 1, and together no more than so many. -/
def kW (W : Int) (l : List Int) (k : Nat) : Bool := (List.range k).all fun i => decide (1 ≤ na l i ∧ sumZ l (i + 1) ≤ W)

/-- None of the first k is greater than the one before. -/
def dnTo (l : List Int) (k : Nat) : Bool := (List.range k).all fun i => decide (i = 0 ∨ na l i ≤ na l (i - 1))

/-- Sizes of groups. -/
def ksB (l : List Int) : Bool := decide (0 < l.length) && (kW 12 l l.length && dnTo l l.length)

theorem kW_at {W : Int} {l : List Int} {k : Nat} (h : kW W l k = true) {i : Nat} (hi : i < k) : 1 ≤ na l i ∧ sumZ l (i + 1) ≤ W := by
  unfold kW at h
  rw [List.all_eq_true] at h
  simpa using h i (List.mem_range.2 hi)

theorem kW_yes {W : Int} {l : List Int} {k : Nat} (h : ∀ i, i < k → 1 ≤ na l i ∧ sumZ l (i + 1) ≤ W) : kW W l k = true := by
  unfold kW
  rw [List.all_eq_true]
  intro i hi
  simpa using h i (List.mem_range.1 hi)

theorem kW_no {W : Int} {l : List Int} {k i : Nat} (hi : i < k) (h : ¬ (1 ≤ na l i ∧ sumZ l (i + 1) ≤ W)) : kW W l k = false := by
  cases hk : kW W l k
  · rfl
  · exact absurd (kW_at hk hi) h

theorem sum_ge {l : List Int} : ∀ k, (∀ i, i < k → 1 ≤ na l i) → (k : Int) ≤ sumZ l k
  | 0, _ => by simp [sumZ]
  | k + 1, h => by
    have h1 := sum_ge k (fun i hi => h i (by omega))
    have h2 := h k (by omega)
    simp only [sumZ]; omega

theorem sum_mono {l : List Int} (i : Nat) : ∀ k, i ≤ k → (∀ j, j < k → 1 ≤ na l j) → sumZ l i ≤ sumZ l k
  | 0, h, _ => by obtain rfl : i = 0 := by omega
                  exact Int.le_refl _
  | k + 1, h, hp => by
    by_cases he : i = k + 1
    · subst he; exact Int.le_refl _
    · have h1 := sum_mono i k (by omega) (fun j hj => hp j (by omega))
      have h2 := hp k (by omega)
      simp only [sumZ]; omega

theorem dn_yes {l : List Int} {k : Nat} (h : ∀ i, i < k → i = 0 ∨ na l i ≤ na l (i - 1)) : dnTo l k = true := by
  unfold dnTo
  rw [List.all_eq_true]
  intro i hi
  simpa using h i (List.mem_range.1 hi)

theorem dn_no {l : List Int} {k i : Nat} (hi : i < k) (h : ¬ (i = 0 ∨ na l i ≤ na l (i - 1))) : dnTo l k = false := by
  unfold dnTo
  rw [List.all_eq_false]
  exact ⟨i, List.mem_range.2 hi, by simpa using h⟩

theorem dn_at {l : List Int} {k : Nat} (h : dnTo l k = true) {i : Nat} (hi : i < k) : i = 0 ∨ na l i ≤ na l (i - 1) := by
  unfold dnTo at h
  rw [List.all_eq_true] at h
  simpa using h i (List.mem_range.2 hi)

theorem ksB_len {l : List Int} (h : ksB l = true) : 0 < l.length ∧ l.length ≤ 12 ∧ (∀ i, i < l.length → 1 ≤ na l i) ∧ sumZ l l.length ≤ 12 := by
  simp only [ksB, Bool.and_eq_true, decide_eq_true_eq] at h
  have hp : ∀ i, i < l.length → 1 ≤ na l i := fun i hi => (kW_at h.2.1 hi).1
  have h1 := sum_ge l.length hp
  have h2 := (kW_at h.2.1 (i := l.length - 1) (by omega)).2
  rw [show l.length - 1 + 1 = l.length by omega] at h2
  exact ⟨h.1, by omega, hp, h2⟩
/-- Each of the first k lies within bounds. -/
def inTo (lo hi : Int) (l : List Int) (k : Nat) : Bool := (List.range k).all fun i => decide (lo ≤ na l i ∧ na l i ≤ hi)

set_option maxRecDepth 20000 in
theorem l1All_pos (b off cap : Nat) (l : List Int) (n : Nat) (lo hi : Int) (w : World) (hn : n ≤ 1048576)
    (Hc : Hid (∀ i, i < n → w.cell? ⟨b, off + i, none⟩ = some (.int .i64 (na l i)))) :
    Calls Try.prog 71 #[.slice (some ⟨b, off, none⟩) n cap, .int .i64 lo, .int .i64 hi] w fun e w' => e = .returned (.bool (inTo lo hi l n)) ∧ w = w' := by
  go_enter Try.func71, Try.ntmps71
  go_wp2_with fail
  go_loop [11] (fun i => ∃ k : Nat, k ≤ n ∧ i = .int .i64 k ∧ Hid (∀ j, j < k → decide (lo ≤ na l j ∧ na l j ≤ hi) = true)) (fun i => n - (intOf i).toNat)
  case atStart => exact ⟨0, Nat.zero_le _, rfl, fun j hj => absurd hj (by omega)⟩
  case round =>
    obtain ⟨k, hk, rfl, hall⟩ := hrel
    by_cases hlt : k < n
    · have h0 := Hc.out k hlt
      go_wp2_with fail
      refine (l1In_any (na l k) lo hi w).mono ?_
      rintro e w' ⟨rfl, rfl⟩
      cases ht : decide (lo ≤ na l k ∧ na l k ≤ hi)
      · have hno : inTo lo hi l n = false := by
          unfold inTo
          rw [List.all_eq_false]
          exact ⟨k, List.mem_range.2 hlt, by simp [ht]⟩
        have Hno := Lib.hid hno
        clear hno ht
        go_wp2_with fail
        go_ret
        exact ⟨ret_bool Hno.out.symm, rfl⟩
      · have hall2 : Hid (∀ j, j < k + 1 → decide (lo ≤ na l j ∧ na l j ≤ hi) = true) := by
          intro j hj
          by_cases hjk : j = k
          · subst hjk; exact ht
          · exact hall.out j (by omega)
        clear ht
        go_wp2_with fail
        go_round
        case rel => exact ⟨k + 1, by omega, by go_num, hall2⟩
        case measure => simp [intOf]; omega
    · obtain rfl : k = n := by omega
      have hyes : inTo lo hi l k = true := by
        unfold inTo
        rw [List.all_eq_true]
        exact fun j hj => hall.out j (List.mem_range.1 hj)
      have Hyes := Lib.hid hyes
      clear hyes
      go_wp2_with fail
      go_ret
      exact ⟨ret_bool Hyes.out.symm, rfl⟩
theorem inTo_at {lo hi : Int} {l : List Int} {k : Nat} (h : inTo lo hi l k = true) {i : Nat} (hi' : i < k) : lo ≤ na l i ∧ na l i ≤ hi := by
  unfold inTo at h
  rw [List.all_eq_true] at h
  simpa using h i (List.mem_range.2 hi')

theorem inTo_no {lo hi : Int} {l : List Int} {k : Nat} (h : inTo lo hi l k = false) : ∃ i, i < k ∧ ¬ (lo ≤ na l i ∧ na l i ≤ hi) := by
  unfold inTo at h
  rw [List.all_eq_false] at h
  obtain ⟨i, hi, h2⟩ := h
  exact ⟨i, List.mem_range.1 hi, by simpa using h2⟩

theorem ks_len_no {l : List Int} (h : ¬ (1 ≤ l.length ∧ l.length ≤ 12)) : ksB l = false := by
  cases hk : ksB l
  · rfl
  · have := ksB_len hk; omega

theorem ks_in_no {l : List Int} (h : inTo 1 12 l l.length = false) : ksB l = false := by
  cases hk : ksB l
  · rfl
  · obtain ⟨i, hi, hn⟩ := inTo_no h
    have hb := ksB_len hk
    have h1 := hb.2.2.1 i hi
    have h2 := sum_mono (l := l) (i + 1) l.length (by omega) hb.2.2.1
    have h3 := sum_ge (l := l) i (fun j hj => hb.2.2.1 j (by omega))
    simp only [sumZ] at h2
    exact absurd ⟨h1, by omega⟩ hn

theorem ks_dn_no {l : List Int} {i : Nat} (hi : i < l.length) (h : ¬ (i = 0 ∨ na l i ≤ na l (i - 1))) : ksB l = false := by
  unfold ksB
  rw [dn_no hi h]; simp

theorem ks_end {l : List Int} (h0 : 0 < l.length) (hin : inTo 1 12 l l.length = true) (hd : dnTo l l.length = true) : ksB l = decide (sumZ l l.length ≤ 12) := by
  have hp : ∀ i, i < l.length → 1 ≤ na l i := fun i hi => (inTo_at hin hi).1
  unfold ksB
  rw [hd, Bool.and_true]
  simp only [h0, decide_true, Bool.true_and]
  rw [Bool.eq_iff_iff, decide_eq_true_eq]
  constructor
  · intro h
    have h2 := (kW_at h (i := l.length - 1) (by omega)).2
    rw [show l.length - 1 + 1 = l.length by omega] at h2
    exact h2
  · intro h
    exact kW_yes fun i hi => ⟨hp i hi, Int.le_trans (sum_mono (i + 1) l.length (by omega) hp) h⟩

set_option maxHeartbeats 800000 in
set_option maxRecDepth 20000 in
theorem cbKinds_pos (b off cap : Nat) (l : List Int) (n : Nat) (w : World) (Hn : Hid (n = l.length)) (hn : n ≤ 1048576)
    (Hc : Hid (∀ i, i < n → w.cell? ⟨b, off + i, none⟩ = some (.int .i64 (na l i)))) :
    Calls Try.prog 60 #[.slice (some ⟨b, off, none⟩) n cap] w fun e w' => e = .returned (.bool (ksB l)) ∧ w = w' := by
  cases hl : decide (1 ≤ (n : Int) ∧ (n : Int) ≤ 12)
  · have hR : ksB l = false := ks_len_no (by simp only [decide_eq_false_iff_not] at hl; rw [← Hn.out]; omega)
    rw [hR]
    have Hl := Lib.hid hl
    clear hR hl
    go_enter Try.func60, Try.ntmps60
    go_wp2_with fail
    refine (l1In_any (n : Int) 1 12 w).mono ?_
    rintro e w' ⟨rfl, rfl⟩
    rw [Hl.out]
    go_wp2_with fail
    go_ret
    exact ⟨rfl, rfl⟩
  · have hn12 : 1 ≤ n ∧ n ≤ 12 := by simp only [decide_eq_true_eq] at hl; omega
    have Hl := Lib.hid hl
    clear hl
    cases hi : inTo 1 12 l n
    · have hR : ksB l = false := ks_in_no (by rw [← Hn.out]; exact hi)
      rw [hR]
      have Hi := Lib.hid hi
      clear hR hi
      go_enter Try.func60, Try.ntmps60
      go_wp2_with fail
      refine (l1In_any (n : Int) 1 12 w).mono ?_
      rintro e w' ⟨rfl, rfl⟩
      rw [Hl.out]
      go_wp2_with fail
      refine (l1All_pos b off cap l n 1 12 w hn Hc).mono ?_
      rintro e w' ⟨rfl, rfl⟩
      rw [Hi.out]
      go_wp2_with fail
      go_ret
      exact ⟨rfl, rfl⟩
    · obtain ⟨R, hR⟩ : ∃ R, ksB l = R := ⟨_, rfl⟩
      rw [hR]
      have HR := Lib.hid hR
      have Hi := Lib.hid hi
      have hia := fun i (h : i < n) => inTo_at hi h
      have Hia := Lib.hid hia
      have Hsl : Hid (∀ k, k ≤ n → 0 ≤ sumZ l k ∧ sumZ l k ≤ 12 * (k : Int)) := by
        intro k
        induction k with
        | zero => intro _; simp [sumZ]
        | succ k ih =>
          intro h
          have h1 := ih (by omega)
          have h2 := hia k (by omega)
          simp only [sumZ]; omega
      clear hR hi hia
      go_enter Try.func60, Try.ntmps60
      go_wp2_with fail
      refine (l1In_any (n : Int) 1 12 w).mono ?_
      rintro e w' ⟨rfl, rfl⟩
      rw [Hl.out]
      go_wp2_with fail
      refine (l1All_pos b off cap l n 1 12 w hn Hc).mono ?_
      rintro e w' ⟨rfl, rfl⟩
      rw [Hi.out]
      go_wp2_with fail
      go_loop [3, 17] (fun v i => ∃ k : Nat, k ≤ n ∧ i = .int .i64 k ∧ v = .int .i64 (sumZ l k) ∧ Hid (∀ j, j < k → j = 0 ∨ na l j ≤ na l (j - 1))) (fun _ i => n - (intOf i).toNat)
      case atStart => exact ⟨0, Nat.zero_le _, rfl, rfl, fun j hj => absurd hj (by omega)⟩
      case round =>
        obtain ⟨k, hk, rfl, rfl, hall⟩ := hrel
        have hs := Hsl.out k hk
        by_cases hlt : k < n
        · have h0 := Hc.out k hlt
          have hx := Hia.out k hlt
          have Hsu : Hid (sumZ l (k + 1) = sumZ l k + na l k) := rfl
          have hw1 : IntKind.i64.wrap (sumZ l k + na l k) = sumZ l k + na l k := IntWalk.i64_in _ (by omega)
          by_cases hk0 : k = 0
          · have hgt : ¬ (k : Int) > 0 := by omega
            have hall2 : Hid (∀ j, j < k + 1 → j = 0 ∨ na l j ≤ na l (j - 1)) := fun j hj => .inl (by omega)
            clear hk0
            go_wp2_with fail
            go_round
            case rel => exact ⟨k + 1, by omega, by go_num, by rw [Hsu.out], hall2⟩
            case measure => simp [intOf]; omega
          · obtain ⟨q, rfl⟩ : ∃ q, k = q + 1 := ⟨k - 1, by omega⟩
            have h1 := Hc.out q (by omega)
            have hgt : ((q + 1 : Nat) : Int) > 0 := by omega
            have hq1 : ((q + 1 : Nat) : Int) = (q : Int) + 1 := by omega
            have hq2 : (q : Int) + 1 - 1 = (q : Int) := by omega
            have hq3 : (0 : Int) ≤ (q : Int) := by omega
            have hq4 : (q : Int) < (n : Int) := by omega
            by_cases hd : na l q < na l (q + 1)
            · have hno : R = false := by rw [← HR.out]; exact ks_dn_no (i := q + 1) (by rw [← Hn.out]; exact hlt) (by rw [Nat.add_sub_cancel]; omega)
              subst hno
              go_wp2_with fail
              go_ret
              exact ⟨rfl, rfl⟩
            · have hall2 : Hid (∀ j, j < q + 1 + 1 → j = 0 ∨ na l j ≤ na l (j - 1)) := by
                intro j hj
                by_cases hjk : j = q + 1
                · subst hjk; rw [Nat.add_sub_cancel]; exact .inr (by omega)
                · exact hall.out j (by omega)
              go_wp2_with fail
              go_round
              case rel => exact ⟨q + 1 + 1, by omega, by go_num, by rw [Hsu.out], hall2⟩
              case measure => simp [intOf]; omega
        · obtain rfl : k = n := by omega
          have he := ks_end (l := l) (by rw [← Hn.out]; omega) (by rw [← Hn.out]; exact Hi.out) (by rw [← Hn.out]; exact dn_yes hall.out)
          rw [HR.out, ← Hn.out] at he
          have He := Lib.hid he
          clear he
          go_wp2_with fail
          go_ret
          exact ⟨ret_bool He.out.symm, rfl⟩

theorem cbKinds_zero (ao : Option Addr) (cap : Nat) (w : World) : Calls Try.prog 60 #[.slice ao 0 cap] w fun e w' => e = .returned (.bool false) ∧ w = w' := by
  have hz : decide (1 ≤ (0 : Int) ∧ (0 : Int) ≤ 12) = false := by decide
  go_enter Try.func60, Try.ntmps60
  go_wp2_with fail
  refine (l1In_any 0 1 12 w).mono ?_
  rintro e w' ⟨rfl, rfl⟩
  rw [hz]
  go_wp2_with fail
  go_ret
  exact ⟨rfl, rfl⟩

theorem cbKinds_any (ao : Option Addr) (cap : Nat) (l : List Int) (n : Nat) (w : World) (Hn : Hid (n = l.length)) (hn : n ≤ 1048576) (hc : NumsAt w ao l) :
    Calls Try.prog 60 #[.slice ao n cap] w fun e w' => e = .returned (.bool (ksB l)) ∧ w = w' := by
  rcases hc with h | ⟨b, off, rfl, hc⟩
  · subst h
    obtain rfl : n = 0 := Hn.out
    exact cbKinds_zero ao cap w
  · exact cbKinds_pos b off cap l n w Hn hn (by rw [Hn.out]; exact hc)

end Go.Proofs.Ytcedacneagpjcaa
