/- Sizes of groups: the program. -/
import Derived.Test.YtcedacneagpjcaaKs
import Derived.Shelf.Abstract
namespace Go.Proofs.Ytcedacneagpjcaa
open Go.ChangeShapes Go.WideShapes Go.ChangeAt Go.RowKit
set_option linter.unusedVariables false


/-- How two numbers compare. -/
def cmI (x y : Int) : Int := if x < y then -1 else if y < x then 1 else 0

theorem isNaN_any (x : Int) (w : World) : Calls Try.prog 89 #[.int .i64 x] w fun e w' => e = .returned (.bool false) ∧ w = w' := by
  have h : (x != x) = false := by simp
  go_enter Try.func89, Try.ntmps89
  go_wp2
  go_ret
  exact ⟨rfl, rfl⟩

theorem compare_any (x y : Int) (w : World) : Calls Try.prog 76 #[.int .i64 x, .int .i64 y] w fun e w' => e = .returned (.int .i64 (cmI x y)) ∧ w = w' := by
  by_cases h1 : x < y
  · have e : cmI x y = -1 := by simp [cmI, h1]
    rw [e]
    go_enter Try.func76, Try.ntmps76
    go_wp2_with fail
    refine (isNaN_any x w).mono ?_
    rintro e w' ⟨rfl, rfl⟩
    go_wp2_with fail
    refine (isNaN_any y w).mono ?_
    rintro e w' ⟨rfl, rfl⟩
    go_wp2_with fail
    go_ret
    exact ⟨rfl, rfl⟩
  · by_cases h2 : y < x
    · have e : cmI x y = 1 := by simp [cmI, h1, h2]
      rw [e]
      go_enter Try.func76, Try.ntmps76
      go_wp2_with fail
      refine (isNaN_any x w).mono ?_
      rintro e w' ⟨rfl, rfl⟩
      go_wp2_with fail
      refine (isNaN_any y w).mono ?_
      rintro e w' ⟨rfl, rfl⟩
      go_wp2_with fail
      go_ret
      exact ⟨rfl, rfl⟩
    · have e : cmI x y = 0 := by simp [cmI, h1, h2]
      rw [e]
      go_enter Try.func76, Try.ntmps76
      go_wp2_with fail
      refine (isNaN_any x w).mono ?_
      rintro e w' ⟨rfl, rfl⟩
      go_wp2_with fail
      refine (isNaN_any y w).mono ?_
      rintro e w' ⟨rfl, rfl⟩
      go_wp2_with fail
      go_ret
      exact ⟨rfl, rfl⟩
theorem greater_any (x y : Int) (w : World) : Calls Try.prog 67 #[.int .i64 x, .int .i64 y] w fun e w' => e = .returned (.int .i64 (cmI y x)) ∧ w = w' := by
  go_enter Try.func67, Try.ntmps67
  go_wp2_with fail
  refine (compare_any y x w).mono ?_
  rintro e w' ⟨rfl, rfl⟩
  go_wp2_with fail
  go_ret
  exact ⟨rfl, rfl⟩

theorem cmI_neg (x y : Int) : cmI x y < 0 ↔ x < y := by
  unfold cmI
  split <;> (try split) <;> omega

set_option maxHeartbeats 800000 in
set_option maxRecDepth 20000 in
theorem isSorted_pos (b off cap : Nat) (l : List Int) (n : Nat) (w : World) (Hn : Hid (n = l.length)) (hn : n ≤ 1048576) (h0 : 0 < n)
    (Hc : Hid (∀ i, i < n → w.cell? ⟨b, off + i, none⟩ = some (.int .i64 (na l i)))) :
    Calls Try.prog 72 #[.slice (some ⟨b, off, none⟩) n cap, .func (.func 67) #[] #[]] w fun e w' => e = .returned (.bool (dnTo l n)) ∧ Below w.heap.size w w' := by
  obtain ⟨m, hmn⟩ : ∃ m, m + 1 = n := ⟨n - 1, by omega⟩
  obtain ⟨R, hR⟩ : ∃ R, dnTo l n = R := ⟨_, rfl⟩
  rw [hR]
  have HR := Lib.hid hR
  have hm1 : (n : Int) - 1 = (m : Int) := by omega
  have eg : ∀ args w, (callFunc 67 args).run Try.prog w = .ok (.enter 67 args) w := enters_of Try.func67 (by kernel_rfl) rfl
  have hmw : IntKind.i64.wrap ((n : Int) - 1) = (m : Int) := by rw [hm1]; exact IntWalk.i64_in _ (by omega)
  have Hmn := Lib.hid hmn
  clear hR hmn
  go_enter Try.func72, Try.ntmps72
  go_wp2_with fail
  go_loopw [5] (fun i wr => ∃ k : Nat, k ≤ m ∧ i = .int .i64 k ∧ Hid (∀ j, k < j → j < n → na l j ≤ na l (j - 1)) ∧ Below w.heap.size w wr) (fun i _ => (intOf i).toNat)
  case atStart => exact ⟨m, Nat.le_refl _, by first | rfl | (congr 1), fun j h1 h2 => absurd h2 (by omega), Below.refl _ _⟩
  case round =>
    obtain ⟨k, hk, rfl, hall, hbel⟩ := hrel
    have hmn := Hmn.out
    by_cases hk0 : k = 0
    · subst hk0
      have hyes : R = true := by
        rw [← HR.out]
        exact dn_yes fun i hi => by
          by_cases hi0 : i = 0
          · exact .inl hi0
          · exact .inr (hall.out i (by omega) hi)
      subst hyes
      go_wp2_with fail
      go_ret
      exact ⟨rfl, hbel⟩
    · obtain ⟨q, hqk⟩ : ∃ q, q + 1 = k := ⟨k - 1, by omega⟩
      have h0 := cell_old hbel (Hc.out k (by omega))
      have h1 := cell_old hbel (Hc.out q (by omega))
      have hq2 : (k : Int) - 1 = (q : Int) := by omega
      have hqw : IntKind.i64.wrap ((k : Int) - 1) = (q : Int) := by rw [hq2]; exact IntWalk.i64_in _ (by omega)
      have hqw2 : IntKind.i64.wrap (q : Int) = (q : Int) := IntWalk.i64_in _ (by omega)
      have hq3 : (0 : Int) ≤ (q : Int) := by omega
      have hq4 : (q : Int) < (n : Int) := by omega
      have hq5 : (0 : Int) ≤ (k : Int) := by omega
      have hq6 : (k : Int) < (n : Int) := by omega
      have hq7 : (k : Int) > 0 := by omega
      have Hqk := Lib.hid hqk
      have hcn := cmI_neg (na l q) (na l k)
      obtain ⟨c, hc⟩ : ∃ c, cmI (na l q) (na l k) = c := ⟨_, rfl⟩
      have Hcc := Lib.hid hc
      rw [hc] at hcn
      have hgq := fun W => greater_any (na l k) (na l q) W
      rw [Hcc.out] at hgq
      have Hgq := Lib.hid hgq
      clear hc hgq
      by_cases hd : na l q < na l k
      · have hno : R = false := by rw [← HR.out]; exact dn_no (i := k) (by omega) (by rw [← hqk, Nat.add_sub_cancel, hqk]; omega)
        subst hno
        have hcd : c < 0 := hcn.2 hd
        clear hcn hd hmn hqk
        go_wp2_with fail
        go_quiet (first | (go_at_fn 67; exact Calls.quiet_of_same ((Hgq.out _).mono fun _ _ ⟨h1, h2⟩ => ⟨h1, h2.symm⟩)) | (go_at_call 67; exact Calls.quiet_of_same ((Hgq.out _).mono fun _ _ ⟨h1, h2⟩ => ⟨h1, h2.symm⟩)))
        go_wp2_with fail
        go_ret
        exact ⟨rfl, below_drewN hbel _⟩
      · have hcd : ¬ c < 0 := fun h => hd (hcn.1 h)
        have hall2 : Hid (∀ j, q < j → j < n → na l j ≤ na l (j - 1)) := by
          intro j h1 h2
          by_cases hjq : j = k
          · subst hjq; rw [← hqk, Nat.add_sub_cancel, hqk]; omega
          · exact hall.out j (by omega) h2
        clear hcn hd hmn hqk
        go_wp2_with fail
        go_quiet (first | (go_at_fn 67; exact Calls.quiet_of_same ((Hgq.out _).mono fun _ _ ⟨h1, h2⟩ => ⟨h1, h2.symm⟩)) | (go_at_call 67; exact Calls.quiet_of_same ((Hgq.out _).mono fun _ _ ⟨h1, h2⟩ => ⟨h1, h2.symm⟩)))
        go_wp2_with fail
        go_roundw
        case rel => exact ⟨q, by omega, by go_num, hall2, below_drewN hbel _⟩
        case measure => simp [intOf] <;> omega

/-- What is left, where sizes can be had; nothing else. -/
def lfV (W : Int) (l : List Int) : Int := if kW W l l.length then W - sumZ l l.length else 0

def lfB (W : Int) (l : List Int) : Bool := kW W l l.length && (decide (0 < l.length) && dnTo l l.length)

set_option maxHeartbeats 800000 in
set_option maxRecDepth 20000 in
theorem leftBySizes_pos (WW : Int) (hW0 : 0 ≤ WW) (hW1 : WW ≤ 12) (b off cap : Nat) (l : List Int) (n : Nat) (w : World) (Hn : Hid (n = l.length)) (hn : n ≤ 1048576) (h0 : 0 < n)
    (Hc : Hid (∀ i, i < n → w.cell? ⟨b, off + i, none⟩ = some (.int .i64 (na l i)))) :
    Calls Try.prog 63 #[.int .i64 WW, .slice (some ⟨b, off, none⟩) n cap] w fun e w' => e = .returned (.tuple #[.int .i64 (lfV WW l), .bool (lfB WW l)]) ∧ Below w.heap.size w w' := by
  obtain ⟨V, hV⟩ : ∃ V, lfV WW l = V := ⟨_, rfl⟩
  obtain ⟨B, hB⟩ : ∃ B, lfB WW l = B := ⟨_, rfl⟩
  rw [hV, hB]
  have HV := Lib.hid hV
  have HB := Lib.hid hB
  have HS := Lib.hid (isSorted_pos b off cap l n w Hn hn h0 Hc)
  clear hV hB
  go_enter Try.func63, Try.ntmps63
  go_wp2_with fail
  go_loop [6, 12] (fun v i => ∃ k : Nat, k ≤ n ∧ i = .int .i64 k ∧ v = .int .i64 (WW - sumZ l k) ∧ Hid (∀ j, j < k → 1 ≤ na l j ∧ sumZ l (j + 1) ≤ WW)) (fun _ i => n - (intOf i).toNat)
  case atStart => exact ⟨0, Nat.zero_le _, rfl, by simp [sumZ], fun j hj => absurd hj (by omega)⟩
  case round =>
    obtain ⟨k, hk, rfl, rfl, hall⟩ := hrel
    have hs0 : 0 ≤ sumZ l k := by have := sum_ge (l := l) k (fun i hi => (hall.out i hi).1); omega
    have hs1 : sumZ l k ≤ WW := by
      cases k with
      | zero => simpa [sumZ] using hW0
      | succ k => exact (hall.out k (by omega)).2
    by_cases hlt : k < n
    · have hc0 := Hc.out k hlt
      have Hsu : Hid (sumZ l (k + 1) = sumZ l k + na l k) := rfl
      by_cases hg : 1 ≤ na l k ∧ sumZ l (k + 1) ≤ WW
      · have hall2 : Hid (∀ j, j < k + 1 → 1 ≤ na l j ∧ sumZ l (j + 1) ≤ WW) := by
          intro j hj
          by_cases hjk : j = k
          · subst hjk; exact hg
          · exact hall.out j (by omega)
        have hg2 : sumZ l k + na l k ≤ WW := hg.2
        have hn1 : ¬ na l k < 1 := by omega
        have hn2 : ¬ na l k > WW - sumZ l k := by omega
        obtain ⟨A, hA⟩ : ∃ A, sumZ l k = A := ⟨_, rfl⟩
        rw [hA] at Hsu hs0 hs1 hn2 hg2 ⊢
        have hw1 : IntKind.i64.wrap (WW - A - na l k) = WW - A - na l k := IntWalk.i64_in _ (by omega)
        clear hg hA
        go_wp2_with fail
        go_round
        case rel => exact ⟨k + 1, by omega, by go_num, by rw [Hsu.out]; congr 1; omega, hall2⟩
        case measure => simp [intOf]; omega
      · have hno := kW_no (l := l) (k := l.length) (by rw [← Hn.out]; exact hlt) hg
        have hV0 : V = 0 := by rw [← HV.out]; unfold lfV; rw [hno]; rfl
        have hB0 : B = false := by rw [← HB.out]; unfold lfB; rw [hno]; rfl
        have hg2 : ¬ (1 ≤ na l k ∧ sumZ l k + na l k ≤ WW) := hg
        subst hV0
        subst hB0
        clear hno hg HV HB
        by_cases hn1 : na l k < 1
        · go_wp2_with fail
          go_ret2
          exact ⟨rfl, Below.refl _ _⟩
        · have hn2 : na l k > WW - sumZ l k := by omega
          go_wp2_with fail
          go_ret2
          exact ⟨rfl, Below.refl _ _⟩
    · obtain rfl : k = n := by omega
      have hyes : kW WW l l.length = true := by rw [← Hn.out]; exact kW_yes hall.out
      have hV0 : V = WW - sumZ l k := by rw [← HV.out]; unfold lfV; rw [hyes, ← Hn.out]; rfl
      have hB0 : B = dnTo l k := by rw [← HB.out]; unfold lfB; rw [hyes, ← Hn.out]; simp [h0]
      subst hV0
      subst hB0
      have hgt : (k : Int) > 0 := by omega
      clear hyes HV HB
      go_wp2_with fail
      refine HS.out.mono ?_
      rintro e w2 ⟨rfl, hb2⟩
      go_wp2_with fail
      go_ret2
      exact ⟨rfl, hb2⟩

theorem leftBySizes_zero (WW : Int) (ao : Option Addr) (cap : Nat) (w : World) :
    Calls Try.prog 63 #[.int .i64 WW, .slice ao 0 cap] w fun e w' => e = .returned (.tuple #[.int .i64 WW, .bool false]) ∧ w = w' := by
  go_enter Try.func63, Try.ntmps63
  go_wp2_with fail
  go_rounds 1
  go_ret2
  exact ⟨rfl, rfl⟩

theorem leftBySizes_any (WW : Int) (hW0 : 0 ≤ WW) (hW1 : WW ≤ 12) (ao : Option Addr) (cap : Nat) (l : List Int) (n : Nat) (w : World) (Hn : Hid (n = l.length)) (hn : n ≤ 1048576) (hc : NumsAt w ao l) :
    Calls Try.prog 63 #[.int .i64 WW, .slice ao n cap] w fun e w' => e = .returned (.tuple #[.int .i64 (lfV WW l), .bool (lfB WW l)]) ∧ Below w.heap.size w w' := by
  by_cases h0 : n = 0
  · subst h0
    obtain rfl : l = [] := List.eq_nil_of_length_eq_zero Hn.out.symm
    rw [show lfV WW [] = WW by simp [lfV, kW, sumZ], show lfB WW [] = false by simp [lfB]]
    exact (leftBySizes_zero WW ao cap w).mono (by rintro e w' ⟨h, rfl⟩; exact ⟨h, Below.refl _ _⟩)
  · rcases hc with h | ⟨b, off, rfl, hc⟩
    · subst h; exact absurd Hn.out h0
    · exact leftBySizes_pos WW hW0 hW1 b off cap l n w Hn hn (by omega) (by rw [Hn.out]; exact hc)

theorem lfB_ks (l : List Int) : lfB 12 l = ksB l := by
  unfold lfB ksB
  cases kW 12 l l.length <;> cases decide (0 < l.length) <;> rfl

end Go.Proofs.Ytcedacneagpjcaa
