/- A number read off a text, with its value: the model. -/
import Derived.Test.YtnhkabhchepieaaDoorStr
namespace Go.Proofs.YtnhkabhchepieaaDoor
open Go.ChangeShapes Go.WideShapes Go.ChangeAt Go.RowKit
set_option linter.unusedVariables false

theorem l1InD_any (x lo hi : Int) (w : World) : Calls Tryd.prog 66 #[.int .i64 x, .int .i64 lo, .int .i64 hi] w fun e w' => e = .returned (.bool (decide (lo ≤ x ∧ x ≤ hi))) ∧ w = w' := by
  by_cases h1 : lo ≤ x
  · by_cases h2 : x ≤ hi
    · rw [show decide (lo ≤ x ∧ x ≤ hi) = true by simp [h1, h2]]
      go_enter Tryd.func66, Tryd.ntmps66
      go_wp2
      go_ret
      exact ⟨by first | rfl | (simp; done) | (simp; omega), rfl⟩
    · rw [show decide (lo ≤ x ∧ x ≤ hi) = false by simp [h2]]
      have hd : decide (x ≤ hi) = false := by simpa using h2
      go_enter Tryd.func66, Tryd.ntmps66
      go_wp2
      go_ret
      exact ⟨by first | rfl | (simp; done) | (simp; omega), rfl⟩
  · rw [show decide (lo ≤ x ∧ x ≤ hi) = false by simp [h1]]
    have hd : decide (lo ≤ x) = false := by simpa using h1
    go_enter Tryd.func66, Tryd.ntmps66
    go_wp2
    go_ret
    exact ⟨rfl, rfl⟩

theorem u8w (x : Int) (h0 : 0 ≤ x) (h1 : x < 256) : IntKind.u8.wrap x = x := by
  simp [IntKind.wrap, IntKind.signed, IntKind.bits, Int.emod_eq_of_lt, h0, h1]
theorem idx_at (s : ByteArray) (k : Nat) (h : k < s.size) (W : World) : (Instr.index 9 (.string s) (.int .i64 (k : Int))).run Tryd.prog W = .ok (.int .u8 ((s[k]'h).toNat : Int)) W := by
  rw [run_index_string W 9 s .i64 (k : Int) Tryd.underlying9, dif_pos (by omega)]
  rfl
/-- The k-th byte. -/
def by8 (s : ByteArray) (k : Nat) : Nat := if h : k < s.size then (s[k]'h).toNat else 0
theorem by8_lt (s : ByteArray) (k : Nat) : by8 s k < 256 := by unfold by8; split <;> first | exact UInt8.toNat_lt _ | decide
theorem idx_by (s : ByteArray) (k : Nat) (h : k < s.size) (W : World) : (Instr.index 9 (.string s) (.int .i64 (k : Int))).run Tryd.prog W = .ok (.int .u8 (by8 s k : Int)) W := by
  rw [idx_at s k h W, by8, dif_pos h]
def dgB (s : ByteArray) (k : Nat) : Bool := decide (48 ≤ by8 s k ∧ by8 s k ≤ 57)
/-- The number that the first k digits make. -/
def vd (s : ByteArray) : Nat → Nat
  | 0 => 0
  | k + 1 => 10 * vd s k + (by8 s k - 48)
def headB (s : ByteArray) : Bool := decide (1 ≤ s.size ∧ s.size ≤ 6) && !(decide (by8 s 0 = 48) && decide (1 < s.size))
def rdB (s : ByteArray) : Bool := headB s && (List.range s.size).all (dgB s)
def rd (s : ByteArray) : Int := if rdB s then (vd s s.size : Int) else -1
theorem vd_lt (s : ByteArray) : ∀ k, (∀ j, j < k → dgB s j = true) → vd s k < 10 ^ k
  | 0, _ => by simp [vd]
  | k + 1, h => by
    have ih := vd_lt s k (fun j hj => h j (by omega))
    have h1 := h k (by omega)
    simp only [dgB, decide_eq_true_eq] at h1
    rw [vd, Nat.pow_succ]
    omega
theorem rd_head {s : ByteArray} (h : headB s = false) : rd s = -1 := by simp [rd, rdB, h]
theorem rd_no {s : ByteArray} {k : Nat} (hk : k < s.size) (h : dgB s k = false) : rd s = -1 := by
  have : (List.range s.size).all (dgB s) = false := by rw [List.all_eq_false]; exact ⟨k, List.mem_range.2 hk, by simpa using h⟩
  simp [rd, rdB, this]
theorem rd_yes {s : ByteArray} (h0 : headB s = true) (h : ∀ k, k < s.size → dgB s k = true) : rd s = (vd s s.size : Int) := by
  have : (List.range s.size).all (dgB s) = true := by rw [List.all_eq_true]; exact fun k hk => h k (List.mem_range.1 hk)
  simp [rd, rdB, h0, this]
set_option maxHeartbeats 1600000 in
set_option maxRecDepth 20000 in
theorem l1Read_any (s : ByteArray) (hnm : s.size ≤ 1048576) (w : World) :
    Calls Tryd.prog 38 #[.string s] w fun e w' => e = .returned (.int .i64 (rd s)) ∧ w' = w := by
  obtain ⟨n, hn⟩ : ∃ n, s.size = n := ⟨_, rfl⟩
  by_cases h6 : 1 ≤ (n : Int) ∧ (n : Int) ≤ 6
  · have hd : decide (1 ≤ (n : Int) ∧ (n : Int) ≤ 6) = true := by simpa using h6
    have hL := fun w : World => l1InD_any (n : Int) 1 6 w
    rw [hd] at hL
    have HL := Lib.hid hL
    have h0 : 0 < s.size := by omega
    obtain ⟨c, hc⟩ : ∃ c : Int, c = (by8 s 0 : Int) := ⟨_, rfl⟩
    have hix : ∀ W : World, (Instr.index 9 (.string s) (.int .i64 0)).run Tryd.prog W = .ok (.int .u8 c) W := fun W => by
      rw [hc]; exact idx_by s 0 h0 W
    obtain ⟨R, hR⟩ : ∃ R, rd s = R := ⟨_, rfl⟩
    rw [hR]
    have Hcond : Hid (headB s = false → R = -1) := Lib.hid fun h => by rw [← hR]; exact rd_head h
    have HN : Hid (∀ k, k < n → dgB s k = false → R = -1) := Lib.hid fun k hk h => by rw [← hR]; exact rd_no (by omega) h
    have HY : Hid (headB s = true → (∀ k, k < n → dgB s k = true) → R = (vd s n : Int)) := Lib.hid fun h1 h2 => by rw [← hR, rd_yes h1 (by rw [hn]; exact h2), hn]
    have HIX : Hid (∀ k : Nat, k < n → ∀ W : World, (Instr.index 9 (.string s) (.int .i64 (k : Int))).run Tryd.prog W = .ok (.int .u8 (by8 s k : Int)) W) := Lib.hid fun k hk W => idx_by s k (by omega) W
    have HVL := Lib.hid (vd_lt s)
    by_cases hz : c = 48 ∧ 1 < n
    · have hno : R = -1 := Hcond.out (by
        have h1 : by8 s 0 = 48 := by omega
        simp [headB, h1, hn, hz.2])
      have hn1 : (1 : Int) < (n : Int) := by omega
      have Hno := Lib.hid hno
      obtain rfl := hz.1
      clear hno hz hc hR hL
      go_enter Tryd.func38, Tryd.ntmps38
      go_wp2_with fail
      refine (HL.out _).mono ?_
      rintro e w1 ⟨rfl, rfl⟩
      go_wp2_with fail
      go_ret
      exact ⟨by rw [Hno.out]; rfl, by first | rfl | trivial⟩
    · have HH : Hid (headB s = true) := Lib.hid (by
        have h1 : ¬ (by8 s 0 = 48 ∧ 1 < s.size) := by omega
        have h2 : 1 ≤ s.size ∧ s.size ≤ 6 := by omega
        unfold headB
        rw [decide_eq_true h2]
        by_cases h3 : by8 s 0 = 48
        · rw [decide_eq_false (show ¬ 1 < s.size by omega)]; simp
        · rw [decide_eq_false h3]; simp)
      have HLOOP : Hid (∀ k, k < n → dgB s k = true → (48 ≤ by8 s k ∧ by8 s k ≤ 57)) := Lib.hid fun k _ h => by simpa [dgB] using h
      by_cases h48 : c = 48
      · have hn1 : ¬ (1 : Int) < (n : Int) := by omega
        subst h48
        clear hz hc hR hL
        go_enter Tryd.func38, Tryd.ntmps38
        go_wp2_with fail
        refine (HL.out _).mono ?_
        rintro e w1 ⟨rfl, rfl⟩
        go_wp2_with fail
        go_loopw [3, 4] (fun v i wr => ∃ (k : Nat), k ≤ n ∧ i = .int .i64 k ∧ v = .int .i64 (vd s k : Nat) ∧ Hid (∀ j, j < k → dgB s j = true) ∧ wr = w) (fun _ i _ => n - (intOf i).toNat)
        case atStart => exact ⟨0, Nat.zero_le _, rfl, rfl, fun j hj => absurd hj (by omega), rfl⟩
        case round =>
          obtain ⟨k, hk, rfl, rfl, hall, rfl⟩ := hrel
          by_cases hlt : k < n
          · have hik := HIX.out k hlt
            have b1 : (k : Int) < (n : Int) := by omega
            have hvl := HVL.out k hall.out
            have hp6 : 10 ^ k ≤ 1000000 := Nat.le_trans (Nat.pow_le_pow_right (by decide) (show k ≤ 6 by omega)) (by decide)
            have hvs : vd s (k + 1) = 10 * vd s k + (by8 s k - 48) := rfl
            have Hvs := Lib.hid hvs
            have hb8 := by8_lt s k
            obtain ⟨vv, hvv⟩ : ∃ x, vd s k = x := ⟨_, rfl⟩
            have hv6 : vv < 1000000 := by omega
            rw [hvv] at Hvs ⊢
            cases hdg : dgB s k
            · have Hno := Lib.hid (HN.out k hlt hdg)
              have hnd : ¬ (48 ≤ by8 s k ∧ by8 s k ≤ 57) := by simpa [dgB] using hdg
              obtain ⟨q, hq⟩ : ∃ x, by8 s k = x := ⟨_, rfl⟩
              rw [hq] at hik hnd hb8
              by_cases hlo : q < 48
              · have hloI : (q : Int) < 48 := by omega
                clear hvl hp6 hvs hvv hdg hnd hq Hvs
                go_wp2_with fail
                go_ret
                exact ⟨by rw [Hno.out]; rfl, by first | rfl | trivial⟩
              · have hloI : ¬ (q : Int) < 48 := by omega
                have hloD : decide ((q : Int) < 48) = false := by simpa using hloI
                have hhi : (57 : Int) < (q : Int) := by omega
                clear hvl hp6 hvs hvv hdg hnd hq Hvs
                go_wp2_with fail
                go_ret
                exact ⟨by rw [Hno.out]; rfl, by first | rfl | trivial⟩
            · have hnd := HLOOP.out k hlt hdg
              have hall2 : Hid (∀ j, j < k + 1 → dgB s j = true) := by
                intro j hj
                by_cases hjk : j = k
                · subst hjk; exact hdg
                · exact hall.out j (by omega)
              obtain ⟨q, hq⟩ : ∃ x, by8 s k = x := ⟨_, rfl⟩
              rw [hq] at hik hnd hb8 Hvs
              have hloI : ¬ (q : Int) < 48 := by omega
              have hloD : decide ((q : Int) < 48) = false := by simpa using hloI
              have hhi : ¬ (57 : Int) < (q : Int) := by omega
              have hhiD : decide ((57 : Int) < (q : Int)) = false := by simpa using hhi
              have hw1 : IntKind.u8.wrap ((q : Int) - 48) = (q : Int) - 48 := u8w _ (by omega) (by omega)
              have hw2 : IntKind.i64.wrap ((q : Int) - 48) = (q : Int) - 48 := IntWalk.i64_in _ (by omega)
              have hq48 : 48 ≤ q := hnd.1
              clear hvl hp6 hvs hvv hdg hnd hq
              go_wp2_with fail
              go_roundw
              case rel => exact ⟨k + 1, by omega, by go_num, by rw [Hvs.out]; first | (go_num; done) | (congr 1; omega) | (simp; omega), hall2, by first | rfl | trivial⟩
              case measure => simp [intOf]; omega
          · obtain rfl : k = n := by omega
            have HF := Lib.hid (HY.out HH.out hall.out)
            clear hlt hk
            go_wp2_with fail
            go_ret
            exact ⟨by rw [HF.out]; rfl, by first | rfl | trivial⟩
      · have h48b : (c == 48) = false := by simpa using h48
        clear hz hc hR hL
        go_enter Tryd.func38, Tryd.ntmps38
        go_wp2_with fail
        refine (HL.out _).mono ?_
        rintro e w1 ⟨rfl, rfl⟩
        go_wp2_with fail
        go_loopw [3, 4] (fun v i wr => ∃ (k : Nat), k ≤ n ∧ i = .int .i64 k ∧ v = .int .i64 (vd s k : Nat) ∧ Hid (∀ j, j < k → dgB s j = true) ∧ wr = w) (fun _ i _ => n - (intOf i).toNat)
        case atStart => exact ⟨0, Nat.zero_le _, rfl, rfl, fun j hj => absurd hj (by omega), rfl⟩
        case round =>
          obtain ⟨k, hk, rfl, rfl, hall, rfl⟩ := hrel
          by_cases hlt : k < n
          · have hik := HIX.out k hlt
            have b1 : (k : Int) < (n : Int) := by omega
            have hvl := HVL.out k hall.out
            have hp6 : 10 ^ k ≤ 1000000 := Nat.le_trans (Nat.pow_le_pow_right (by decide) (show k ≤ 6 by omega)) (by decide)
            have hvs : vd s (k + 1) = 10 * vd s k + (by8 s k - 48) := rfl
            have Hvs := Lib.hid hvs
            have hb8 := by8_lt s k
            obtain ⟨vv, hvv⟩ : ∃ x, vd s k = x := ⟨_, rfl⟩
            have hv6 : vv < 1000000 := by omega
            rw [hvv] at Hvs ⊢
            cases hdg : dgB s k
            · have Hno := Lib.hid (HN.out k hlt hdg)
              have hnd : ¬ (48 ≤ by8 s k ∧ by8 s k ≤ 57) := by simpa [dgB] using hdg
              obtain ⟨q, hq⟩ : ∃ x, by8 s k = x := ⟨_, rfl⟩
              rw [hq] at hik hnd hb8
              by_cases hlo : q < 48
              · have hloI : (q : Int) < 48 := by omega
                clear hvl hp6 hvs hvv hdg hnd hq Hvs
                go_wp2_with fail
                go_ret
                exact ⟨by rw [Hno.out]; rfl, by first | rfl | trivial⟩
              · have hloI : ¬ (q : Int) < 48 := by omega
                have hloD : decide ((q : Int) < 48) = false := by simpa using hloI
                have hhi : (57 : Int) < (q : Int) := by omega
                clear hvl hp6 hvs hvv hdg hnd hq Hvs
                go_wp2_with fail
                go_ret
                exact ⟨by rw [Hno.out]; rfl, by first | rfl | trivial⟩
            · have hnd := HLOOP.out k hlt hdg
              have hall2 : Hid (∀ j, j < k + 1 → dgB s j = true) := by
                intro j hj
                by_cases hjk : j = k
                · subst hjk; exact hdg
                · exact hall.out j (by omega)
              obtain ⟨q, hq⟩ : ∃ x, by8 s k = x := ⟨_, rfl⟩
              rw [hq] at hik hnd hb8 Hvs
              have hloI : ¬ (q : Int) < 48 := by omega
              have hloD : decide ((q : Int) < 48) = false := by simpa using hloI
              have hhi : ¬ (57 : Int) < (q : Int) := by omega
              have hhiD : decide ((57 : Int) < (q : Int)) = false := by simpa using hhi
              have hw1 : IntKind.u8.wrap ((q : Int) - 48) = (q : Int) - 48 := u8w _ (by omega) (by omega)
              have hw2 : IntKind.i64.wrap ((q : Int) - 48) = (q : Int) - 48 := IntWalk.i64_in _ (by omega)
              have hq48 : 48 ≤ q := hnd.1
              clear hvl hp6 hvs hvv hdg hnd hq
              go_wp2_with fail
              go_roundw
              case rel => exact ⟨k + 1, by omega, by go_num, by rw [Hvs.out]; first | (go_num; done) | (congr 1; omega) | (simp; omega), hall2, by first | rfl | trivial⟩
              case measure => simp [intOf]; omega
          · obtain rfl : k = n := by omega
            have HF := Lib.hid (HY.out HH.out hall.out)
            clear hlt hk
            go_wp2_with fail
            go_ret
            exact ⟨by rw [HF.out]; rfl, by first | rfl | trivial⟩
  · have hd : decide (1 ≤ (n : Int) ∧ (n : Int) ≤ 6) = false := by simpa using h6
    have hL := fun w : World => l1InD_any (n : Int) 1 6 w
    rw [hd] at hL
    have HL := Lib.hid hL
    have hr : rd s = -1 := rd_head (by
      have h2 : ¬ (1 ≤ s.size ∧ s.size ≤ 6) := by omega
      unfold headB
      rw [decide_eq_false h2, Bool.false_and])
    rw [hr]
    clear h6 hd hL hr
    go_enter Tryd.func38, Tryd.ntmps38
    go_wp2_with fail
    refine (HL.out _).mono ?_
    rintro e w1 ⟨rfl, rfl⟩
    go_wp2_with fail
    go_ret
    exact ⟨rfl, rfl⟩

end Go.Proofs.YtnhkabhchepieaaDoor
