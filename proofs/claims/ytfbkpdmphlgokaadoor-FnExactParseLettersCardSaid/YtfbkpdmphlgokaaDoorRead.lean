/- A number read off a text: the model. -/
import Derived.Test.YtfbkpdmphlgokaaDoorPartsL
import Derived.Test.YtfbkpdmphlgokaaDoorParse
namespace Go.Proofs.YtfbkpdmphlgokaaDoor
open Go.ChangeShapes Go.WideShapes Go.ChangeAt Go.RowKit
set_option linter.unusedVariables false

theorem l1In_any (x lo hi : Int) (w : World) : Calls Tryd.prog 29 #[.int .i64 x, .int .i64 lo, .int .i64 hi] w fun e w' => e = .returned (.bool (decide (lo ≤ x ∧ x ≤ hi))) ∧ w = w' := by
  by_cases h1 : lo ≤ x
  · by_cases h2 : x ≤ hi
    · rw [show decide (lo ≤ x ∧ x ≤ hi) = true by simp [h1, h2]]
      go_enter Tryd.func29, Tryd.ntmps29
      go_wp2
      go_ret
      exact ⟨by first | rfl | (simp; done) | (simp; omega), rfl⟩
    · rw [show decide (lo ≤ x ∧ x ≤ hi) = false by simp [h2]]
      have hd : decide (x ≤ hi) = false := by simpa using h2
      go_enter Tryd.func29, Tryd.ntmps29
      go_wp2
      go_ret
      exact ⟨by first | rfl | (simp; done) | (simp; omega), rfl⟩
  · rw [show decide (lo ≤ x ∧ x ≤ hi) = false by simp [h1]]
    have hd : decide (lo ≤ x) = false := by simpa using h1
    go_enter Tryd.func29, Tryd.ntmps29
    go_wp2
    go_ret
    exact ⟨rfl, rfl⟩


theorem u8w (x : Int) (h0 : 0 ≤ x) (h1 : x < 256) : IntKind.u8.wrap x = x := by
  simp [IntKind.wrap, IntKind.signed, IntKind.bits, Int.emod_eq_of_lt, h0, h1]

theorem idx_at (s : ByteArray) (k : Nat) (h : k < s.size) (W : World) : (Instr.index 9 (.string s) (.int .i64 (k : Int))).run Tryd.prog W = .ok (.int .u8 ((s[k]'h).toNat : Int)) W := by
  rw [run_index_string W 9 s .i64 (k : Int) Tryd.underlying9, dif_pos (by omega)]
  rfl

set_option maxRecDepth 20000 in
theorem l1Read_dig (x : UInt8) (hx : 48 ≤ x.toNat ∧ x.toNat ≤ 57) (w : World) :
    Calls Tryd.prog 20 #[.string ⟨#[x]⟩] w fun e w' => e = .returned (.int .i64 ((x.toNat : Int) - 48)) ∧ w' = w := by
  obtain ⟨s, hs⟩ : ∃ s : ByteArray, s = ⟨#[x]⟩ := ⟨_, rfl⟩
  have hsz : s.size = 1 := by rw [hs]; rfl
  obtain ⟨c, hc⟩ : ∃ c : Int, c = (x.toNat : Int) := ⟨_, rfl⟩
  have hix : ∀ W : World, (Instr.index 9 (.string s) (.int .i64 0)).run Tryd.prog W = .ok (.int .u8 c) W := fun W => by
    have h := idx_at s 0 (by omega) W
    subst hs
    rw [hc]
    exact h
  rw [← hs, ← hc]
  have hc0 : (48 : Int) ≤ c := by omega
  have hc1 : c ≤ 57 := by omega
  have hw1 : IntKind.u8.wrap (c - 48) = c - 48 := by rw [hc]; exact u8w _ (by omega) (by omega)
  have hw2 : IntKind.i64.wrap (c - 48) = c - 48 := IntWalk.i64_in _ (by omega)
  clear hs hc hx
  by_cases h48 : c = 48
  · go_enter Tryd.func20, Tryd.ntmps20
    go_wp2_with fail
    refine (l1In_any 1 1 6 w).mono ?_
    rintro e w1 ⟨rfl, rfl⟩
    go_wp2_with fail
    go_loopw [3, 4] (fun v i wr => ((i = .int .i64 0 ∧ v = .int .i64 0) ∨ (i = .int .i64 1 ∧ v = .int .i64 (c - 48))) ∧ wr = w) (fun _ i _ => 1 - (intOf i).toNat)
    case atStart => exact ⟨.inl ⟨rfl, rfl⟩, rfl⟩
    case round =>
      obtain ⟨⟨rfl, rfl⟩ | ⟨rfl, rfl⟩, rfl⟩ := hrel
      · go_wp2_with fail
        go_roundw
        case rel => exact ⟨.inr ⟨rfl, by first | rfl | (rw [h48]; rfl)⟩, by first | rfl | trivial⟩
        case measure => simp [intOf]
      · go_wp2_with fail
        go_ret
        exact ⟨rfl, rfl⟩
  · go_enter Tryd.func20, Tryd.ntmps20
    go_wp2_with fail
    refine (l1In_any 1 1 6 w).mono ?_
    rintro e w1 ⟨rfl, rfl⟩
    go_wp2_with fail
    go_loopw [3, 4] (fun v i wr => ((i = .int .i64 0 ∧ v = .int .i64 0) ∨ (i = .int .i64 1 ∧ v = .int .i64 (c - 48))) ∧ wr = w) (fun _ i _ => 1 - (intOf i).toNat)
    case atStart => exact ⟨.inl ⟨rfl, rfl⟩, rfl⟩
    case round =>
      obtain ⟨⟨rfl, rfl⟩ | ⟨rfl, rfl⟩, rfl⟩ := hrel
      · go_wp2_with fail
        go_roundw
        case rel => exact ⟨.inr ⟨rfl, by first | rfl | (rw [h48]; rfl)⟩, by first | rfl | trivial⟩
        case measure => simp [intOf]
      · go_wp2_with fail
        go_ret
        exact ⟨rfl, rfl⟩

set_option maxRecDepth 20000 in
theorem l1Read_all (s : ByteArray) (n : Nat) (hn : n = s.size) (hnm : n ≤ 1048576) (w : World) :
    Calls Tryd.prog 20 #[.string s] w fun e w' => (∃ r : Int, e = .returned (.int .i64 r)) ∧ w' = w := by
  have hsz : s.size = n := hn.symm
  by_cases h6 : 1 ≤ (n : Int) ∧ (n : Int) ≤ 6
  · have h0 : 0 < s.size := by omega
    obtain ⟨c, hc⟩ : ∃ c : Int, c = ((s[0]'h0).toNat : Int) := ⟨_, rfl⟩
    have hix : ∀ W : World, (Instr.index 9 (.string s) (.int .i64 0)).run Tryd.prog W = .ok (.int .u8 c) W := fun W => by
      rw [hc]; exact idx_at s 0 h0 W
    have HIX : Hid (∀ k : Nat, k < n → ∃ c : Int, ∀ W : World, (Instr.index 9 (.string s) (.int .i64 (k : Int))).run Tryd.prog W = .ok (.int .u8 c) W) := fun k hk => ⟨_, fun W => idx_at s k (by omega) W⟩
    have hd : decide (1 ≤ (n : Int) ∧ (n : Int) ≤ 6) = true := by simpa using h6
    clear hc hn
    go_enter Tryd.func20, Tryd.ntmps20
    go_wp2_with fail
    refine (l1In_any n 1 6 w).mono ?_
    rintro e w1 ⟨rfl, rfl⟩
    rw [hd]
    go_wp2_with fail
    all_goals first
      | (go_ret; exact ⟨⟨_, rfl⟩, rfl⟩)
      | skip
    · go_loopw [3, 4] (fun v i wr => ∃ (k : Nat) (nn : Int), k ≤ n ∧ i = .int .i64 k ∧ v = .int .i64 nn ∧ wr = w) (fun _ i _ => n - (intOf i).toNat)
      case atStart => exact ⟨0, _, Nat.zero_le _, rfl, rfl, rfl⟩
      case round =>
        obtain ⟨k, nn, hk, rfl, rfl, rfl⟩ := hrel
        by_cases hlt : k < n
        · obtain ⟨cc, hcc⟩ := HIX.out k hlt
          have b1 : (k : Int) < (n : Int) := by omega
          go_wp2_with fail
          all_goals first
            | (go_ret; exact ⟨⟨_, rfl⟩, rfl⟩)
            | skip
          go_roundw
          case rel => exact ⟨k + 1, _, by omega, by go_num, rfl, by first | rfl | trivial⟩
          case measure => simp [intOf]; omega
        · obtain rfl : k = n := by omega
          go_wp2_with fail
          go_ret
          exact ⟨⟨_, rfl⟩, rfl⟩
    · go_loopw [3, 4] (fun v i wr => ∃ (k : Nat) (nn : Int), k ≤ n ∧ i = .int .i64 k ∧ v = .int .i64 nn ∧ wr = w) (fun _ i _ => n - (intOf i).toNat)
      case atStart => exact ⟨0, _, Nat.zero_le _, rfl, rfl, rfl⟩
      case round =>
        obtain ⟨k, nn, hk, rfl, rfl, rfl⟩ := hrel
        by_cases hlt : k < n
        · obtain ⟨cc, hcc⟩ := HIX.out k hlt
          have b1 : (k : Int) < (n : Int) := by omega
          go_wp2_with fail
          all_goals first
            | (go_ret; exact ⟨⟨_, rfl⟩, rfl⟩)
            | skip
          go_roundw
          case rel => exact ⟨k + 1, _, by omega, by go_num, rfl, by first | rfl | trivial⟩
          case measure => simp [intOf]; omega
        · obtain rfl : k = n := by omega
          go_wp2_with fail
          go_ret
          exact ⟨⟨_, rfl⟩, rfl⟩
  · have hd : decide (1 ≤ (n : Int) ∧ (n : Int) ≤ 6) = false := by simpa using h6
    clear hn h6
    go_enter Tryd.func20, Tryd.ntmps20
    go_wp2_with fail
    refine (l1In_any n 1 6 w).mono ?_
    rintro e w1 ⟨rfl, rfl⟩
    rw [hd]
    go_wp2_with fail
    go_ret
    exact ⟨⟨_, rfl⟩, rfl⟩

end Go.Proofs.YtfbkpdmphlgokaaDoor
