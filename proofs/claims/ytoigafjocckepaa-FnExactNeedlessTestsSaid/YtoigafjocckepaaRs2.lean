/- Results of tests: the model. -/
import Derived.Test.YtoigafjocckepaaRs0
namespace Go.Proofs.Ytoigafjocckepaa
open Go.ChangeShapes Go.WideShapes Go.ChangeAt Go.RowKit
set_option linter.unusedVariables false

theorem wiResults_zero (ao : Option Addr) (cap : Nat) (b : Int) (w : World) :
    Calls Try.prog 54 #[.slice ao 0 cap, .int .i64 b] w fun e w' => e = .returned (.string ⟨#[]⟩) ∧ w = w' := by
  go_enter Try.func54, Try.ntmps54
  go_wp2_with fail
  go_rounds 1
  go_ret
  exact ⟨rfl, rfl⟩

set_option maxRecDepth 20000 in
theorem wiResults_pos (g0 off cap : Nat) (A : Nat → Option Addr) (C : Nat → Nat) (f : Int) (L : List (List Int)) (n b : Nat) (w : World) (Hn : Hid (n = L.length)) (Hg : Hid (wiB f L = true)) (hb : b < 1024) (Hc : Hid (SSAt w g0 off A C L n)) :
    Calls Try.prog 54 #[.slice (some ⟨g0, off, none⟩) n cap, .int .i64 (b : Int)] w fun e w' => e = .returned (.string (rtx (bws L) b n)) ∧ w = w' := by
  have hg := wi_parts Hg.out
  have hn12 : n ≤ 12 := by have := Hn.out; omega
  have hf : f ≤ 10 := hg.1.2
  have hb0 : (0 : Int) ≤ b := by omega
  clear hg
  go_enter Try.func54, Try.ntmps54
  go_wp2_with fail
  go_loopw [5, 10] (fun v i wr => ∃ k : Nat, k ≤ n ∧ i = .int .i64 k ∧ v = .string (rtx (bws L) b k) ∧ w = wr) (fun _ i _ => n - (intOf i).toNat)
  case atStart => exact ⟨0, Nat.zero_le _, rfl, rfl, rfl⟩
  case round =>
    obtain ⟨k, hk, rfl, rfl, rfl⟩ := hrel
    by_cases hlt : k < n
    · obtain ⟨h0, hA⟩ := Hc.out k hlt
      have HA := Lib.hid hA
      have hkL : k < L.length := by rw [← Hn.out]; exact hlt
      have hr := wi_row Hg.out hkL
      have Hr := Lib.hid hr.1
      have hk1 : (0 : Int) ≤ k := by omega
      have hk2 : (k : Int) < n := by omega
      have hlen10 := hr.2.2
      have hrl := bw_lt hf hr.1
      have hba := bits_and_int (bw (row L k)) b hrl hb
      have hne := and_ne (bw (row L k)) b
      have Hs : Hid (rtx (bws L) b (k + 1) = rtx (bws L) b k ++ (if mtB (bw (row L k)) b then ⟨#[49]⟩ else ⟨#[48]⟩)) := by
        show _ = _
        rw [rtx, bws_at L k hkL]
      have hsz := rtx_size (bws L) b k
      have hB := fun W hc => wiBits_any (A k) (C k) f hf (row L k) _ W rfl Hr.out hc
      obtain ⟨S, hS⟩ : ∃ S, rtx (bws L) b k = S := ⟨_, rfl⟩
      rw [hS] at Hs hsz ⊢
      obtain ⟨q, hq⟩ : ∃ q : Int, ((bw (row L k) : Nat) : Int) = q := ⟨_, rfl⟩
      rw [← hba, hq] at hne
      simp only [hq] at hB
      have hs2 : ¬ S.size + 1 > 9223372036854775807 := by omega
      cases hm : mtB (bw (row L k)) b
      · rw [hm] at hne Hs
        clear hm hr hrl hba hS hq hA
        go_wp2_with fail
        refine (hB _ HA.out).mono ?_
        rintro e w' ⟨rfl, rfl⟩
        go_wp2_with fail
        go_roundw
        case rel => exact ⟨k + 1, by omega, by go_num, by rw [Hs.out]; rfl, by trivial⟩
        case measure => simp [intOf]; omega
      · rw [hm] at hne Hs
        clear hm hr hrl hba hS hq hA
        go_wp2_with fail
        refine (hB _ HA.out).mono ?_
        rintro e w' ⟨rfl, rfl⟩
        go_wp2_with fail
        go_roundw
        case rel => exact ⟨k + 1, by omega, by go_num, by rw [Hs.out]; rfl, by trivial⟩
        case measure => simp [intOf]; omega
    · obtain rfl : k = n := by omega
      go_wp2_with fail
      go_ret
      exact ⟨rfl, rfl⟩

theorem wiResults_any (ao : Option Addr) (cap : Nat) (f : Int) (L : List (List Int)) (n b : Nat) (w : World) (Hn : Hid (n = L.length)) (Hg : Hid (wiB f L = true)) (hb : b < 1024) (Hc : Hid (RowsAt w ao L)) :
    Calls Try.prog 54 #[.slice ao n cap, .int .i64 (b : Int)] w fun e w' => e = .returned (.string (rtx (bws L) b n)) ∧ w = w' := by
  rcases Hc.out with h | ⟨g0, off, A, C, rfl, hc, hcap⟩
  · subst h
    have h0 := Hn.out
    subst h0
    exact wiResults_zero ao cap b w
  · exact wiResults_pos g0 off cap A C f L n b w Hn Hg hb (by rw [Hn.out]; exact hc)

end Go.Proofs.Ytoigafjocckepaa
