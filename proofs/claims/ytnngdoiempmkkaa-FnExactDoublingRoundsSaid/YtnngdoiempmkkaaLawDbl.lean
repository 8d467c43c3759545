/- The walk of the law FnExactDoublingRounds. -/
import Derived.Test.YtnngdoiempmkkaaDblS
namespace Go.Proofs.Ytnngdoiempmkkaa
open Go.ChangeShapes Go.WideShapes Go.ChangeAt Go.RowKit
set_option linter.unusedVariables false


def dblB (f : Int) : Bool := frB f && f % 2 == 0
def dblR (f : Int) : List (List (Int × Int)) := if dblB f then dR f.toNat (KK f.toNat) else []
theorem dbl_parts {f : Int} (h : dblB f = true) : ∃ H : Nat, f = ((2 * H : Nat) : Int) ∧ 1 ≤ H ∧ H ≤ 5 := by
  simp only [dblB, frB, Bool.and_eq_true, decide_eq_true_eq, beq_iff_eq] at h
  exact ⟨(f / 2).toNat, by omega, by omega, by omega⟩
theorem dR_rows (F k : Nat) (hF : F ≤ 10) : ∀ i, (crow (dR F k) i).length ≤ 1048576 := by
  intro i
  by_cases hi : i < (dR F k).length
  · rw [← crow_get hi]
    simp only [dR, List.getElem_map, srt_length, drow_length]
    omega
  · rw [crow_none (by omega)]; simp
theorem dblR_rows (f : Int) : ∀ i, (crow (dblR f) i).length ≤ 1048576 := by
  intro i
  unfold dblR
  cases h : dblB f
  · rw [if_neg (by simp)]; simp [crow]
  · obtain ⟨H, hf, h1, h2⟩ := dbl_parts h
    rw [if_pos rfl]
    exact dR_rows _ _ (by omega) i
theorem dblR_len (f : Int) : (dblR f).length ≤ 4 := by
  unfold dblR
  split
  · rw [dR_length]; exact KK_le _
  · simp

theorem implDbl_any (w : World) (f : Int) :
    Calls Try.prog 24 #[.int .i64 f] w fun e w' => ∃ v X, e = .returned (.tuple #[v, .bool (dblB f)]) ∧ OwnCS w' w.heap.size v X (dblR f) ∧ Below w.heap.size w w' := by
  cases hb : dblB f
  · have hR : dblR f = [] := by rw [dblR, hb]; rfl
    rw [hR]
    have Hnil := Lib.hid (OwnCS.nil w w.heap.size)
    cases hf : frB f
    · have Hf := Lib.hid hf
      clear hb hR hf
      go_enter Try.func24, Try.ntmps24
      go_wp2_with fail
      refine (canBeFriends_any f w).mono ?_
      rintro e w1 ⟨rfl, rfl⟩
      rw [Hf.out]
      go_wp2_with fail
      go_ret2
      first | exact ⟨_, [], rfl, Hnil.out, Below.refl _ _⟩ | exact ⟨_, rfl, ⟨[], Hnil.out⟩, Below.refl _ _⟩
    · have Hf := Lib.hid hf
      have h1 : 1 ≤ f := by simp only [frB, decide_eq_true_eq] at hf; exact hf.1
      have hodd : (f.tmod 2 != 0) = true := by
        have h2 : (f % 2 == 0) = false := by rw [dblB, hf, Bool.true_and] at hb; exact hb
        rw [Int.tmod_eq_emod_of_nonneg (by omega)]
        simpa using h2
      have hodd2 : (f % 2 != 0) = true := by
        have h2 : (f % 2 == 0) = false := by rw [dblB, hf, Bool.true_and] at hb; exact hb
        simpa using h2
      clear hb hR hf
      go_enter Try.func24, Try.ntmps24
      go_wp2_with fail
      refine (canBeFriends_any f w).mono ?_
      rintro e w1 ⟨rfl, rfl⟩
      rw [Hf.out]
      go_wp2_with fail
      go_ret2
      first | exact ⟨_, [], rfl, Hnil.out, Below.refl _ _⟩ | exact ⟨_, rfl, ⟨[], Hnil.out⟩, Below.refl _ _⟩
  · have hR : dblR f = dR f.toNat (KK f.toNat) := by rw [dblR, hb]; rfl
    obtain ⟨H, hf, h1, h2⟩ := dbl_parts hb
    subst hf
    rw [hR, show (((2 * H : Nat) : Int)).toNat = 2 * H from rfl]
    exact implDbl_yes (2 * H) H w rfl h1 h2

theorem specDbl_any (w : World) (f : Int) :
    Calls Try.prog 23 #[.int .i64 f] w fun e w' => ∃ v X, e = .returned (.tuple #[v, .bool (dblB f)]) ∧ OwnCS w' w.heap.size v X (dblR f) ∧ Below w.heap.size w w' := by
  cases hb : dblB f
  · have hR : dblR f = [] := by rw [dblR, hb]; rfl
    rw [hR]
    have Hnil := Lib.hid (OwnCS.nil w w.heap.size)
    cases hf : frB f
    · have Hf := Lib.hid hf
      clear hb hR hf
      go_enter Try.func23, Try.ntmps23
      go_wp2_with fail
      refine (caFriends_any f w).mono ?_
      rintro e w1 ⟨rfl, rfl⟩
      rw [Hf.out]
      go_wp2_with fail
      go_ret2
      first | exact ⟨_, [], rfl, Hnil.out, Below.refl _ _⟩ | exact ⟨_, rfl, ⟨[], Hnil.out⟩, Below.refl _ _⟩
    · have Hf := Lib.hid hf
      have h1 : 1 ≤ f := by simp only [frB, decide_eq_true_eq] at hf; exact hf.1
      have hodd : (f.tmod 2 != 0) = true := by
        have h2 : (f % 2 == 0) = false := by rw [dblB, hf, Bool.true_and] at hb; exact hb
        rw [Int.tmod_eq_emod_of_nonneg (by omega)]
        simpa using h2
      have hodd2 : (f % 2 != 0) = true := by
        have h2 : (f % 2 == 0) = false := by rw [dblB, hf, Bool.true_and] at hb; exact hb
        simpa using h2
      clear hb hR hf
      go_enter Try.func23, Try.ntmps23
      go_wp2_with fail
      refine (caFriends_any f w).mono ?_
      rintro e w1 ⟨rfl, rfl⟩
      rw [Hf.out]
      go_wp2_with fail
      go_ret2
      first | exact ⟨_, [], rfl, Hnil.out, Below.refl _ _⟩ | exact ⟨_, rfl, ⟨[], Hnil.out⟩, Below.refl _ _⟩
  · have hR : dblR f = dR f.toNat (KK f.toNat) := by rw [dblR, hb]; rfl
    obtain ⟨H, hf, h1, h2⟩ := dbl_parts hb
    subst hf
    rw [hR, show (((2 * H : Nat) : Int)).toNat = 2 * H from rfl]
    exact specDbl_yes (2 * H) H w rfl h1 h2

set_option maxRecDepth 20000 in
theorem walkDbl (W : World) (a0 : Int) (_w0 : (Lit.int .i64 a0).wf = true) :
    Calls Try.prog 6 #[.int .i64 a0] W fun e w' => e = .returned (.bool true) ∧ Below W.heap.size W w' := by
  have hok : (dblB a0 != dblB a0) = false := by simp
  have hlen := dblR_len a0
  have HS := Lib.hid (dblR_rows a0)
  have HS2 : Hid (∀ i, i < (dblR a0).length → (crow (dblR a0) i).length ≤ 1048576) := Lib.hid (fun i _ => HS.out i)
  have hct := cctot_le HS.out (dblR a0).length
  have hcq : (cctot (dblR a0) (dblR a0).length : Int) ≤ 2097152 * 1048576 := by omega
  have hl1 : (dblR a0).length ≤ 1048576 := by omega
  clear hct
  go_enter Try.func6, Try.ntmps6
  go_wp2_with fail
  refine (specDbl_any W a0).mono ?_
  rintro e w2 ⟨vw, Xw, rfl, ow, b2⟩
  have Ow := Lib.hid ow
  have hW2 := b2.size
  clear ow
  go_wp2_with fail
  refine (implDbl_any w2 a0).mono ?_
  rintro e w4 ⟨vg, Xg, rfl, og, bel4⟩
  have d4 : Below w2.heap.size w2 w4 := bel4
  have Og := Lib.hid og
  have Ow4 := Lib.hid (Ow.out.later bel4)
  clear og bel4
  go_wp2_with fail
  refine (eqCallSS_own vg vw Xg Xw (dblR a0) w4 hl1 HS2.out Og.out Ow4.out).mono ?_
  rintro e w9 ⟨rfl, bel9⟩
  have d9 : Below w2.heap.size w2 w9 := d4.trans (bel9.mono d4.size)
  have Og9 := Lib.hid (Og.out.later bel9)
  clear bel9 d4 Ow4
  go_wp2_with fail
  refine (markCallSS_any _ vg Xg (dblR a0) w9 hl1 HS.out Og9.out).mono ?_
  rintro e w10 ⟨rfl, om, bel10⟩
  have d10 : Below w2.heap.size w2 w10 := d9.trans bel10
  have Om := Lib.hid om
  have hmm : ((1 + (cctot (dblR a0) (dblR a0).length : Int)) != (1 + (cctot (dblR a0) (dblR a0).length : Int))) = false := by simp
  clear om bel10 d9
  go_wp2_with fail
  refine (heldCallSS_any _ vg Xg (dblR a0) w10 hl1 HS.out Om.out).mono ?_
  rintro e w' ⟨rfl, rfl⟩
  go_wp2_with fail
  refine (implDbl_any w10 a0).mono ?_
  rintro e w12 ⟨vh, Xh, rfl, oh, bel12⟩
  have d12 : Below w2.heap.size w2 w12 := d10.trans (bel12.mono d10.size)
  have Oh := Lib.hid oh
  have Om12 := Lib.hid (Om.out.later bel12)
  have Ow12 := Lib.hid (Ow.out.later d12)
  clear oh bel12 d10
  go_wp2_with fail
  refine (eqCallSS_own vh vw Xh Xw (dblR a0) w12 hl1 HS2.out Oh.out Ow12.out).mono ?_
  rintro e w13 ⟨rfl, bel13⟩
  have d13 : Below w2.heap.size w2 w13 := d12.trans (bel13.mono d12.size)
  have Om13 := Lib.hid (Om12.out.later bel13)
  clear bel13 d12
  go_wp2_with fail
  refine (heldCallSS_any _ vg Xg (dblR a0) w13 hl1 HS.out Om13.out).mono ?_
  rintro e w' ⟨rfl, rfl⟩
  go_wp2_with fail
  go_ret
  exact ⟨rfl, b2.trans (d13.mono hW2)⟩

end Go.Proofs.Ytnngdoiempmkkaa
