/- Whether all know behind letters: the model and the program. -/
import Derived.Test.YtolkfgjgnpjpkaaMPlay
namespace Go.Proofs.Ytolkfgjgnpjpkaa
open Go.ChangeShapes Go.WideShapes Go.ChangeAt Go.RowKit
set_option linter.unusedVariables false


/-- Behind letters of so many friends all know. -/
def knowL (f : Int) (l : List (Int × Int)) : Bool := gdL f l && allB f.toNat (playL f.toNat l)
theorem lack_all {F : Nat} (hF : F ≤ 10) {s : Nat → Nat} (hs : ∀ i, s i < 2 ^ F) : ((lackTo F s F : Int) == 0) = allB F s := by
  rw [Bool.eq_iff_iff]
  have key : ∀ i, pc (s i) < F ↔ ¬ s i = 2 ^ F - 1 := by
    intro i
    have hp : 2 ^ F ≤ 1024 := Nat.pow_le_pow_right (n := 2) (by decide) hF
    have hx := full_pc ⟨F, by omega⟩ ⟨s i, by have := hs i; omega⟩ (hs i)
    simp only at hx
    constructor
    · intro h e; have := hx.2.2 e; omega
    · intro h
      rcases Nat.lt_or_ge (pc (s i)) F with h1 | h1
      · exact h1
      · exact absurd (hx.2.1 (by omega)) h
  simp only [beq_iff_eq, allB, List.all_eq_true, List.mem_range]
  constructor
  · intro h i hi
    have h0 : lackTo F s F = 0 := by omega
    have hf : (List.range F).filter (fun i => decide (pc (s i) < F)) = [] := List.eq_nil_of_length_eq_zero h0
    have := List.filter_eq_nil_iff.1 hf i (List.mem_range.2 hi)
    by_cases e : s i = 2 ^ F - 1
    · exact e
    · exact absurd (by simpa using (key i).2 e) this
  · intro h
    have : lackTo F s F = 0 := by
      unfold lackTo
      rw [List.filter_eq_nil_iff.2]
      · rfl
      · intro i hi
        have h1 := h i (List.mem_range.1 hi)
        have h2 := mt (key i).1 (by simpa using h1)
        simpa using h2
    omega
set_option maxRecDepth 20000 in
theorem specAllL_any (w : World) (f : Int) (ao : Option Addr) (cap : Nat) (l : List (Int × Int)) (n : Nat) (Hn : Hid (n = l.length)) (hs : n ≤ 1048576) (Hc : CallsAt w ao l) :
    Calls Try.prog 29 #[.int .i64 f, .slice ao n cap] w fun e w' => e = .returned (.tuple #[.bool (knowL f l), .bool (gdL f l)]) ∧ Below w.heap.size w w' := by
  have HHc := Lib.hid Hc
  clear Hc
  cases hg : gdL f l
  · have hR : knowL f l = false := by simp [knowL, hg]
    rw [hR]
    have Hg := Lib.hid hg
    clear hg hR
    go_enter Try.func29, Try.ntmps29
    go_wp2_with fail
    refine (leGood_any f ao cap l n w Hn.out (by omega) HHc.out).mono ?_
    rintro e w1 ⟨rfl, hb⟩
    rw [Hg.out]
    go_wp2_with fail
    go_ret2
    exact ⟨rfl, hb⟩
  · have hff := gl_fr hg
    obtain ⟨F, rfl⟩ := Int.eq_ofNat_of_zero_le (show 0 ≤ f by omega)
    have hR : knowL F l = allB F (playL F l) := by simp [knowL, hg]
    have HR := Lib.hid hR
    have Hg := Lib.hid hg
    clear hg hR
    go_enter Try.func29, Try.ntmps29
    go_wp2_with fail
    refine (leGood_any F ao cap l n w Hn.out (by omega) HHc.out).mono ?_
    rintro e w1 ⟨rfl, hb1⟩
    rw [Hg.out]
    have Hc1 := Lib.hid (HHc.out.kept hb1)
    go_wp2_with fail
    refine (lePlay_any F ao cap l n w1 Hn Hg.out Hc1.out).mono ?_
    rintro e w2 ⟨v, rfl, own2, hb2⟩
    have Hown2 := Lib.hid own2
    have hb3 : Below w.heap.size w w2 := hb1.trans (hb2.mono hb1.size)
    clear own2 hb2
    go_wp2_with fail
    refine (caAll_any _ F v (playL F l) w2 (by omega) (by omega) Hown2.out).mono ?_
    rintro e w3 ⟨rfl, hb4⟩
    go_wp2_with fail
    go_ret2
    exact ⟨by rw [HR.out]; rfl, hb3.trans (hb4.mono hb3.size)⟩

set_option maxRecDepth 20000 in
theorem implAllL_any (w : World) (f : Int) (ao : Option Addr) (cap : Nat) (l : List (Int × Int)) (n : Nat) (Hn : Hid (n = l.length)) (hs : n ≤ 1048576) (Hc : CallsAt w ao l) :
    Calls Try.prog 30 #[.int .i64 f, .slice ao n cap] w fun e w' => e = .returned (.tuple #[.bool (knowL f l), .bool (gdL f l)]) ∧ Below w.heap.size w w' := by
  have HHc := Lib.hid Hc
  clear Hc
  cases hg : gdL f l
  · have hR : knowL f l = false := by simp [knowL, hg]
    rw [hR]
    have Hg := Lib.hid hg
    clear hg hR
    go_enter Try.func30, Try.ntmps30
    go_wp2_with fail
    refine (areLetters_any f ao cap l n w Hn.out (by omega) HHc.out).mono ?_
    rintro e w1 ⟨rfl, hb⟩
    rw [Hg.out]
    go_wp2_with fail
    go_ret2
    exact ⟨rfl, hb⟩
  · have hff := gl_fr hg
    obtain ⟨F, rfl⟩ := Int.eq_ofNat_of_zero_le (show 0 ≤ f by omega)
    have hR : knowL F l = allB F (playL F l) := by simp [knowL, hg]
    have HR := Lib.hid hR
    have Hg := Lib.hid hg
    clear hg hR
    go_enter Try.func30, Try.ntmps30
    go_wp2_with fail
    refine (areLetters_any F ao cap l n w Hn.out (by omega) HHc.out).mono ?_
    rintro e w1 ⟨rfl, hb1⟩
    rw [Hg.out]
    have Hc1 := Lib.hid (HHc.out.kept hb1)
    go_wp2_with fail
    refine (readersBehind_any F ao cap l n w1 Hn Hg.out Hc1.out).mono ?_
    rintro e w2 ⟨bs, hl, rfl, hr, hb2⟩
    have Hr := Lib.hid hr
    have hb3 : Below w.heap.size w w2 := hb1.trans (hb2.mono hb1.size)
    clear hr hb2
    go_wp2_with fail
    refine (lacking_any _ _ F F bs (playL F l) w2 hl (Nat.le_refl _) (by omega) Hr.out).mono ?_
    rintro e w3 ⟨rfl, hb4⟩
    go_wp2_with fail
    go_ret2
    exact ⟨by rw [HR.out, ← lack_all (by omega) (playL_lt F l)]; rfl, hb3.trans (hb4.mono hb3.size)⟩

end Go.Proofs.Ytolkfgjgnpjpkaa
