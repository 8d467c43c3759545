/- Idle calls. -/
import Derived.Test.YtmgmkgjefplfdaaLearn
namespace Go.Proofs.Ytmgmkgjefplfdaa
open Go.ChangeShapes Go.WideShapes Go.ChangeAt Go.RowKit
set_option linter.unusedVariables false

def pcTo (n k : Nat) : Nat := ((List.range k).filter fun i => n.testBit i).length

theorem pcTo_ten (n : Nat) : pcTo n 10 = pc n := rfl

theorem pcTo_succ (n k : Nat) : pcTo n (k + 1) = pcTo n k + (n.testBit k).toNat := by
  simp only [pcTo, List.range_succ, List.filter_append, List.length_append]
  cases h : n.testBit k <;> simp [h]

theorem pcTo_or (x y : Nat) : ∀ k, pcTo x k ≤ pcTo (x ||| y) k ∧ pcTo y k ≤ pcTo (x ||| y) k ∧ (2 * pcTo (x ||| y) k = pcTo x k + pcTo y k → ∀ i, i < k → x.testBit i = y.testBit i) := by
  intro k
  induction k with
  | zero => simp [pcTo]
  | succ k ih =>
    obtain ⟨h1, h2, h3⟩ := ih
    simp only [pcTo_succ, Nat.testBit_or]
    cases hx : x.testBit k <;> cases hy : y.testBit k <;> simp only [Bool.or_false, Bool.or_true, Bool.toNat_false, Bool.toNat_true, Bool.or_self]
    · refine ⟨by omega, by omega, fun h i hi => ?_⟩
      by_cases hik : i = k
      · subst hik; rw [hx, hy]
      · exact h3 (by omega) i (by omega)
    · exact ⟨by omega, by omega, fun h => by omega⟩
    · exact ⟨by omega, by omega, fun h => by omega⟩
    · refine ⟨by omega, by omega, fun h i hi => ?_⟩
      by_cases hik : i = k
      · subst hik; rw [hx, hy]
      · exact h3 (by omega) i (by omega)

theorem pc_same {x y : Nat} (hx : x < 1024) (hy : y < 1024) (h : 2 * pc (x ||| y) = pc x + pc y) : x = y := by
  have h1 := (pcTo_or x y 10).2.2 h
  apply Nat.eq_of_testBit_eq
  intro i
  by_cases hi : i < 10
  · exact h1 i hi
  · have hp : 2 ^ 10 ≤ 2 ^ i := Nat.pow_le_pow_right (by decide) (by omega)
    rw [Nat.testBit_lt_two_pow (by omega), Nat.testBit_lt_two_pow (by omega)]

theorem cnt_upd (s : Nat → Nat) (i v : Nat) : ∀ k, (i < k → cntTo (upd s i v) k + pc (s i) = cntTo s k + pc v) ∧ (k ≤ i → cntTo (upd s i v) k = cntTo s k) := by
  intro k
  induction k with
  | zero => exact ⟨fun h => absurd h (by omega), fun _ => rfl⟩
  | succ k ih =>
    simp only [cntTo]
    refine ⟨fun h => ?_, fun h => ?_⟩
    · by_cases hik : i = k
      · subst hik
        have := ih.2 (Nat.le_refl _)
        have e : upd s i v i = v := by simp [upd]
        rw [e]
        omega
      · have := ih.1 (by omega)
        have e : upd s i v k = s k := by simp [upd, Ne.symm hik]
        rw [e]
        omega
    · have := ih.2 (by omega)
      have e : upd s i v k = s k := by simp [upd]; omega
      rw [e, this]

theorem cnt_stp {F : Nat} (s : Nat → Nat) {a b : Nat} (hab : a < b) (hb : b < F) :
    (cntTo (stp s ((a : Int), (b : Int))) F : Int) - cntTo s F = 2 * pc (s a ||| s b) - pc (s a) - pc (s b) := by
  have h1 := (cnt_upd s a (s a ||| s b) F).1 (by omega)
  have h2 := (cnt_upd (upd s a (s a ||| s b)) b (s a ||| s b) F).1 hb
  have e : upd s a (s a ||| s b) b = s b := by simp [upd]; omega
  rw [e] at h2
  simp only [stp, Int.toNat_natCast]
  omega

/-- What a call teaches, counted by the model, and by the sets. -/
theorem learned_eq {F : Nat} {l : List (Int × Int)} (hg : gdB (F : Int) l = true) {k : Nat} (hk : k < l.length) :
    (cntTo (play F (l.take (k + 1))) F : Int) - cntTo (play F (l.take k)) F = 2 * pc (play F (l.take k) (ca l k).toNat ||| play F (l.take k) (cb l k).toNat) - pc (play F (l.take k) (ca l k).toNat) - pc (play F (l.take k) (cb l k).toNat) := by
  have hc := gd_call hg hk
  rw [play_succ F l k hk]
  have e1 : ca l k = ((ca l k).toNat : Int) := by omega
  have e2 : cb l k = ((cb l k).toNat : Int) := by omega
  have := cnt_stp (F := F) (play F (l.take k)) (a := (ca l k).toNat) (b := (cb l k).toNat) (by omega) (by omega)
  rw [← e1, ← e2] at this
  exact this

theorem idle_eq {F : Nat} {l : List (Int × Int)} (hg : gdB (F : Int) l = true) {k : Nat} (hk : k < l.length) :
    (((cntTo (play F (l.take (k + 1))) F : Int) - cntTo (play F (l.take k)) F) == 0) = pIdle (play F (l.take k)) (ca l k, cb l k) := by
  have hf := gd_fr hg
  rw [learned_eq hg hk, Bool.eq_iff_iff]
  simp only [pIdle, beq_iff_eq]
  constructor
  · intro h
    have := pc_same (play_small F (by omega) (l.take k) (ca l k).toNat) (play_small F (by omega) (l.take k) (cb l k).toNat) (by omega)
    rw [this]
  · intro h
    have h2 : play F (l.take k) (ca l k).toNat = play F (l.take k) (cb l k).toNat := by omega
    rw [h2, Nat.or_self]
    omega

def idleL (f : Int) (l : List (Int × Int)) : List Int := if gdB f l then tl pIdle f.toNat l l.length else []

theorem idleL_length (f : Int) (l : List (Int × Int)) : (idleL f l).length ≤ 60 := by
  unfold idleL
  cases h : gdB f l
  · simp
  · have h1 := gd_len' h
    have h2 := tl_le pIdle f.toNat l l.length
    simp only [if_true]
    omega

theorem implIdle_any (w : World) (f : Int) (ao : Option Addr) (cap : Nat) (l : List (Int × Int)) (n : Nat) (Hn : Hid (n = l.length)) (hs : n ≤ 1048576) (Hc : CallsAt w ao l) (hcap : n ≤ cap) :
    Calls Try.prog 132 #[.int .i64 f, .slice ao n cap] w fun e w' => ∃ v, e = .returned (.tuple #[v, .bool (gdB f l)]) ∧ w'.ownsRow w.heap.size 3 1 v (idleL f l).length (ns (idleL f l)) ∧ Below w.heap.size w w' := by
  have HHc := Lib.hid Hc
  have _hcap := hcap
  clear Hc
  cases hg : gdB f l
  · rw [show idleL f l = [] by simp [idleL, hg]]
    have Hg := Lib.hid hg
    clear hg
    go_enter Try.func132, Try.ntmps132
    go_wp2_with fail
    refine (that_no w f ao cap l n _ Hn hs HHc Hg).mono ?_
    rintro e w1 ⟨v, rfl, own, hb⟩
    have Hown := Lib.hid own
    clear own
    go_wp2_with fail
    go_ret2
    exact ⟨v, rfl, Hown.out, hb⟩
  · have hff := gd_fr hg
    obtain ⟨F, rfl⟩ := Int.eq_ofNat_of_zero_le (show 0 ≤ f by omega)
    rw [show idleL F l = tl pIdle F l n by simp [idleL, hg, Hn.out]]
    have hs60 : n ≤ 60 := by rw [Hn.out]; exact gd_len' hg
    have Hg := Lib.hid hg
    clear hg
    go_enter Try.func132, Try.ntmps132
    go_wp2_with fail
    refine (thatIdle w F ao cap l n Hn hs60 HHc Hg hff).mono ?_
    rintro e w1 ⟨v, rfl, own, hb⟩
    have Hown := Lib.hid own
    clear own
    go_wp2_with fail
    go_ret2
    exact ⟨v, rfl, Hown.out, hb⟩

end Go.Proofs.Ytmgmkgjefplfdaa
