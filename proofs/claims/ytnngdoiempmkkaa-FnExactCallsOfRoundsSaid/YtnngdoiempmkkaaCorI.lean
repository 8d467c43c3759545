/- The calls of rounds: the program. -/
import Derived.Test.YtnngdoiempmkkaaGrow
namespace Go.Proofs.Ytnngdoiempmkkaa
open Go.ChangeShapes Go.WideShapes Go.ChangeAt Go.RowKit
set_option linter.unusedVariables false


set_option maxRecDepth 20000 in
theorem concat_any (w : World) (ao : Option Addr) (cap : Nat) (L : List (List (Int × Int))) (n : Nat) (Hn : Hid (n = L.length)) (hn20 : n ≤ 20) (Hsh : Hid (∀ i, (crow L i).length ≤ 10)) (HA : Hid (RowsAt w ao L)) :
    Calls Try.prog 28 #[.slice ao n cap] w fun e w' => ∃ v, e = .returned v ∧ w'.ownsRow w.heap.size 46 2 v L.flatten.length (cs L.flatten) ∧ Below w.heap.size w w' := by
  obtain ⟨i0, hi, hz0, hz1, hz2⟩ := info_parts info46
  have Hfl := Lib.hid (flat_len Hsh.out)
  go_enter Try.func28, Try.ntmps28
  go_wp2_with fail
  go_loopw [3, 11] (fun v i wr => ∃ k : Nat, k ≤ n ∧ i = .int .i64 k ∧ v = .int .i64 ((flat L k).length : Nat) ∧ Below w.heap.size w wr) (fun _ i _ => n - (intOf i).toNat)
  case atStart => exact ⟨0, Nat.zero_le _, rfl, by rw [flat_zero]; rfl, Below.refl _ _⟩
  case round =>
    obtain ⟨k, hk, rfl, rfl, hbel⟩ := hrel
    by_cases hlt : k < n
    · rcases HA.out with h | ⟨b0, off0, A, C, rfl, hc, hcap⟩
      · exact absurd hlt (by rw [Hn.out, h]; simp)
      have hkl : k < L.length := by rw [← Hn.out]; exact hlt
      have h0 := ((hc.kept hbel) k hkl).1
      have hs := hbel.size
      have hk0 : (0 : Int) ≤ k := by omega
      have hk2 : (k : Int) < n := by omega
      have hfk := Hfl.out k (by omega)
      have hck := Hsh.out k
      have Hsucc : Hid ((flat L (k + 1)).length = (flat L k).length + (crow L k).length) := Lib.hid (by rw [flat_succ L k hkl, List.length_append])
      have hd : decide (((flat L k).length : Int) + ((crow L k).length : Int) < 0) = false := by simp only [decide_eq_false_iff_not]; omega
      clear hc hcap
      go_wp2_with fail
      go_roundw
      case rel => exact ⟨k + 1, by omega, by go_num, by rw [Hsucc.out]; go_num, hbel⟩
      case measure => simp [intOf]; omega
    · have hk' : k = L.length := by rw [← Hn.out]; omega
      have hfl : (flat L k).length ≤ 200 := by have := Hfl.out k (by omega); have := Hn.out; omega
      have hs := hbel.size
      clear hk'
      go_wp2_with fail
      refine (grow_any _ wr (by omega)).mono ?_
      rintro e w1 ⟨v0, rfl, own0, hb1⟩
      have Hown0 := Lib.hid (own_base hs own0)
      have hbel1 : Below w.heap.size w w1 := hbel.trans (hb1.mono hs)
      clear own0 hb1 hbel hfl hk
      go_wp2_with fail
      go_loopw [6, 27] (fun v i wr => ∃ k : Nat, k ≤ n ∧ i = .int .i64 k ∧ wr.ownsRow w.heap.size 46 2 v (flat L k).length (cs (flat L k)) ∧ Below w.heap.size w wr) (fun _ i _ => n - (intOf i).toNat)
      case atStart => exact ⟨0, Nat.zero_le _, rfl, by rw [flat_zero]; exact Hown0.out, hbel1⟩
      case round =>
        obtain ⟨k, hk, rfl, hor, hbel⟩ := hrel
        by_cases hlt : k < n
        · rcases HA.out with h | ⟨b0, off0, A, C, rfl, hc, hcap⟩
          · exact absurd hlt (by rw [Hn.out, h]; simp)
          have hkl : k < L.length := by rw [← Hn.out]; exact hlt
          obtain ⟨h0, hA⟩ := (hc.kept hbel) k hkl
          have hs := hbel.size
          have hk0 : (0 : Int) ≤ k := by omega
          have hk2 : (k : Int) < n := by omega
          have HAk := Lib.hid hA
          have Hor := Lib.hid hor
          have Hnil := Lib.hid (hcap k hkl).2
          have hfk := Hfl.out k (by omega)
          have hck := Hsh.out k
          have Hsucc := Lib.hid (flat_succ L k hkl)
          clear hc hcap hA hor
          go_wp2_with (at_builtin; refine step_round _ rfl _ _ 29 rfl w.heap.size 46 i0 (.agg #[.int .i64 0, .int .i64 0]) Try.underlying29 hi hz0 hz1 hz2 rfl _ _ (flat L k) rfl Hor.out (A k) _ (C k) (crow L k) rfl rfl HAk.out Hnil.out (by omega) hs ?_)
          intro v1 w2 own1 hb1
          have Hown : Hid (w2.ownsRow w.heap.size 46 2 v1 (flat L (k + 1)).length (cs (flat L (k + 1)))) := Lib.hid (by rw [Hsucc.out, List.length_append]; exact own1)
          have hb2 : Below w.heap.size w w2 := hbel.trans hb1
          clear own1 hb1 hbel h0
          go_wp2_with fail
          go_roundw
          case rel => exact ⟨k + 1, by omega, by go_num, Hown.out, hb2⟩
          case measure => simp [intOf]; omega
        · have hk' : k = L.length := by rw [← Hn.out]; omega
          rw [hk', flat_all] at hor
          have Hor := Lib.hid hor
          clear hor hk'
          go_wp2_with fail
          go_ret
          exact ⟨_, rfl, Hor.out, hbel⟩

set_option maxRecDepth 20000 in
theorem implCOR_any (w : World) (f : Int) (ao : Option Addr) (cap : Nat) (L : List (List (Int × Int))) (n : Nat) (Hn : Hid (n = L.length)) (hm : n ≤ 9223372036854775807) (HL : Hid (∀ i, (crow L i).length ≤ 9223372036854775807)) (HA : Hid (RowsAt w ao L)) :
    Calls Try.prog 13 #[.int .i64 f, .slice ao n cap] w fun e w' => ∃ v, e = .returned (.tuple #[v, .bool (corB f L)]) ∧ w'.ownsRow w.heap.size 46 2 v (corR f L).length (cs (corR f L)) ∧ Below w.heap.size w w' := by
  cases hg : rndsB f L
  · have hB : corB f L = false := by simp [corB, hg]
    have hR : corR f L = [] := by simp [corR, hB]
    rw [hB, hR]
    have Hg := Lib.hid hg
    clear hg hB hR
    go_enter Try.func13, Try.ntmps13
    go_wp2_with fail
    refine (areRounds_any f ao cap L n w Hn hm HL HA).mono ?_
    rintro e w1 ⟨rfl, hb⟩
    rw [Hg.out]
    go_wp2_with fail
    go_ret2
    exact ⟨.slice none 0 0, rfl, World.ownsRow_nil _ _ _ _, hb⟩
  · have Hg := Lib.hid hg
    have Hsh := Lib.hid (rnds_short hg)
    have hn20 : n ≤ 20 := by have := rnds_len20 hg; rw [← Hn.out] at this; exact this
    by_cases h60 : L.flatten.length ≤ 60
    · have hB : corB f L = true := by unfold corB; rw [hg, decide_eq_true h60]; rfl
      have hR : corR f L = L.flatten := by simp [corR, hB]
      have hd : decide ((L.flatten.length : Int) > 60) = false := by simp only [decide_eq_false_iff_not]; omega
      rw [hB, hR]
      clear hB hR hg
      have Hcon := Lib.hid (fun W h => concat_any W ao cap L n Hn hn20 Hsh h)
      generalize L.flatten = F at *
      go_enter Try.func13, Try.ntmps13
      go_wp2_with fail
      refine (areRounds_any f ao cap L n w Hn hm HL HA).mono ?_
      rintro e w1 ⟨rfl, hb⟩
      rw [Hg.out]
      go_wp2_with fail
      refine (Hcon.out w1 (HA.out.kept hb)).mono ?_
      rintro e w2 ⟨v, rfl, own, hb2⟩
      obtain ⟨ao2, cap2, rfl, _⟩ := own_shape_s own rfl
      have Hown := Lib.hid (own_base hb.size own)
      have hb3 : Below w.heap.size w w2 := hb.trans (hb2.mono hb.size)
      clear own hb2
      go_wp2_with fail
      go_ret2
      exact ⟨_, rfl, Hown.out, hb3⟩
    · have hB : corB f L = false := by simp only [corB, h60]; simp
      have hR : corR f L = [] := by simp [corR, hB]
      have hd : decide ((L.flatten.length : Int) > 60) = true := by simp only [decide_eq_true_eq]; omega
      rw [hB, hR]
      clear hB hR hg
      have Hcon := Lib.hid (fun W h => concat_any W ao cap L n Hn hn20 Hsh h)
      generalize L.flatten = F at *
      go_enter Try.func13, Try.ntmps13
      go_wp2_with fail
      refine (areRounds_any f ao cap L n w Hn hm HL HA).mono ?_
      rintro e w1 ⟨rfl, hb⟩
      rw [Hg.out]
      go_wp2_with fail
      refine (Hcon.out w1 (HA.out.kept hb)).mono ?_
      rintro e w2 ⟨v, rfl, own, hb2⟩
      obtain ⟨ao2, cap2, rfl, _⟩ := own_shape_s own rfl
      have hb3 : Below w.heap.size w w2 := hb.trans (hb2.mono hb.size)
      clear own hb2
      go_wp2_with fail
      go_ret2
      exact ⟨.slice none 0 0, rfl, World.ownsRow_nil _ _ _ _, hb3⟩

end Go.Proofs.Ytnngdoiempmkkaa
