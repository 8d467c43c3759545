/- Lists of calls put behind each other. -/
import Derived.Test.YtibjapfaljeclaaDoorGrow
namespace Go.Proofs.YtibjapfaljeclaaDoor
open Go.ChangeShapes Go.WideShapes Go.ChangeAt Go.RowKit
set_option linter.unusedVariables false

set_option maxRecDepth 20000 in
theorem concat_any (w : World) (ao : Option Addr) (cap : Nat) (L : List (List (Int × Int))) (n : Nat) (Hn : Hid (n = L.length)) (hn20 : n ≤ 20) (Hsh : Hid (∀ i, (crow L i).length ≤ 60)) (HA : Hid (RowsAt w ao L)) :
    Calls Tryd.prog 21 #[.slice ao n cap] w fun e w' => ∃ v, e = .returned v ∧ w'.ownsRow w.heap.size 35 2 v L.flatten.length (cs L.flatten) ∧ Below w.heap.size w w' := by
  obtain ⟨i0, hi, hz0, hz1, hz2⟩ := info_parts info35
  have Hfl := Lib.hid (flat_len Hsh.out)
  go_enter Tryd.func21, Tryd.ntmps21
  go_wp2_with fail
  go_loopw [3, 11] (fun v i wr => ∃ k : Nat, k ≤ n ∧ i = .int .i64 k ∧ v = .int .i64 ((flat L k).length : Nat) ∧ Below w.heap.size w wr) (fun _ i _ => n - (intOf i).toNat)
  case atStart => exact ⟨0, Nat.zero_le _, rfl, by rw [flat_zero]; rfl, Below.refl _ _⟩
  case round =>
    obtain ⟨k, hk, rfl, rfl, hbel⟩ := hrel
    by_cases hlt : k < n
    · rcases HA.out with h | ⟨b0, off0, A, C, rfl, hc, hcap⟩
      · exact absurd hlt (by rw [Hn.out, h]; simp)
      have hkl : k < L.length := by rw [← Hn.out]; exact hlt
      have h0 := ((hc.kept hbel) k hkl).1
      have hs := hbel.size
      have hk0 : (0 : Int) ≤ k := by omega
      have hk2 : (k : Int) < n := by omega
      have hfk := Hfl.out k (by omega)
      have hck := Hsh.out k
      have Hsucc : Hid ((flat L (k + 1)).length = (flat L k).length + (crow L k).length) := Lib.hid (by rw [flat_succ L k hkl, List.length_append])
      have hd : decide (((flat L k).length : Int) + ((crow L k).length : Int) < 0) = false := by simp only [decide_eq_false_iff_not]; omega
      clear hc hcap
      go_wp2_with fail
      go_roundw
      case rel => exact ⟨k + 1, by omega, by go_num, by rw [Hsucc.out]; go_num, hbel⟩
      case measure => simp [intOf]; omega
    · have hk' : k = L.length := by rw [← Hn.out]; omega
      have hfl : (flat L k).length ≤ 1200 := by have := Hfl.out k (by omega); have := Hn.out; omega
      have hs := hbel.size
      clear hk'
      go_wp2_with fail
      refine (grow_any _ wr (by omega)).mono ?_
      rintro e w1 ⟨v0, rfl, own0, hb1⟩
      have Hown0 := Lib.hid (own_base hs own0)
      have hbel1 : Below w.heap.size w w1 := hbel.trans (hb1.mono hs)
      clear own0 hb1 hbel hfl hk
      go_wp2_with fail
      go_loopw [6, 27] (fun v i wr => ∃ k : Nat, k ≤ n ∧ i = .int .i64 k ∧ wr.ownsRow w.heap.size 35 2 v (flat L k).length (cs (flat L k)) ∧ Below w.heap.size w wr) (fun _ i _ => n - (intOf i).toNat)
      case atStart => exact ⟨0, Nat.zero_le _, rfl, by rw [flat_zero]; exact Hown0.out, hbel1⟩
      case round =>
        obtain ⟨k, hk, rfl, hor, hbel⟩ := hrel
        by_cases hlt : k < n
        · rcases HA.out with h | ⟨b0, off0, A, C, rfl, hc, hcap⟩
          · exact absurd hlt (by rw [Hn.out, h]; simp)
          have hkl : k < L.length := by rw [← Hn.out]; exact hlt
          obtain ⟨h0, hA⟩ := (hc.kept hbel) k hkl
          have hs := hbel.size
          have hk0 : (0 : Int) ≤ k := by omega
          have hk2 : (k : Int) < n := by omega
          have HAk := Lib.hid hA
          have Hor := Lib.hid hor
          have Hnil := Lib.hid (hcap k hkl).2
          have hfk := Hfl.out k (by omega)
          have hck := Hsh.out k
          have Hsucc := Lib.hid (flat_succ L k hkl)
          clear hc hcap hA hor
          go_wp2_with (at_builtin; refine step_round _ rfl _ _ 24 rfl w.heap.size 35 i0 (.agg #[.int .i64 0, .int .i64 0]) Tryd.underlying24 hi hz0 hz1 hz2 rfl _ _ (flat L k) rfl Hor.out (A k) _ (C k) (crow L k) rfl rfl HAk.out Hnil.out (by omega) hs ?_)
          intro v1 w2 own1 hb1
          have Hown : Hid (w2.ownsRow w.heap.size 35 2 v1 (flat L (k + 1)).length (cs (flat L (k + 1)))) := Lib.hid (by rw [Hsucc.out, List.length_append]; exact own1)
          have hb2 : Below w.heap.size w w2 := hbel.trans hb1
          clear own1 hb1 hbel h0
          go_wp2_with fail
          go_roundw
          case rel => exact ⟨k + 1, by omega, by go_num, Hown.out, hb2⟩
          case measure => simp [intOf]; omega
        · have hk' : k = L.length := by rw [← Hn.out]; omega
          rw [hk', flat_all] at hor
          have Hor := Lib.hid hor
          clear hor hk'
          go_wp2_with fail
          go_ret
          exact ⟨_, rfl, Hor.out, hbel⟩
end Go.Proofs.YtibjapfaljeclaaDoor
