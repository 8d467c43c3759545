/- TellsUpTo, GreatestTold: the model. -/
import Derived.Test.YtoigafjocckepaaTu0
import Derived.Test.YtoigafjocckepaaGtS
import Derived.Maps.Own
import Derived.Maps.OwnOps
import Derived.Maps.OwnSet
import Derived.Maps.Ext
import Derived.Maps.Keyed
import Derived.DeepKeys4
import Derived.StringKeys
namespace Go.Proofs.Ytoigafjocckepaa
open Go.ChangeShapes Go.WideShapes Go.ChangeAt Go.RowKit Go.Maps
set_option linter.unusedVariables false


set_option maxRecDepth 20000 in
theorem specTu_any (w : World) (f : Int) (ao : Option Addr) (cap : Nat) (L : List (List Int)) (n : Nat) (Hn : Hid (n = L.length)) (hn : n ≤ 1048576) (hL : Hid (∀ i, (row L i).length ≤ 1048576)) (Hc : RowsAt w ao L) (m : Int) :
    Calls Try.prog 19 #[.int .i64 f, .slice ao n cap, .int .i64 m] w fun e w' => e = .returned (.tuple #[.bool (tuR f L m), .bool (tuB f L m)]) ∧ Below w.heap.size w w' := by
  have HC := Lib.hid Hc
  clear Hc
  cases hw : wiB f L
  · have hB : tuB f L m = false := by simp [tuB, hw]
    have hR : tuR f L m = false := by simp [tuR, hB]
    rw [hR, hB]
    have Hw := Lib.hid hw
    clear hR hB hw
    go_enter Try.func19, Try.ntmps19
    go_wp2_with fail
    refine (wiGood_any f ao cap L n w Hn hn hL HC).mono ?_
    rintro e w' ⟨rfl, rfl⟩
    rw [Hw.out]
    go_wp2_with fail
    go_ret2
    exact ⟨rfl, Below.refl _ _⟩
  · cases hc : decide (0 ≤ m ∧ m ≤ f)
    · have hB : tuB f L m = false := by unfold tuB; rw [hw, hc]; rfl
      have hR : tuR f L m = false := by simp [tuR, hB]
      rw [hR, hB]
      have Hw := Lib.hid hw
      have Hv := Lib.hid hc
      clear hR hB hw hc
      go_enter Try.func19, Try.ntmps19
      go_wp2_with fail
      refine (wiGood_any f ao cap L n w Hn hn hL HC).mono ?_
      rintro e w' ⟨rfl, rfl⟩
      rw [Hw.out]
      go_wp2_with fail
      refine (l1In_any m 0 f w).mono ?_
      rintro e w' ⟨rfl, rfl⟩
      rw [Hv.out]
      go_wp2_with fail
      go_ret2
      exact ⟨rfl, Below.refl _ _⟩
    · have hB : tuB f L m = true := by unfold tuB; rw [hw, hc]; rfl
      have hR : tuR f L m = decide (m ≤ gt f.toNat L) := by simp [tuR, hB]
      rw [hR, hB]
      have Hw := Lib.hid hw
      have Hv := Lib.hid hc
      have hf := (wi_parts hw).1
      have hm := of_decide_eq_true hc
      obtain ⟨F, rfl⟩ := Int.eq_ofNat_of_zero_le (a := f) (by omega)
      obtain ⟨m, rfl⟩ := Int.eq_ofNat_of_zero_le (a := m) (by omega)
      have hF : F ≤ 10 := by omega
      have hmF : m ≤ F := by omega
      clear hR hB hw hc hf hm
      rw [Int.toNat_natCast]
      go_enter Try.func19, Try.ntmps19
      go_wp2_with fail
      refine (wiGood_any (F : Int) ao cap L n w Hn hn hL HC).mono ?_
      rintro e w' ⟨rfl, rfl⟩
      rw [Hw.out]
      go_wp2_with fail
      refine (l1In_any (m : Int) 0 (F : Int) w).mono ?_
      rintro e w' ⟨rfl, rfl⟩
      rw [Hv.out]
      go_wp2_with fail
      refine (wiTells_any w F m hF hmF ao cap L n Hn Hw HC).mono ?_
      rintro e w2 ⟨rfl, hb2⟩
      rw [Hn.out, gt_is hF hmF L]
      have Hb := Lib.hid hb2
      clear hb2
      go_wp2_with fail
      go_ret2
      exact ⟨rfl, Hb.out⟩

set_option maxRecDepth 20000 in
theorem specGg_any (w : World) (f : Int) (ao : Option Addr) (cap : Nat) (L : List (List Int)) (n : Nat) (Hn : Hid (n = L.length)) (hn : n ≤ 1048576) (hL : Hid (∀ i, (row L i).length ≤ 1048576)) (Hc : RowsAt w ao L) :
    Calls Try.prog 21 #[.int .i64 f, .slice ao n cap] w fun e w' => e = .returned (.tuple #[.int .i64 (ggR f L), .bool (ggB f L)]) ∧ Below w.heap.size w w' := by
  have HC := Lib.hid Hc
  clear Hc
  cases hw : wiB f L
  · have hR : ggR f L = 0 := by simp [ggR, hw]
    have hB : ggB f L = false := hw
    rw [hR, hB]
    have Hw := Lib.hid hw
    clear hR hB hw
    go_enter Try.func21, Try.ntmps21
    go_wp2_with fail
    refine (wiGood_any f ao cap L n w Hn hn hL HC).mono ?_
    rintro e w' ⟨rfl, rfl⟩
    rw [Hw.out]
    go_wp2_with fail
    go_ret2
    exact ⟨rfl, Below.refl _ _⟩
  · have hR : ggR f L = gt f.toNat L := by simp [ggR, hw]
    have hB : ggB f L = true := hw
    rw [hR, hB]
    have Hw := Lib.hid hw
    have hf := (wi_parts hw).1
    obtain ⟨F, rfl⟩ := Int.eq_ofNat_of_zero_le (a := f) (by omega)
    have hF : F ≤ 10 := by omega
    clear hR hB hw hf
    rw [Int.toNat_natCast]
    have h1 := gt_low hF L
    have h2 := gt_high hF L
    obtain ⟨G, hG⟩ := Int.eq_ofNat_of_zero_le h1
    rw [hG] at h2
    have hGF : G ≤ F := by omega
    rw [hG]
    have HG := Lib.hid hG
    clear h1 h2 hG
    go_enter Try.func21, Try.ntmps21
    go_wp2_with fail
    refine (wiGood_any (F : Int) ao cap L n w Hn hn hL HC).mono ?_
    rintro e w' ⟨rfl, rfl⟩
    rw [Hw.out]
    go_wp2_with fail
    go_loopw [6] (fun v wr => ∃ k : Nat, k ≤ G ∧ v = .int .i64 ((k : Nat) : Int) ∧ Below w.heap.size w wr) (fun v _ => G - (intOf v).toNat)
    case atStart => exact ⟨0, Nat.zero_le _, rfl, Below.refl _ _⟩
    case round =>
      obtain ⟨k, hk, rfl, hbel⟩ := hrel
      have hsz := hbel.size
      have Hbel := Lib.hid hbel
      have HC2 := Lib.hid (HC.out.kept hbel)
      clear hbel
      by_cases hkF : k < F
      · have hki : (k : Int) < F := by omega
        have Ht := Lib.hid (fun W h => wiTells_any W F (k + 1) hF (by omega) ao cap L n Hn Hw h)
        have hke : ((k + 1 : Nat) : Int) = (k : Int) + 1 := by omega
        rw [hke] at Ht
        by_cases hlt : k < G
        · have hT : tlW (bws L) n [] (la F (k + 1)) = true := by rw [Hn.out, gt_is hF (by omega) L, HG.out]; simp; omega
          rw [hT] at Ht
          clear hT hke
          go_wp2_with fail
          refine (Ht.out wr HC2).mono ?_
          rintro e w2 ⟨rfl, hb2⟩
          have Hb := Lib.hid (Hbel.out.trans (hb2.mono hsz))
          clear hb2
          go_wp2_with fail
          go_roundw
          case rel => exact ⟨k + 1, by omega, by go_num, Hb.out⟩
          case measure => simp [intOf]; omega
        · have hkG : G = k := by omega
          have hT : tlW (bws L) n [] (la F (k + 1)) = false := by rw [Hn.out, gt_is hF (by omega) L, HG.out]; simp; omega
          rw [hT] at Ht
          clear hT hke
          go_wp2_with fail
          refine (Ht.out wr HC2).mono ?_
          rintro e w2 ⟨rfl, hb2⟩
          have Hb := Lib.hid (Hbel.out.trans (hb2.mono hsz))
          clear hb2
          go_wp2_with fail
          go_ret2
          exact ⟨by first | rfl | (rw [hkG]; rfl), Hb.out⟩
      · have hkG : G = k := by omega
        have hkn : ¬ (k : Int) < F := by omega
        go_wp2_with fail
        go_ret2
        exact ⟨by first | rfl | (rw [hkG]; rfl), Hbel.out⟩

end Go.Proofs.Ytoigafjocckepaa
