/- TellsUpTo, GreatestTold: the program. -/
import Derived.Test.YtoigafjocckepaaTu0
import Derived.Test.YtoigafjocckepaaGtI
import Derived.Test.YtoigafjocckepaaFiI
import Derived.Maps.Own
import Derived.Maps.OwnOps
import Derived.Maps.OwnSet
import Derived.Maps.Ext
import Derived.Maps.Keyed
import Derived.DeepKeys4
import Derived.StringKeys
namespace Go.Proofs.Ytoigafjocckepaa
open Go.ChangeShapes Go.WideShapes Go.ChangeAt Go.RowKit Go.Maps
set_option linter.unusedVariables false


set_option maxRecDepth 20000 in
theorem implTu_any (w : World) (f : Int) (ao : Option Addr) (cap : Nat) (L : List (List Int)) (n : Nat) (Hn : Hid (n = L.length)) (hn : n ≤ 1048576) (hL : Hid (∀ i, (row L i).length ≤ 1048576)) (Hc : RowsAt w ao L) (m : Int) :
    Calls Try.prog 20 #[.int .i64 f, .slice ao n cap, .int .i64 m] w fun e w' => e = .returned (.tuple #[.bool (tuR f L m), .bool (tuB f L m)]) ∧ Below w.heap.size w w' := by
  have HC := Lib.hid Hc
  clear Hc
  cases hw : wiB f L
  · have hB : tuB f L m = false := by simp [tuB, hw]
    have hR : tuR f L m = false := by simp [tuR, hB]
    rw [hR, hB]
    have Hw := Lib.hid hw
    clear hR hB hw
    go_enter Try.func20, Try.ntmps20
    go_wp2_with fail
    refine (areTests_any f ao cap L n w Hn hn hL HC).mono ?_
    rintro e w' ⟨rfl, rfl⟩
    rw [Hw.out]
    go_wp2_with fail
    go_ret2
    exact ⟨rfl, Below.refl _ _⟩
  · cases hc : decide (0 ≤ m ∧ m ≤ f)
    · have hB : tuB f L m = false := by unfold tuB; rw [hw, hc]; rfl
      have hR : tuR f L m = false := by simp [tuR, hB]
      rw [hR, hB]
      have Hw := Lib.hid hw
      have Hv := Lib.hid hc
      clear hR hB hw hc
      go_enter Try.func20, Try.ntmps20
      go_wp2_with fail
      refine (areTests_any f ao cap L n w Hn hn hL HC).mono ?_
      rintro e w' ⟨rfl, rfl⟩
      rw [Hw.out]
      go_wp2_with fail
      refine (canBeBroken_any f m w).mono ?_
      rintro e w' ⟨rfl, rfl⟩
      rw [Hv.out]
      go_wp2_with fail
      go_ret2
      exact ⟨rfl, Below.refl _ _⟩
    · have hB : tuB f L m = true := by unfold tuB; rw [hw, hc]; rfl
      have hR : tuR f L m = decide (m ≤ gt f.toNat L) := by simp [tuR, hB]
      rw [hR, hB]
      have Hw := Lib.hid hw
      have Hv := Lib.hid hc
      have hf := (wi_parts hw).1
      have hm := of_decide_eq_true hc
      obtain ⟨F, rfl⟩ := Int.eq_ofNat_of_zero_le (a := f) (by omega)
      obtain ⟨m, rfl⟩ := Int.eq_ofNat_of_zero_le (a := m) (by omega)
      have hF : F ≤ 10 := by omega
      have hmF : m ≤ F := by omega
      clear hR hB hw hc hf hm
      rw [Int.toNat_natCast]
      go_enter Try.func20, Try.ntmps20
      go_wp2_with fail
      refine (areTests_any (F : Int) ao cap L n w Hn hn hL HC).mono ?_
      rintro e w' ⟨rfl, rfl⟩
      rw [Hw.out]
      go_wp2_with fail
      refine (canBeBroken_any (F : Int) (m : Int) w).mono ?_
      rintro e w' ⟨rfl, rfl⟩
      rw [Hv.out]
      go_wp2_with fail
      refine (wireListsOf_any ao cap (F : Int) L n w Hn Hw HC).mono ?_
      rintro e w1 ⟨v, rfl, own1, hb1⟩
      obtain ⟨av, cv, rfl, hwv⟩ := wl_at own1 (by rw [bws_length]; exact Hn.out)
      have Hwv := Lib.hid hwv
      have Hb1 := Lib.hid hb1
      have HgT := Lib.hid (greatestTold_any w1 F hF av cv (bws L) n (by show _ = _; rw [bws_length]; exact Hn.out) (by have := (wi_parts Hw.out).2.1; have := Hn.out; omega) (Lib.hid (bws_lt Hw.out)) Hwv)
      have hgt := gt_le hF L
      have HgE : Hid (gtW (bws L) n F [] (la F F) = gt F L) := Lib.hid (by unfold gt; rw [Hn.out])
      rw [HgE.out] at HgT
      have hs1 := hb1.size
      clear own1 hb1 hwv
      go_wp2_with fail
      refine HgT.out.mono ?_
      rintro e w2 ⟨rfl, hb2⟩
      have Hb2 := Lib.hid (Hb1.out.trans (hb2.mono hs1))
      clear hb2
      go_wp2_with fail
      go_ret2
      exact ⟨rfl, Hb2.out⟩

set_option maxRecDepth 20000 in
theorem implGg_any (w : World) (f : Int) (ao : Option Addr) (cap : Nat) (L : List (List Int)) (n : Nat) (Hn : Hid (n = L.length)) (hn : n ≤ 1048576) (hL : Hid (∀ i, (row L i).length ≤ 1048576)) (Hc : RowsAt w ao L) :
    Calls Try.prog 22 #[.int .i64 f, .slice ao n cap] w fun e w' => e = .returned (.tuple #[.int .i64 (ggR f L), .bool (ggB f L)]) ∧ Below w.heap.size w w' := by
  have HC := Lib.hid Hc
  clear Hc
  cases hw : wiB f L
  · have hR : ggR f L = 0 := by simp [ggR, hw]
    have hB : ggB f L = false := hw
    rw [hR, hB]
    have Hw := Lib.hid hw
    clear hR hB hw
    go_enter Try.func22, Try.ntmps22
    go_wp2_with fail
    refine (areTests_any f ao cap L n w Hn hn hL HC).mono ?_
    rintro e w' ⟨rfl, rfl⟩
    rw [Hw.out]
    go_wp2_with fail
    go_ret2
    exact ⟨rfl, Below.refl _ _⟩
  · have hR : ggR f L = gt f.toNat L := by simp [ggR, hw]
    have hB : ggB f L = true := hw
    rw [hR, hB]
    have Hw := Lib.hid hw
    have hf := (wi_parts hw).1
    obtain ⟨F, rfl⟩ := Int.eq_ofNat_of_zero_le (a := f) (by omega)
    have hF : F ≤ 10 := by omega
    clear hR hB hw hf
    rw [Int.toNat_natCast]
    go_enter Try.func22, Try.ntmps22
    go_wp2_with fail
    refine (areTests_any (F : Int) ao cap L n w Hn hn hL HC).mono ?_
    rintro e w' ⟨rfl, rfl⟩
    rw [Hw.out]
    go_wp2_with fail
    refine (wireListsOf_any ao cap (F : Int) L n w Hn Hw HC).mono ?_
    rintro e w1 ⟨v, rfl, own1, hb1⟩
    obtain ⟨av, cv, rfl, hwv⟩ := wl_at own1 (by rw [bws_length]; exact Hn.out)
    have Hwv := Lib.hid hwv
    have Hb1 := Lib.hid hb1
    have HgT := Lib.hid (greatestTold_any w1 F hF av cv (bws L) n (by show _ = _; rw [bws_length]; exact Hn.out) (by have := (wi_parts Hw.out).2.1; have := Hn.out; omega) (Lib.hid (bws_lt Hw.out)) Hwv)
    have hgt := gt_le hF L
    have HgE : Hid (gtW (bws L) n F [] (la F F) = gt F L) := Lib.hid (by unfold gt; rw [Hn.out])
    rw [HgE.out] at HgT
    have hs1 := hb1.size
    clear own1 hb1 hwv
    go_wp2_with fail
    refine HgT.out.mono ?_
    rintro e w2 ⟨rfl, hb2⟩
    have Hb2 := Lib.hid (Hb1.out.trans (hb2.mono hs1))
    clear hb2
    go_wp2_with fail
    go_ret2
    exact ⟨rfl, Hb2.out⟩

end Go.Proofs.Ytoigafjocckepaa
