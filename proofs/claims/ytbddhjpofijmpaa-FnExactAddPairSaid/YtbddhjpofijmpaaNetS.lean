/- The model's networks: a line, a circle, a star, a whole one. -/
import Derived.Test.YtbddhjpofijmpaaWh0
import Derived.Test.YtbddhjpofijmpaaWh1
import Derived.Test.YtbddhjpofijmpaaWh2
import Derived.Test.YtbddhjpofijmpaaWh3
namespace Go.Proofs.Ytbddhjpofijmpaa
open Go.ChangeShapes Go.WideShapes Go.ChangeAt Go.RowKit
set_option linter.unusedVariables false


theorem l1In_at (x lo hi : Int) (w : World) : Calls Try.prog 46 #[.int .i64 x, .int .i64 lo, .int .i64 hi] w fun e w' => e = .returned (.bool (decide (lo ≤ x ∧ x ≤ hi))) ∧ w = w' := by
  by_cases h1 : lo ≤ x
  · have hd1 : decide (lo ≤ x) = true := by simpa using h1
    by_cases h2 : x ≤ hi
    · have hd2 : decide (x ≤ hi) = true := by simpa using h2
      rw [show decide (lo ≤ x ∧ x ≤ hi) = true by simp [h1, h2]]
      go_enter Try.func46, Try.ntmps46
      go_wp2
      go_ret
      exact ⟨rfl, rfl⟩
    · have hd2 : decide (x ≤ hi) = false := by simpa using h2
      rw [show decide (lo ≤ x ∧ x ≤ hi) = false by simp [h1, h2]]
      clear h2
      go_enter Try.func46, Try.ntmps46
      go_wp2
      go_ret
      first | exact ⟨rfl, rfl⟩ | exact ⟨by simp; omega, rfl⟩
  · have hd1 : decide (lo ≤ x) = false := by simpa using h1
    rw [show decide (lo ≤ x ∧ x ≤ hi) = false by simp [h1]]
    clear h1
    go_enter Try.func46, Try.ntmps46
    go_wp2
    go_ret
    exact ⟨rfl, rfl⟩

theorem specLine_yes (F x : Nat) (w : World) (hok : Hid (decide (1 ≤ F) = true)) (hF : F ≤ 10) (hx : x ≤ 10) :
    Calls Try.prog 17 #[.int .i64 F] w fun e w' => ∃ v, e = .returned (.tuple #[v, .bool true]) ∧ w'.ownsRow w.heap.size 46 2 v (wholeP (pr 0 0 F) F F).length (cs (wholeP (pr 0 0 F) F F)) ∧ Below w.heap.size w w' := by
  have hok2 := hok.out
  go_enter Try.func17, Try.ntmps17
  have hF1 : 1 ≤ F := by simpa using hok2
  go_wp2_with fail
  refine (neFriends_any F w).mono ?_
  rintro e w' ⟨rfl, rfl⟩
  rw [show frB (F : Int) = true by simp [frB]; omega]
  go_wp2_with fail
  refine (neWhole_0 F 0 _ hF (by omega)).mono ?_
  rintro e w1 ⟨v, rfl, own, hb⟩
  obtain ⟨ao2, cap2, rfl, _⟩ := own_shape own rfl
  have Own := Lib.hid own
  clear own
  go_wp2_with fail
  go_ret2
  exact ⟨_, rfl, Own.out, hb⟩

theorem specWhole_yes (F x : Nat) (w : World) (hok : Hid (decide (1 ≤ F) = true)) (hF : F ≤ 10) (hx : x ≤ 10) :
    Calls Try.prog 25 #[.int .i64 F] w fun e w' => ∃ v, e = .returned (.tuple #[v, .bool true]) ∧ w'.ownsRow w.heap.size 46 2 v (wholeP (pr 3 0 F) F F).length (cs (wholeP (pr 3 0 F) F F)) ∧ Below w.heap.size w w' := by
  have hok2 := hok.out
  go_enter Try.func25, Try.ntmps25
  have hF1 : 1 ≤ F := by simpa using hok2
  go_wp2_with fail
  refine (neFriends_any F w).mono ?_
  rintro e w' ⟨rfl, rfl⟩
  rw [show frB (F : Int) = true by simp [frB]; omega]
  go_wp2_with fail
  refine (neWhole_3 F 0 _ hF (by omega)).mono ?_
  rintro e w1 ⟨v, rfl, own, hb⟩
  obtain ⟨ao2, cap2, rfl, _⟩ := own_shape own rfl
  have Own := Lib.hid own
  clear own
  go_wp2_with fail
  go_ret2
  exact ⟨_, rfl, Own.out, hb⟩

theorem specStar_yes (F x : Nat) (w : World) (hok : Hid (decide (1 ≤ F ∧ x < F) = true)) (hF : F ≤ 10) (hx : x ≤ 10) :
    Calls Try.prog 23 #[.int .i64 F, .int .i64 x] w fun e w' => ∃ v, e = .returned (.tuple #[v, .bool true]) ∧ w'.ownsRow w.heap.size 46 2 v (wholeP (pr 2 x F) F F).length (cs (wholeP (pr 2 x F) F F)) ∧ Below w.heap.size w w' := by
  have hok2 := hok.out
  go_enter Try.func23, Try.ntmps23
  have hF1 : 1 ≤ F ∧ x < F := by simpa using hok2
  go_wp2_with fail
  refine (neFriends_any F w).mono ?_
  rintro e w' ⟨rfl, rfl⟩
  rw [show frB (F : Int) = true by simp [frB]; omega]
  go_wp2_with fail
  refine (l1In_at x 0 ((F : Int) - 1) _).mono ?_
  rintro e w' ⟨rfl, rfl⟩
  rw [show decide ((0 : Int) ≤ x ∧ (x : Int) ≤ (F : Int) - 1) = true by simp; omega]
  go_wp2_with fail
  refine (neWhole_2 F x _ hF (by omega)).mono ?_
  rintro e w1 ⟨v, rfl, own, hb⟩
  obtain ⟨ao2, cap2, rfl, _⟩ := own_shape own rfl
  have Own := Lib.hid own
  clear own
  go_wp2_with fail
  go_ret2
  exact ⟨_, rfl, Own.out, hb⟩

theorem specCircle_yes (F x : Nat) (w : World) (hok : Hid (decide (3 ≤ F) = true)) (hF : F ≤ 10) (hx : x ≤ 10) :
    Calls Try.prog 21 #[.int .i64 F] w fun e w' => ∃ v, e = .returned (.tuple #[v, .bool true]) ∧ w'.ownsRow w.heap.size 46 2 v (wholeP (pr 1 0 F) F F).length (cs (wholeP (pr 1 0 F) F F)) ∧ Below w.heap.size w w' := by
  have hok2 := hok.out
  go_enter Try.func21, Try.ntmps21
  have hF1 : 3 ≤ F := by simpa using hok2
  go_wp2_with fail
  refine (l1In_at F 3 10 _).mono ?_
  rintro e w' ⟨rfl, rfl⟩
  rw [show decide ((3 : Int) ≤ F ∧ (F : Int) ≤ 10) = true by simp; omega]
  go_wp2_with fail
  refine (neWhole_1 F 0 _ hF (by omega)).mono ?_
  rintro e w1 ⟨v, rfl, own, hb⟩
  obtain ⟨ao2, cap2, rfl, _⟩ := own_shape own rfl
  have Own := Lib.hid own
  clear own
  go_wp2_with fail
  go_ret2
  exact ⟨_, rfl, Own.out, hb⟩

theorem specLine_any (w : World) (f : Int) :
    Calls Try.prog 17 #[.int .i64 f] w fun e w' => ∃ v, e = .returned (.tuple #[v, .bool (frB f)]) ∧ w'.ownsRow w.heap.size 46 2 v (netR (frB f) 0 0 f).length (cs (netR (frB f) 0 0 f)) ∧ Below w.heap.size w w' := by
  cases hok : frB f
  · have Hno : Hid (netR (frB f) 0 0 f = []) := Lib.hid (by rw [hok]; rfl)
    rw [hok] at Hno
    have HOK := Lib.hid hok
    clear hok
    go_enter Try.func17, Try.ntmps17
    go_wp2_with fail
    refine (neFriends_any f w).mono ?_
    rintro e w' ⟨rfl, rfl⟩
    rw [HOK.out]
    go_wp2_with fail
    go_ret2
    exact ⟨.slice none 0 0, rfl, by rw [Hno.out]; exact World.ownsRow_nil _ _ _ _, Below.refl _ _⟩
  · rw [show netR true 0 0 f = wholeP (pr 0 0 f.toNat) f.toNat f.toNat from rfl]
    have hf : 1 ≤ f ∧ f ≤ 10 := by simpa [frB] using hok
    obtain ⟨F, rfl⟩ := Int.eq_ofNat_of_zero_le (show 0 ≤ f by omega)
    exact specLine_yes F 0 w (by show _ = _; simp; omega) (by omega) (by omega)

theorem specWhole_any (w : World) (f : Int) :
    Calls Try.prog 25 #[.int .i64 f] w fun e w' => ∃ v, e = .returned (.tuple #[v, .bool (frB f)]) ∧ w'.ownsRow w.heap.size 46 2 v (netR (frB f) 3 0 f).length (cs (netR (frB f) 3 0 f)) ∧ Below w.heap.size w w' := by
  cases hok : frB f
  · have Hno : Hid (netR (frB f) 3 0 f = []) := Lib.hid (by rw [hok]; rfl)
    rw [hok] at Hno
    have HOK := Lib.hid hok
    clear hok
    go_enter Try.func25, Try.ntmps25
    go_wp2_with fail
    refine (neFriends_any f w).mono ?_
    rintro e w' ⟨rfl, rfl⟩
    rw [HOK.out]
    go_wp2_with fail
    go_ret2
    exact ⟨.slice none 0 0, rfl, by rw [Hno.out]; exact World.ownsRow_nil _ _ _ _, Below.refl _ _⟩
  · rw [show netR true 3 0 f = wholeP (pr 3 0 f.toNat) f.toNat f.toNat from rfl]
    have hf : 1 ≤ f ∧ f ≤ 10 := by simpa [frB] using hok
    obtain ⟨F, rfl⟩ := Int.eq_ofNat_of_zero_le (show 0 ≤ f by omega)
    exact specWhole_yes F 0 w (by show _ = _; simp; omega) (by omega) (by omega)

theorem specCircle_any (w : World) (f : Int) :
    Calls Try.prog 21 #[.int .i64 f] w fun e w' => ∃ v, e = .returned (.tuple #[v, .bool (decide (3 ≤ f ∧ f ≤ 10))]) ∧ w'.ownsRow w.heap.size 46 2 v (netR (decide (3 ≤ f ∧ f ≤ 10)) 1 0 f).length (cs (netR (decide (3 ≤ f ∧ f ≤ 10)) 1 0 f)) ∧ Below w.heap.size w w' := by
  cases hok : decide (3 ≤ f ∧ f ≤ 10)
  · have Hno : Hid (netR (decide (3 ≤ f ∧ f ≤ 10)) 1 0 f = []) := Lib.hid (by rw [hok]; rfl)
    rw [hok] at Hno
    have HOK := Lib.hid hok
    clear hok
    go_enter Try.func21, Try.ntmps21
    go_wp2_with fail
    refine (l1In_at f 3 10 _).mono ?_
    rintro e w' ⟨rfl, rfl⟩
    rw [HOK.out]
    go_wp2_with fail
    go_ret2
    exact ⟨.slice none 0 0, rfl, by rw [Hno.out]; exact World.ownsRow_nil _ _ _ _, Below.refl _ _⟩
  · rw [show netR true 1 0 f = wholeP (pr 1 0 f.toNat) f.toNat f.toNat from rfl]
    have hf : 3 ≤ f ∧ f ≤ 10 := by simpa [frB] using hok
    obtain ⟨F, rfl⟩ := Int.eq_ofNat_of_zero_le (show 0 ≤ f by omega)
    exact specCircle_yes F 0 w (by show _ = _; simp; omega) (by omega) (by omega)

theorem specStar_any (w : World) (f x : Int) :
    Calls Try.prog 23 #[.int .i64 f, .int .i64 x] w fun e w' => ∃ v, e = .returned (.tuple #[v, .bool (frB f && decide (0 ≤ x ∧ x < f))]) ∧ w'.ownsRow w.heap.size 46 2 v (netR (frB f && decide (0 ≤ x ∧ x < f)) 2 x.toNat f).length (cs (netR (frB f && decide (0 ≤ x ∧ x < f)) 2 x.toNat f)) ∧ Below w.heap.size w w' := by
  cases hok : frB f && decide (0 ≤ x ∧ x < f)
  · have Hno : Hid (netR (frB f && decide (0 ≤ x ∧ x < f)) 2 x.toNat f = []) := Lib.hid (by rw [hok]; rfl)
    rw [hok] at Hno
    have HOK := Lib.hid hok
    clear hok
    cases hf : frB f
    · have Hf := Lib.hid hf
      clear hf
      go_enter Try.func23, Try.ntmps23
      go_wp2_with fail
      refine (neFriends_any f w).mono ?_
      rintro e w' ⟨rfl, rfl⟩
      rw [Hf.out]
      go_wp2_with fail
      go_ret2
      exact ⟨.slice none 0 0, rfl, by rw [Hno.out]; exact World.ownsRow_nil _ _ _ _, Below.refl _ _⟩
    · have Hf := Lib.hid hf
      have hff : 1 ≤ f ∧ f ≤ 10 := by simpa [frB] using hf
      have hnx : decide (0 ≤ x ∧ x ≤ f - 1) = false := by
        have := HOK.out
        simp [hf] at this
        simp
        omega
      have Hnx := Lib.hid hnx
      have hf1 := hff.1
      have hf2 := hff.2
      clear hf hff hnx
      go_enter Try.func23, Try.ntmps23
      go_wp2_with fail
      refine (neFriends_any f w).mono ?_
      rintro e w' ⟨rfl, rfl⟩
      rw [Hf.out]
      go_wp2_with fail
      refine (l1In_at x 0 (f - 1) _).mono ?_
      rintro e w' ⟨rfl, rfl⟩
      rw [Hnx.out]
      go_wp2_with fail
      go_ret2
      exact ⟨.slice none 0 0, rfl, by rw [Hno.out]; exact World.ownsRow_nil _ _ _ _, Below.refl _ _⟩
  · rw [show netR true 2 x.toNat f = wholeP (pr 2 x.toNat f.toNat) f.toNat f.toNat from rfl]
    have hf : (1 ≤ f ∧ f ≤ 10) ∧ 0 ≤ x ∧ x < f := by simpa [frB] using hok
    obtain ⟨F, rfl⟩ := Int.eq_ofNat_of_zero_le (show 0 ≤ f by omega)
    obtain ⟨y, rfl⟩ := Int.eq_ofNat_of_zero_le (show 0 ≤ x by omega)
    exact specStar_yes F y w (by show _ = _; simp; omega) (by omega) (by omega)

end Go.Proofs.Ytbddhjpofijmpaa
