/- AskAbout, both sides. -/
import Derived.Test.YtaangjidkkpogaaDoorCa
namespace Go.Proofs.YtaangjidkkpogaaDoor
open Go.ChangeShapes Go.WideShapes Go.ChangeAt Go.RowKit
set_option linter.unusedVariables false


def inF (f x : Int) : Bool := decide (0 ≤ x ∧ x < f)
def akB (s : ByteArray) (x y : Int) (_h : Bool) : Bool := castB s && (inF s.size x && inF s.size y)
def akR (s : ByteArray) (x y : Int) (h : Bool) : Bool := akB s x y h && sayB (cOf s) x y h
theorem ak_no {s : ByteArray} {x y : Int} {h : Bool} (hb : akB s x y h = false) : akR s x y h = false := by unfold akR; rw [hb]; rfl
theorem isF_any (f x : Int) (w : World) : Calls Tryd.prog 45 #[.int .i64 f, .int .i64 x] w fun e w' => e = .returned (.bool (inF f x)) ∧ w = w' := isFriend_any f x w
theorem l1F_any (f x : Int) (w : World) : Calls Tryd.prog 43 #[.int .i64 x, .int .i64 0, .int .i64 (f - 1)] w fun e w' => e = .returned (.bool (inF f x)) ∧ w = w' := by
  have h := l1In_any x 0 (f - 1) w
  have e : decide (0 ≤ x ∧ x ≤ f - 1) = inF f x := by unfold inF; congr 1; apply propext; omega
  rw [e] at h
  exact h

theorem implAK_any (w : World) (s : ByteArray) (hs : s.size ≤ 1048576) (x y : Int) (h : Bool) :
    Calls Tryd.prog 26 #[.string s, .int .i64 x, .int .i64 y, .bool h] w fun e w' => e = .returned (.tuple #[.bool (akR s x y h), .bool (akB s x y h)]) ∧ Below w.heap.size w w' := by
  have HC := Lib.hid (fun w => isCast_any s w hs)
  cases hca : castB s
  · have hb : akB s x y h = false := by simp [akB, hca]
    rw [ak_no hb, hb]
    rw [hca] at HC
    clear hb hca
    go_enter Tryd.func26, Tryd.ntmps26
    go_wp2_with fail
    refine (HC.out _).mono ?_
    rintro e w1 ⟨rfl, hb1⟩
    go_wp2_with fail
    go_ret2
    exact ⟨rfl, hb1⟩
  · rw [hca] at HC
    have HI := Lib.hid (fun w => isF_any (s.size : Int) x w)
    have HJ := Lib.hid (fun w => isF_any (s.size : Int) y w)
    obtain ⟨z, hz⟩ : ∃ z, s.size = z := ⟨_, rfl⟩
    rw [hz] at HI HJ
    have hz8 : z ≤ 8 := by have := (cast_of hca).2.2.2; omega
    cases hx : inF (z : Int) x
    · have hb : akB s x y h = false := by simp only [akB, hz, hx, Bool.false_and, Bool.and_false]
      rw [ak_no hb, hb]
      rw [hx] at HI
      clear hb hca hx
      go_enter Tryd.func26, Tryd.ntmps26
      go_wp2_with fail
      refine (HC.out _).mono ?_
      rintro e w1 ⟨rfl, hb1⟩
      go_wp2_with fail
      refine (HI.out _).mono ?_
      rintro e w' ⟨rfl, rfl⟩
      go_wp2_with fail
      go_ret2
      exact ⟨rfl, hb1⟩
    · rw [hx] at HI
      cases hy : inF (z : Int) y
      · have hb : akB s x y h = false := by simp only [akB, hz, hy, Bool.and_false]
        rw [ak_no hb, hb]
        rw [hy] at HJ
        clear hb hca hx hy
        go_enter Tryd.func26, Tryd.ntmps26
        go_wp2_with fail
        refine (HC.out _).mono ?_
        rintro e w1 ⟨rfl, hb1⟩
        go_wp2_with fail
        refine (HI.out _).mono ?_
        rintro e w' ⟨rfl, rfl⟩
        go_wp2_with fail
        refine (HJ.out _).mono ?_
        rintro e w' ⟨rfl, rfl⟩
        go_wp2_with fail
        go_ret2
        exact ⟨rfl, hb1⟩
      · rw [hy] at HJ
        have hb : akB s x y h = true := by simp only [akB, hca, hz, hx, hy, Bool.and_self]
        have hr : akR s x y h = sayB (cOf s) x y h := by unfold akR; rw [hb]; rfl
        rw [hr, hb]
        obtain ⟨hsc, hlen, _, _⟩ := cast_of hca
        have hx' : 0 ≤ x ∧ x < ((cOf s).length : Int) := by rw [hlen, hz]; simpa [inF] using hx
        have hy' : 0 ≤ y ∧ y < ((cOf s).length : Int) := by rw [hlen, hz]; simpa [inF] using hy
        have HV := Lib.hid (fun w => says_any (cOf s) x y h w hx' hy' (by omega))
        rw [← hsc] at HV
        clear hb hr hca hx hy hsc hlen hx' hy'
        generalize sayB (cOf s) x y h = r at HV ⊢
        go_enter Tryd.func26, Tryd.ntmps26
        go_wp2_with fail
        refine (HC.out _).mono ?_
        rintro e w1 ⟨rfl, hb1⟩
        have Hb1 := Lib.hid hb1
        clear hb1
        go_wp2_with fail
        refine (HI.out _).mono ?_
        rintro e w' ⟨rfl, rfl⟩
        go_wp2_with fail
        refine (HJ.out _).mono ?_
        rintro e w' ⟨rfl, rfl⟩
        go_wp2_with fail
        refine (HV.out _).mono ?_
        rintro e w3 ⟨rfl, hb3⟩
        have Hb3 := Lib.hid (Hb1.out.trans (hb3.mono Hb1.out.size))
        clear hb3
        go_wp2_with fail
        go_ret2
        exact ⟨rfl, Hb3.out⟩

theorem specAK_any (w : World) (s : ByteArray) (hs : s.size ≤ 1048576) (x y : Int) (h : Bool) :
    Calls Tryd.prog 25 #[.string s, .int .i64 x, .int .i64 y, .bool h] w fun e w' => e = .returned (.tuple #[.bool (akR s x y h), .bool (akB s x y h)]) ∧ Below w.heap.size w w' := by
  have HC := Lib.hid (fun w => liCast_any s w hs)
  cases hca : castB s
  · have hb : akB s x y h = false := by simp [akB, hca]
    rw [ak_no hb, hb]
    rw [hca] at HC
    clear hb hca
    go_enter Tryd.func25, Tryd.ntmps25
    go_wp2_with fail
    refine (HC.out _).mono ?_
    rintro e w1 ⟨rfl, hb1⟩
    go_wp2_with fail
    go_ret2
    exact ⟨rfl, hb1⟩
  · rw [hca] at HC
    have HI := Lib.hid (fun w => l1F_any (s.size : Int) x w)
    have HJ := Lib.hid (fun w => l1F_any (s.size : Int) y w)
    obtain ⟨z, hz⟩ : ∃ z, s.size = z := ⟨_, rfl⟩
    rw [hz] at HI HJ
    have hz8 : z ≤ 8 := by have := (cast_of hca).2.2.2; omega
    cases hx : inF (z : Int) x
    · have hb : akB s x y h = false := by simp only [akB, hz, hx, Bool.false_and, Bool.and_false]
      rw [ak_no hb, hb]
      rw [hx] at HI
      clear hb hca hx
      go_enter Tryd.func25, Tryd.ntmps25
      go_wp2_with fail
      refine (HC.out _).mono ?_
      rintro e w1 ⟨rfl, hb1⟩
      go_wp2_with fail
      refine (HI.out _).mono ?_
      rintro e w' ⟨rfl, rfl⟩
      go_wp2_with fail
      go_ret2
      exact ⟨rfl, hb1⟩
    · rw [hx] at HI
      cases hy : inF (z : Int) y
      · have hb : akB s x y h = false := by simp only [akB, hz, hy, Bool.and_false]
        rw [ak_no hb, hb]
        rw [hy] at HJ
        clear hb hca hx hy
        go_enter Tryd.func25, Tryd.ntmps25
        go_wp2_with fail
        refine (HC.out _).mono ?_
        rintro e w1 ⟨rfl, hb1⟩
        go_wp2_with fail
        refine (HI.out _).mono ?_
        rintro e w' ⟨rfl, rfl⟩
        go_wp2_with fail
        refine (HJ.out _).mono ?_
        rintro e w' ⟨rfl, rfl⟩
        go_wp2_with fail
        go_ret2
        exact ⟨rfl, hb1⟩
      · rw [hy] at HJ
        have hb : akB s x y h = true := by simp only [akB, hca, hz, hx, hy, Bool.and_self]
        have hr : akR s x y h = sayB (cOf s) x y h := by unfold akR; rw [hb]; rfl
        rw [hr, hb]
        obtain ⟨hsc, hlen, _, _⟩ := cast_of hca
        have hx' : 0 ≤ x ∧ x < ((cOf s).length : Int) := by rw [hlen, hz]; simpa [inF] using hx
        have hy' : 0 ≤ y ∧ y < ((cOf s).length : Int) := by rw [hlen, hz]; simpa [inF] using hy
        have HV := Lib.hid (fun w => liSays_any (cOf s) x y w hx' hy')
        have hse := say_eq (cOf s) x y h
        rw [← hsc] at HV
        clear hb hr hca hx hy hsc hlen hx' hy'
        generalize sayB (cOf s) x y h = r at hse ⊢
        generalize (hon (cOf s) y == hon (cOf s) x) = v at HV hse
        go_enter Tryd.func25, Tryd.ntmps25
        go_wp2_with fail
        refine (HC.out _).mono ?_
        rintro e w1 ⟨rfl, hb1⟩
        have Hb1 := Lib.hid hb1
        clear hb1
        go_wp2_with fail
        refine (HI.out _).mono ?_
        rintro e w' ⟨rfl, rfl⟩
        go_wp2_with fail
        refine (HJ.out _).mono ?_
        rintro e w' ⟨rfl, rfl⟩
        go_wp2_with fail
        refine (HV.out _).mono ?_
        rintro e w3 ⟨rfl, m, rfl⟩
        have Hb3 := Lib.hid (below_drewN Hb1.out m)
        go_wp2_with fail
        go_ret2
        exact ⟨by rw [← hse]; rfl, Hb3.out⟩

end Go.Proofs.YtaangjidkkpogaaDoor
