/- Calls of a friend. -/
import Derived.Test.YtmgmkgjefplfdaaThat
namespace Go.Proofs.Ytmgmkgjefplfdaa
open Go.ChangeShapes Go.WideShapes Go.ChangeAt Go.RowKit
set_option linter.unusedVariables false

def ofL (f : Int) (l : List (Int × Int)) (x : Int) : List Int := if whoB f l x then tl (pOf x) f.toNat l l.length else []

theorem ofL_length (f : Int) (l : List (Int × Int)) (x : Int) : (ofL f l x).length ≤ 60 := by
  unfold ofL
  cases h : whoB f l x
  · simp
  · simp only [whoB, Bool.and_eq_true] at h
    have h1 := gd_len' h.1
    have h2 := tl_le (pOf x) f.toNat l l.length
    simp only [if_true]
    omega

set_option maxRecDepth 20000 in
theorem that_no (w : World) (f : Int) (ao : Option Addr) (cap : Nat) (l : List (Int × Int)) (n : Nat) (fv : Value) (Hn : Hid (n = l.length)) (hs : n ≤ 1048576) (HHc : Hid (CallsAt w ao l)) (Hg : Hid (gdB f l = false)) :
    Calls Try.prog 142 #[.int .i64 f, .slice ao n cap, fv] w fun e w' => ∃ v, e = .returned (.tuple #[v, .bool false]) ∧ w'.ownsRow w.heap.size 3 1 v 0 (ns []) ∧ Below w.heap.size w w' := by
  go_enter Try.func142, Try.ntmps142
  go_wp2_with fail
  refine (areCalls_any f ao cap l n w Hn.out (by omega) HHc.out).mono ?_
  rintro e w1 ⟨rfl, hb⟩
  rw [Hg.out]
  go_wp2_with fail
  go_ret2
  exact ⟨_, rfl, World.ownsRow_nil _ _ _ _, hb⟩

set_option maxRecDepth 20000 in
theorem implOf_any (w : World) (f : Int) (ao : Option Addr) (cap : Nat) (l : List (Int × Int)) (n : Nat) (Hn : Hid (n = l.length)) (hs : n ≤ 1048576) (Hc : CallsAt w ao l) (x : Int) :
    Calls Try.prog 139 #[.int .i64 f, .slice ao n cap, .int .i64 x] w fun e w' => ∃ v, e = .returned (.tuple #[v, .bool (whoB f l x)]) ∧ w'.ownsRow w.heap.size 3 1 v (ofL f l x).length (ns (ofL f l x)) ∧ Below w.heap.size w w' := by
  have hba : Below w.heap.size w (w.alloc (.cells #[.int .i64 x] 3)) := (Below.refl _ _).alloc (Nat.le_refl _) _
  have HHc := Lib.hid (Hc.kept hba)
  clear Hc
  by_cases hx : 0 ≤ x ∧ x < f
  · have Hx := Lib.hid hx
    cases hg : gdB f l
    · have hw : whoB f l x = false := by simp [whoB, hg]
      rw [hw, show ofL f l x = [] by simp [ofL, hw]]
      have Hg := Lib.hid hg
      clear hx hg hw
      go_enter Try.func139, Try.ntmps139
      go_wp2_with fail
      refine (isFriend_yes f x _ Hx.out.1 Hx.out.2).mono ?_
      rintro e w' ⟨rfl, rfl⟩
      go_wp2_with fail
      refine (that_no _ f ao cap l n _ Hn hs HHc Hg).mono ?_
      rintro e w2 ⟨v, rfl, own2, hb2⟩
      have Hown2 := Lib.hid own2
      clear own2
      go_wp2_with fail
      go_ret2
      exact ⟨v, rfl, own_lower Hown2.out (by simp), hba.trans (hb2.mono (by simp))⟩
    · have hff := gd_fr hg
      have hw : whoB f l x = true := by simp [whoB, hg]; omega
      obtain ⟨F, rfl⟩ := Int.eq_ofNat_of_zero_le (show 0 ≤ f by omega)
      rw [hw, show ofL F l x = tl (pOf x) F l n by simp [ofL, hw, Hn.out]]
      have Hg := Lib.hid hg
      have hs60 : n ≤ 60 := by rw [Hn.out]; exact gd_len' hg
      clear hx hg hw
      go_enter Try.func139, Try.ntmps139
      go_wp2_with fail
      refine (isFriend_yes F x _ Hx.out.1 Hx.out.2).mono ?_
      rintro e w' ⟨rfl, rfl⟩
      go_wp2_with fail
      refine (thatOf _ F ao cap l n Hn hs60 w.heap.size x (by show World.cell? _ _ = _; rw [cell_of_row _ _ _ _ _ _ (heap_alloc_new w _)]; rfl) HHc Hg hff).mono ?_
      rintro e w2 ⟨v, rfl, own2, hb2⟩
      have Hown2 := Lib.hid own2
      clear own2
      go_wp2_with fail
      go_ret2
      exact ⟨v, rfl, own_lower Hown2.out (by simp), hba.trans (hb2.mono (by simp))⟩
  · have Hx := Lib.hid hx
    have hw : whoB f l x = false := by simp [whoB]; omega
    rw [hw, show ofL f l x = [] by simp [ofL, hw]]
    clear hx hw
    go_enter Try.func139, Try.ntmps139
    go_wp2_with fail
    refine (isFriend_no f x _ Hx.out).mono ?_
    rintro e w' ⟨rfl, rfl⟩
    go_wp2_with fail
    go_ret2
    exact ⟨_, rfl, World.ownsRow_nil _ _ _ _, hba⟩

end Go.Proofs.Ytmgmkgjefplfdaa
