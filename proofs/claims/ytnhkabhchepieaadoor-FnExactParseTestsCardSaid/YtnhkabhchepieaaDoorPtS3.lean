/- What tests a text is of: the model for all texts. -/
import Derived.Test.YtnhkabhchepieaaDoorPtS2
namespace Go.Proofs.YtnhkabhchepieaaDoor
open Go.ChangeShapes Go.WideShapes Go.ChangeAt Go.RowKit
set_option linter.unusedVariables false


theorem lit_e : ByteArray.mk #[] = ⟨([] : List UInt8).toArray⟩ := rfl
set_option maxHeartbeats 1600000 in
set_option maxRecDepth 20000 in
theorem specPts_any (s : ByteArray) (l : List UInt8) (Hl : Hid (l = s.data.toList)) (n : Nat) (Hn : Hid (n = s.size)) (w : World) :
    Calls Tryd.prog 13 #[.string s] w fun e w' => ∃ v X, e = .returned (.tuple #[v, .bool (pB l)]) ∧ OwnSS w' w.heap.size v X (pR l) ∧ Below w.heap.size w w' := by
  by_cases h0 : n = 0
  · obtain ⟨he, hl⟩ := empty_of Hl.out (by rw [← Hn.out]; exact h0)
    have hr : pR l = [] := by rw [hl]; rfl
    have hb : pB l = true := by rw [hl]; rfl
    rw [hb, hr]
    have hs : s.size = 0 := by rw [← Hn.out]; exact h0
    have hs240 : decide ((240 : Int) < (s.size : Int)) = false := by simp; omega
    have hs240' : decide (240 < s.size) = false := by simp; omega
    have hs0 : decide ((0 : Int) < (s.size : Int)) = false := decide_eq_false (by omega)
    have hs0' : decide (0 < s.size) = false := decide_eq_false (by omega)
    have hse : s = ⟨#[]⟩ := by
      have : s.data.toList = [] := by rw [← Hl.out, hl]
      cases s with
      | mk d => simp at this; rw [this]
    have hte : ((tT []).toList == s.toList) = true := by rw [tT_eq [] s l Hl.out, hl]; decide
    have HA := Lib.hid (wiGood_any 10 none 0 [] 0 w (Lib.hid rfl) (by omega) (Lib.hid (fun i => by simp [row])) (Lib.hid (.inl rfl)))
    have HT := Lib.hid (wiText_any w none 0 [] 0 (Lib.hid rfl) (Lib.hid (by decide)) (Lib.hid (.inl rfl)))
    have hg : wiB 10 [] = true := by decide
    rw [hg] at HA
    clear hl h0 hr hb hse hs he
    go_enter Tryd.func13, Tryd.ntmps13
    go_wp2_with fail
    refine HA.out.mono ?_
    rintro e w' ⟨rfl, rfl⟩
    go_wp2_with fail
    refine HT.out.mono ?_
    rintro e w5 ⟨rfl, hb5⟩
    go_wp2_with fail
    go_ret2
    exact ⟨_, [], rfl, OwnSS.nil _ _, hb5⟩
  · obtain ⟨hne, hne2⟩ := nonempty_of Hl.out (by rw [← Hn.out]; omega)
    rw [pB_some hne2]
    by_cases hs : n ≤ 240
    · exact specPts_loop s l Hl n Hn (by omega) hs w
    · have hll : l.length = n := by rw [Hl.out, Hn.out]; simp
      have hno : mOK l = false := by rw [mOK, show decide (l.length ≤ 240) = false by simp; omega]; rfl
      rw [pR_no hno, hno]
      have hs240 : decide ((240 : Int) < (s.size : Int)) = true := by have := Hn.out; simp; omega
      have hs240' : decide (240 < s.size) = true := by have := Hn.out; simp; omega
      clear hne hne2 hno hll hs h0
      go_enter Tryd.func13, Tryd.ntmps13
      go_wp2_with fail
      go_ret2
      exact ⟨_, [], rfl, OwnSS.nil _ _, Below.refl _ _⟩

end Go.Proofs.YtnhkabhchepieaaDoor
