/- Who can hear from a friend: the model and the program. -/
import Derived.Test.YtolkfgjgnpjpkaaHeardA
import Derived.Test.YtolkfgjgnpjpkaaStarB
import Derived.Test.YtolkfgjgnpjpkaaRows2
namespace Go.Proofs.Ytolkfgjgnpjpkaa
open Go.ChangeShapes Go.WideShapes Go.ChangeAt Go.RowKit Go.Maps Go.Shelf
set_option linter.unusedVariables false


set_option maxRecDepth 20000 in
theorem hearersOf_zero (ao : Option Addr) (cap : Nat) (F x : Nat) (w : World) (hF : F ≤ 10) (hxF : x < F) :
    Calls Try.prog 96 #[.slice ao 0 cap, .int .i64 x] w fun e w' => ∃ s, e = .returned (.map (some w.heap.size)) ∧ SetAt w' w.heap.size s ∧ IsHr F [] x s ∧ Below w.heap.size w w' := by
  have Hst := Lib.hid ((Hs0.start (l := []) hxF).done (fun i hi => absurd hi (by simp)) (fun i hi => absurd hi (by simp)))
  have hmm := @run_makeMap Try.prog
  go_enter Try.func96, Try.ntmps96
  go_wp2_with fail
  go_step3
  go_wp2_with (refine wpList_insert_own _ rfl _ _ _ 72 rfl 3 4 law3 Try.underlying72 (plainElem (H := Unit) Try.prog 4) w.heap.size 0 (.map []) rfl (World.ownsMap_made w Try.prog 3 _) (by unfold maxLen; omega) _ _ (.int .i64 (x : Int)) rfl rfl (keyOf_int_mk Try.underlying3 (wf_nat x (by omega))) (.lit (.bool true)) [] (plainElem_bool Try.underlying4 true) ?_)
  intro w2 own2 gr2
  have hb2 : Below w.heap.size w w2 := ((Below.refl _ _).alloc (Nat.le_refl _) _).grown gr2 (by simp) (fun j hj => by cases hj; exact Nat.le_refl _)
  have hset : SetAt w2 w.heap.size (2 ^ x) := by
    have hc := World.ownsMap.canon own2 law3
    rw [set_zero] at own2 hc
    rw [set_put (by omega) hc, Nat.zero_or] at own2
    exact set_at own2
  clear own2 gr2
  go_wp2_with fail
  go_step3
  go_wp2_with fail
  go_rounds 1
  try rw [Exit.noGoto_ret]
  go_ret
  exact ⟨2 ^ x, rfl, hset, Hst.out, hb2⟩

theorem hearersOf_any (ao : Option Addr) (cap : Nat) (F x : Nat) (l : List (Int × Int)) (n : Nat) (w : World) (Hn : Hid (n = l.length)) (hg : gdL (F : Int) l = true) (hxF : x < F) (Hc : CallsAt w ao l) :
    Calls Try.prog 96 #[.slice ao n cap, .int .i64 x] w fun e w' => ∃ s, e = .returned (.map (some w.heap.size)) ∧ SetAt w' w.heap.size s ∧ IsHr F l x s ∧ Below w.heap.size w w' := by
  have hff := gl_fr hg
  have hlen := gl_len2 hg
  have Hfit : Hid (Fit F n l) := fun i hi => gl_letter hg (by rw [← Hn.out]; exact hi)
  by_cases h0 : n = 0
  · subst h0
    have : l = [] := List.eq_nil_of_length_eq_zero Hn.out.symm
    subst this
    exact hearersOf_zero ao cap F x w (by omega) hxF
  · rcases Hc with rfl | ⟨b, off, rfl, hc⟩
    · exact absurd Hn.out h0
    · exact hearersOf_pos b off cap F x l n w Hn (by rw [Hn.out]; exact hlen) (by omega) hxF Hfit (by rw [Hn.out]; exact hc)

def hfB (f : Int) (l : List (Int × Int)) (x : Int) : Bool := arB f l && decide (0 ≤ x ∧ x < f)
noncomputable def hfR (f : Int) (l : List (Int × Int)) (x : Int) : List Int := if hfB f l x then bl (hr f.toNat l x.toNat) 10 else []
theorem hfR_length (f : Int) (l : List (Int × Int)) (x : Int) : (hfR f l x).length ≤ 60 := by
  unfold hfR
  split
  · have := bl_le (hr f.toNat l x.toNat) 10; omega
  · simp

set_option maxRecDepth 20000 in
theorem specHf_yes (w : World) (F x : Nat) (ao : Option Addr) (cap : Nat) (l : List (Int × Int)) (n : Nat) (Hn : Hid (n = l.length)) (hm : n ≤ 1048576) (HHc : Hid (CallsAt w ao l)) (Ha : Hid (arB (F : Int) l = true)) (Hg : Hid (gdL (F : Int) l = true)) (hF : F ≤ 10) (hxF : x < F) :
    Calls Try.prog 57 #[.int .i64 F, .slice ao n cap, .int .i64 x] w fun e w' => ∃ v, e = .returned (.tuple #[v, .bool true]) ∧ w'.ownsRow w.heap.size 3 1 v (bl (hr F l x) 10).length (ns (bl (hr F l x) 10)) ∧ Below w.heap.size w w' := by
  go_enter Try.func57, Try.ntmps57
  go_wp2_with fail
  refine (leArrows_any F ao cap l n w Hn.out (by omega) HHc.out).mono ?_
  rintro e w1 ⟨rfl, hb1⟩
  rw [Ha.out]
  have Hc1 := Lib.hid (HHc.out.kept hb1)
  go_wp2_with fail
  refine (l1In_any x 0 ((F : Int) - 1) _).mono ?_
  rintro e w' ⟨rfl, rfl⟩
  rw [show decide ((0 : Int) ≤ x ∧ (x : Int) ≤ (F : Int) - 1) = true by simp; omega]
  go_wp2_with fail
  refine (leHeard_any F ao cap l n w1 Hn Hg.out Hc1.out).mono ?_
  rintro e w2 ⟨v2, s, rfl, own2, hhr, hs, hb⟩
  have hb2 : Below w.heap.size w w2 := hb1.trans (hb.mono hb1.size)
  obtain ⟨g, c2, rfl⟩ := own_apos' own2 (by omega)
  have hc := kl_cells own2 x hxF
  rw [Nat.zero_add] at hc
  have He : Hid (hr F l x = s x) := hr_eq (hhr x hxF)
  have hsx : s x < 1024 := pow_small (f := F) hF (hs x)
  have hs2 := hb2.size
  have hx0 : (0 : Int) ≤ (x : Int) := by omega
  have hx1 : (x : Int) < (F : Int) := by omega
  clear own2 hhr hs hb hb1
  go_wp2_with fail
  refine (caBits_any (s x) w2 hsx).mono ?_
  rintro e w3 ⟨v3, rfl, own3, hb3⟩
  rw [← bl_length] at own3
  have Own3 := Lib.hid (own_base hs2 own3)
  have hb4 : Below w.heap.size w w3 := hb2.trans (hb3.mono hs2)
  clear own3 hb3
  go_wp2_with fail
  go_ret2
  exact ⟨_, rfl, by rw [He.out]; exact Own3.out, hb4⟩

set_option maxRecDepth 20000 in
theorem implHf_yes (w : World) (F x : Nat) (ao : Option Addr) (cap : Nat) (l : List (Int × Int)) (n : Nat) (Hn : Hid (n = l.length)) (hm : n ≤ 1048576) (HHc : Hid (CallsAt w ao l)) (Ha : Hid (arB (F : Int) l = true)) (Hg : Hid (gdL (F : Int) l = true)) (hF : F ≤ 10) (hxF : x < F) :
    Calls Try.prog 58 #[.int .i64 F, .slice ao n cap, .int .i64 x] w fun e w' => ∃ v, e = .returned (.tuple #[v, .bool true]) ∧ w'.ownsRow w.heap.size 3 1 v (bl (hr F l x) 10).length (ns (bl (hr F l x) 10)) ∧ Below w.heap.size w w' := by
  go_enter Try.func58, Try.ntmps58
  go_wp2_with fail
  refine (areArrows_any F ao cap l n w Hn.out (by omega) HHc.out).mono ?_
  rintro e w1 ⟨rfl, hb1⟩
  rw [Ha.out]
  have Hc1 := Lib.hid (HHc.out.kept hb1)
  go_wp2_with fail
  refine (isFriend_yes F x _ (by omega) (by omega)).mono ?_
  rintro e w' ⟨rfl, rfl⟩
  go_wp2_with fail
  refine (hearersOf_any ao cap F x l n w1 Hn Hg.out hxF Hc1.out).mono ?_
  rintro e w2 ⟨s, rfl, hset, hhr, hb⟩
  have hb2 : Below w.heap.size w w2 := hb1.trans (hb.mono hb1.size)
  have He : Hid (hr F l x = s) := hr_eq hhr
  have Hkeys := Lib.hid (keys_any w1.heap.size w2)
  have Hsort := Lib.hid (sorted_any w1.heap.size s w2 hset)
  have hs2 := hb2.size
  clear hset hhr hb hb1
  go_wp2_with fail
  refine Hkeys.out.mono ?_
  rintro e w4 ⟨rfl, rfl⟩
  go_wp2_with fail
  refine Hsort.out.mono ?_
  rintro e w5 ⟨v5, rfl, own5, hb5⟩
  have Own5 := Lib.hid (own_base (b' := w.heap.size) (by omega) own5)
  have hb6 : Below w.heap.size w w5 := hb2.trans (hb5.mono hs2)
  clear own5 hb5
  go_wp2_with fail
  go_ret2
  exact ⟨_, rfl, by rw [He.out]; exact Own5.out, hb6⟩

theorem specHf_no1 (w : World) (f x : Int) (ao : Option Addr) (cap : Nat) (l : List (Int × Int)) (n : Nat) (Hn : Hid (n = l.length)) (hm : n ≤ 1048576) (HHc : Hid (CallsAt w ao l)) (Ha : Hid (arB f l = false)) :
    Calls Try.prog 57 #[.int .i64 f, .slice ao n cap, .int .i64 x] w fun e w' => ∃ v, e = .returned (.tuple #[v, .bool false]) ∧ w'.ownsRow w.heap.size 3 1 v 0 (ns []) ∧ Below w.heap.size w w' := by
  go_enter Try.func57, Try.ntmps57
  go_wp2_with fail
  refine (leArrows_any f ao cap l n w Hn.out (by omega) HHc.out).mono ?_
  rintro e w1 ⟨rfl, hb1⟩
  rw [Ha.out]
  go_wp2_with fail
  go_ret2
  exact ⟨_, rfl, World.ownsRow_nil _ _ _ _, hb1⟩
theorem specHf_no2 (w : World) (f x : Int) (ao : Option Addr) (cap : Nat) (l : List (Int × Int)) (n : Nat) (Hn : Hid (n = l.length)) (hm : n ≤ 1048576) (HHc : Hid (CallsAt w ao l)) (Ha : Hid (arB f l = true)) (hf1 : 1 ≤ f) (hf2 : f ≤ 10) (Hx : Hid (¬ (0 ≤ x ∧ x < f))) :
    Calls Try.prog 57 #[.int .i64 f, .slice ao n cap, .int .i64 x] w fun e w' => ∃ v, e = .returned (.tuple #[v, .bool false]) ∧ w'.ownsRow w.heap.size 3 1 v 0 (ns []) ∧ Below w.heap.size w w' := by
  go_enter Try.func57, Try.ntmps57
  go_wp2_with fail
  refine (leArrows_any f ao cap l n w Hn.out (by omega) HHc.out).mono ?_
  rintro e w1 ⟨rfl, hb1⟩
  rw [Ha.out]
  go_wp2_with fail
  refine (l1In_any x 0 (f - 1) _).mono ?_
  rintro e w' ⟨rfl, rfl⟩
  rw [show decide ((0 : Int) ≤ x ∧ x ≤ f - 1) = false by have := Hx.out; simp; omega]
  go_wp2_with fail
  go_ret2
  exact ⟨_, rfl, World.ownsRow_nil _ _ _ _, hb1⟩
theorem specHf_any (w : World) (f : Int) (ao : Option Addr) (cap : Nat) (l : List (Int × Int)) (n : Nat) (Hn : Hid (n = l.length)) (hs : n ≤ 1048576) (Hc : CallsAt w ao l) (x : Int) :
    Calls Try.prog 57 #[.int .i64 f, .slice ao n cap, .int .i64 x] w fun e w' => ∃ v, e = .returned (.tuple #[v, .bool (hfB f l x)]) ∧ w'.ownsRow w.heap.size 3 1 v (hfR f l x).length (ns (hfR f l x)) ∧ Below w.heap.size w w' := by
  cases ha : arB f l
  · rw [show hfB f l x = false by simp [hfB, ha], show hfR f l x = [] by simp [hfR, hfB, ha]]
    exact specHf_no1 w f x ao cap l n Hn hs Hc ha
  · have hg : gdL f l = true := by simp only [arB, Bool.and_eq_true] at ha; exact ha.1
    have hff := gl_fr hg
    by_cases hx : 0 ≤ x ∧ x < f
    · obtain ⟨F, rfl⟩ := Int.eq_ofNat_of_zero_le (show 0 ≤ f by omega)
      obtain ⟨y, rfl⟩ := Int.eq_ofNat_of_zero_le hx.1
      have hb : hfB F l y = true := by simp [hfB, ha]; omega
      rw [hb, show hfR F l y = bl (hr F l y) 10 by simp [hfR, hb]]
      exact specHf_yes w F y ao cap l n Hn hs Hc ha hg (by omega) (by omega)
    · have hb : hfB f l x = false := by simp only [hfB, Bool.and_eq_false_iff, decide_eq_false_iff_not]; exact .inr hx
      rw [hb, show hfR f l x = [] by simp [hfR, hb]]
      exact specHf_no2 w f x ao cap l n Hn hs Hc ha hff.1 hff.2 hx

theorem implHf_no1 (w : World) (f x : Int) (ao : Option Addr) (cap : Nat) (l : List (Int × Int)) (n : Nat) (Hn : Hid (n = l.length)) (hm : n ≤ 1048576) (HHc : Hid (CallsAt w ao l)) (Ha : Hid (arB f l = false)) :
    Calls Try.prog 58 #[.int .i64 f, .slice ao n cap, .int .i64 x] w fun e w' => ∃ v, e = .returned (.tuple #[v, .bool false]) ∧ w'.ownsRow w.heap.size 3 1 v 0 (ns []) ∧ Below w.heap.size w w' := by
  go_enter Try.func58, Try.ntmps58
  go_wp2_with fail
  refine (areArrows_any f ao cap l n w Hn.out (by omega) HHc.out).mono ?_
  rintro e w1 ⟨rfl, hb1⟩
  rw [Ha.out]
  go_wp2_with fail
  go_ret2
  exact ⟨_, rfl, World.ownsRow_nil _ _ _ _, hb1⟩
theorem implHf_no2 (w : World) (f x : Int) (ao : Option Addr) (cap : Nat) (l : List (Int × Int)) (n : Nat) (Hn : Hid (n = l.length)) (hm : n ≤ 1048576) (HHc : Hid (CallsAt w ao l)) (Ha : Hid (arB f l = true)) (hf1 : 1 ≤ f) (hf2 : f ≤ 10) (Hx : Hid (¬ (0 ≤ x ∧ x < f))) :
    Calls Try.prog 58 #[.int .i64 f, .slice ao n cap, .int .i64 x] w fun e w' => ∃ v, e = .returned (.tuple #[v, .bool false]) ∧ w'.ownsRow w.heap.size 3 1 v 0 (ns []) ∧ Below w.heap.size w w' := by
  go_enter Try.func58, Try.ntmps58
  go_wp2_with fail
  refine (areArrows_any f ao cap l n w Hn.out (by omega) HHc.out).mono ?_
  rintro e w1 ⟨rfl, hb1⟩
  rw [Ha.out]
  go_wp2_with fail
  refine (isFriend_no f x _ Hx.out).mono ?_
  rintro e w' ⟨rfl, rfl⟩
  skip
  go_wp2_with fail
  go_ret2
  exact ⟨_, rfl, World.ownsRow_nil _ _ _ _, hb1⟩
theorem implHf_any (w : World) (f : Int) (ao : Option Addr) (cap : Nat) (l : List (Int × Int)) (n : Nat) (Hn : Hid (n = l.length)) (hs : n ≤ 1048576) (Hc : CallsAt w ao l) (x : Int) :
    Calls Try.prog 58 #[.int .i64 f, .slice ao n cap, .int .i64 x] w fun e w' => ∃ v, e = .returned (.tuple #[v, .bool (hfB f l x)]) ∧ w'.ownsRow w.heap.size 3 1 v (hfR f l x).length (ns (hfR f l x)) ∧ Below w.heap.size w w' := by
  cases ha : arB f l
  · rw [show hfB f l x = false by simp [hfB, ha], show hfR f l x = [] by simp [hfR, hfB, ha]]
    exact implHf_no1 w f x ao cap l n Hn hs Hc ha
  · have hg : gdL f l = true := by simp only [arB, Bool.and_eq_true] at ha; exact ha.1
    have hff := gl_fr hg
    by_cases hx : 0 ≤ x ∧ x < f
    · obtain ⟨F, rfl⟩ := Int.eq_ofNat_of_zero_le (show 0 ≤ f by omega)
      obtain ⟨y, rfl⟩ := Int.eq_ofNat_of_zero_le hx.1
      have hb : hfB F l y = true := by simp [hfB, ha]; omega
      rw [hb, show hfR F l y = bl (hr F l y) 10 by simp [hfR, hb]]
      exact implHf_yes w F y ao cap l n Hn hs Hc ha hg (by omega) (by omega)
    · have hb : hfB f l x = false := by simp only [hfB, Bool.and_eq_false_iff, decide_eq_false_iff_not]; exact .inr hx
      rw [hb, show hfR f l x = [] by simp [hfR, hb]]
      exact implHf_no2 w f x ao cap l n Hn hs Hc ha hff.1 hff.2 hx

end Go.Proofs.Ytolkfgjgnpjpkaa
