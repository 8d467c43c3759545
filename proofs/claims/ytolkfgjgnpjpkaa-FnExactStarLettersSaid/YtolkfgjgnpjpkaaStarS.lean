/- Letters there and back: the model. -/
import Derived.Test.YtolkfgjgnpjpkaaStarB
namespace Go.Proofs.Ytolkfgjgnpjpkaa
open Go.ChangeShapes Go.WideShapes Go.ChangeAt Go.RowKit
set_option linter.unusedVariables false


set_option maxRecDepth 20000 in
theorem specStar_yes (F : Nat) (x : Nat) (w : World) (h2 : F ≤ 10) (hx : x < F) :
    Calls Try.prog 51 #[.int .i64 F, .int .i64 x] w fun e w' => ∃ v, e = .returned (.tuple #[v, .bool true]) ∧ w'.ownsRow w.heap.size 62 2 v (ot F x + ot F x) (cs (thereL F x ++ hereL F x)) ∧ Below w.heap.size w w' := by
  obtain ⟨i0, hi, hz0, hz1, hz2⟩ := info_parts info62
  have Hfr : Hid (frB (F : Int) = true) := by show _ = _; simp [frB]; omega

  go_enter Try.func51, Try.ntmps51
  go_wp2_with fail
  refine (caFriends_any F w).mono ?_
  rintro e w' ⟨rfl, rfl⟩
  rw [Hfr.out]
  go_wp2_with fail
  refine (l1In_any x 0 ((F : Int) - 1) _).mono ?_
  rintro e w' ⟨rfl, rfl⟩
  rw [show decide ((0 : Int) ≤ x ∧ (x : Int) ≤ (F : Int) - 1) = true by simp; omega]
  go_wp2_with fail
  go_loopw [6, 7, 8] (fun v u i wr => ∃ k : Nat, k ≤ F ∧ i = .int .i64 k ∧ Two wr w.heap.size v u k x ∧ Below w.heap.size w wr) (fun _ _ i _ => F - (intOf i).toNat)
  case atStart => exact ⟨0, Nat.zero_le _, rfl, Two.nil _ _ _, Below.refl _ _⟩
  case round =>
    obtain ⟨k, hk, rfl, htwo, hbel⟩ := hrel
    have hsz := hbel.size
    by_cases hlt : k < F
    · by_cases hkx : k = x
      · subst hkx
        have hne : ((k : Int) != (k : Int)) = false := by simp
        have Htwo := Lib.hid (htwo.same)
        clear htwo
        go_wp2_with fail
        go_roundw
        case rel => exact ⟨k + 1, by omega, by go_num, Htwo.out, hbel⟩
        case measure => simp [intOf]; omega
      · have hne : ((k : Int) != (x : Int)) = true := by simp; omega
        have Htwo := Lib.hid htwo
        have hot := ot_le k x
        clear htwo
        go_wp2_with (at_builtin; refine wpList_append_lies _ rfl _ _ 25 rfl w.heap.size 62 i0 (.agg #[.int .i64 0, .int .i64 0]) 2 16 Try.underlying25 hi hz0 hz1 hz2 rfl (by decide) _ (ot k x) (cs (thereL k x)) rfl (Htwo.out.1.alloc _) ⟨wr.heap.size, 0, none⟩ 1 1 [.int .i64 k, .int .i64 x] rfl rfl ?c1 ?c2 ?c3 ?c4 ?c5 ?c6 (wr.heap.size + 1) ?c7 ?_)
        case c1 => exact World.news_of_block (cs := #[.int .i64 k, .int .i64 x]) (t := 62) (fr := (0, 0)) (heap_alloc_new _ _)
        case c2 => intro u hu; simp at hu; rcases hu with rfl | rfl <;> rfl
        case c3 => omega
        case c4 => unfold maxLen; omega
        case c5 => omega
        case c6 => simp; omega
        case c7 => simp
        intro g cap3 w2 hown' hgr hat hg2
        have Hmid := Lib.hid (Two.mid Htwo.out hkx hsz hown' hgr hat)
        have Hbel2 := Lib.hid ((hbel.alloc hsz _).grown hgr (by simp; omega) (fun b hb => (Htwo.out.1.lt b hb).1))
        have hsz2 := Hbel2.out.size
        clear hown' hgr hat hbel
        go_wp2_with (at_builtin; refine wpList_append_lies _ rfl _ _ 25 rfl w.heap.size 62 i0 (.agg #[.int .i64 0, .int .i64 0]) 2 16 Try.underlying25 hi hz0 hz1 hz2 rfl (by decide) _ (ot k x) (cs (hereL k x)) rfl (Hmid.out.2.1.alloc _) ⟨w2.heap.size, 0, none⟩ 1 1 [.int .i64 x, .int .i64 k] rfl rfl ?d1 ?d2 ?d3 ?d4 ?d5 ?d6 (w2.heap.size + 1) ?d7 ?_)
        case d1 => exact World.news_of_block (cs := #[.int .i64 x, .int .i64 k]) (t := 62) (fr := (0, 0)) (heap_alloc_new _ _)
        case d2 => intro u hu; simp at hu; rcases hu with rfl | rfl <;> rfl
        case d3 => omega
        case d4 => unfold maxLen; omega
        case d5 => omega
        case d6 => simp; omega
        case d7 => simp
        intro g4 cap4 w4 hown' hgr hat hg4
        have Hend := Lib.hid (Two.fin Hmid.out hkx hsz2 hown' hgr hat)
        have Hbel4 := Lib.hid ((Hbel2.out.alloc hsz2 _).grown hgr (by simp; omega) (fun b hb => (Hmid.out.2.1.lt b hb).1))
        clear hown' hgr hat
        go_wp2_with fail
        go_roundw
        case rel => exact ⟨k + 1, by omega, by go_num, Hend.out, Hbel4.out⟩
        case measure => simp [intOf]; omega
    · obtain rfl : k = F := by omega
      by_cases h1 : k = 1
      · have hot : ot k x = 0 := by subst h1; obtain rfl : x = 0 := by omega
                                    rfl
        have hnil : hereL k x = [] := List.eq_nil_of_length_eq_zero (by rw [hereL_length]; exact hot)
        have hnil2 : thereL k x = [] := List.eq_nil_of_length_eq_zero (by rw [thereL_length]; exact hot)
        have Hv := Lib.hid (htwo.none1 hot)
        have Hu := Lib.hid (htwo.none2 hot)
        rw [Hv.out, Hu.out]
        have Hown1 := Lib.hid (World.ownsRow_nil wr w.heap.size 62 2)
        clear htwo
        go_wp2_with (at_builtin; refine wpList_append_own_none rfl _ _ 25 rfl w.heap.size 62 i0 2 Try.underlying25 hi _ _ _ rfl Hown1.out rfl ?_)
        go_ret2
        exact ⟨_, rfl, by rw [hot, hnil, hnil2]; exact Hown1.out, hbel⟩
      · have hot0 : 0 < ot k x := ot_pos hx (by omega)
        have hot := ot_le k x
        obtain ⟨g, cap, hv⟩ := own_apos htwo.2.1 hot0
        have Htwo := Lib.hid htwo
        clear htwo
        have Ho2 : Hid (wr.ownsRow w.heap.size 62 2 (.slice (some ⟨g, 0, none⟩) (ot k x) cap) (ot k x) (cs (hereL k x))) := by rw [← hv]; exact Htwo.out.2.1
        rw [hv]
        go_wp2_with (at_builtin; refine wpList_append_own _ rfl _ _ 25 rfl w.heap.size 62 i0 (.agg #[.int .i64 0, .int .i64 0]) 2 16 Try.underlying25 hi hz0 hz1 hz2 rfl (by decide) _ (ot k x) (cs (thereL k x)) rfl Htwo.out.1 ⟨g, 0, none⟩ (ot k x) cap (cs (hereL k x)) rfl ?e0 ?e1 ?e2 ?e3 ?e4 ?e5 ?_)
        case e0 => rw [cs_length, hereL_length]
        case e1 => exact Ho2.out.cells rfl
        case e2 => exact cs_one _
        case e3 => unfold maxLen; omega
        case e4 => omega
        case e5 => exact hsz
        intro v' w3 hown' hgr _
        have Hown := Lib.hid hown'
        have Hbel := Lib.hid (hbel.grown hgr hsz (fun b hb => (Htwo.out.1.lt b hb).1))
        clear hown' hgr hbel
        go_wp2_with fail
        go_ret2
        exact ⟨v', rfl, by rw [cs_append]; exact Hown.out, Hbel.out⟩

theorem specStar_no1 (f x : Int) (w : World) (hf : frB f = false) :
    Calls Try.prog 51 #[.int .i64 f, .int .i64 x] w fun e w' => ∃ v, e = .returned (.tuple #[v, .bool false]) ∧ w'.ownsRow w.heap.size 62 2 v 0 (cs []) ∧ Below w.heap.size w w' := by
  have Hf := Lib.hid hf
  clear hf
  have Hown1 := Lib.hid (World.ownsRow_nil w w.heap.size 62 2)
  go_enter Try.func51, Try.ntmps51
  go_wp2_with fail
  refine (caFriends_any f w).mono ?_
  rintro e w' ⟨rfl, rfl⟩
  rw [Hf.out]
  go_wp2_with fail
  go_ret2
  exact ⟨_, rfl, Hown1.out, Below.refl _ _⟩
theorem specStar_no2 (f x : Int) (w : World) (hf : frB f = true) (hx : ¬ (0 ≤ x ∧ x < f)) :
    Calls Try.prog 51 #[.int .i64 f, .int .i64 x] w fun e w' => ∃ v, e = .returned (.tuple #[v, .bool false]) ∧ w'.ownsRow w.heap.size 62 2 v 0 (cs []) ∧ Below w.heap.size w w' := by
  have hff : 1 ≤ f ∧ f ≤ 10 := by simpa [frB] using hf
  have h1 := hff.1
  have h2 := hff.2
  have Hf := Lib.hid hf
  have Hx := Lib.hid hx
  clear hf hx hff
  have Hown1 := Lib.hid (World.ownsRow_nil w w.heap.size 62 2)
  go_enter Try.func51, Try.ntmps51
  go_wp2_with fail
  refine (caFriends_any f w).mono ?_
  rintro e w' ⟨rfl, rfl⟩
  rw [Hf.out]
  go_wp2_with fail
  refine (l1In_any x 0 (f - 1) _).mono ?_
  rintro e w' ⟨rfl, rfl⟩
  rw [show decide ((0 : Int) ≤ x ∧ x ≤ f - 1) = false by have := Hx.out; simp; omega]
  go_wp2_with fail
  go_ret2
  exact ⟨_, rfl, Hown1.out, Below.refl _ _⟩
theorem specStar_any (w : World) (f x : Int) : Calls Try.prog 51 #[.int .i64 f, .int .i64 x] w fun e w' => ∃ v, e = .returned (.tuple #[v, .bool (starB f x)]) ∧ w'.ownsRow w.heap.size 62 2 v (starR f x).length (cs (starR f x)) ∧ Below w.heap.size w w' := by
  cases hf : frB f
  · rw [show starB f x = false by simp [starB, hf], show starR f x = [] by simp [starR, starB, hf]]
    exact specStar_no1 f x w hf
  · by_cases hx : 0 ≤ x ∧ x < f
    · have hff : 1 ≤ f ∧ f ≤ 10 := by simpa [frB] using hf
      obtain ⟨F, rfl⟩ : ∃ F : Nat, f = F := ⟨f.toNat, by omega⟩
      obtain ⟨y, rfl⟩ : ∃ y : Nat, x = y := ⟨x.toNat, by omega⟩
      have hb : starB F y = true := by simp [starB, hf]; omega
      rw [hb, show starR F y = thereL F y ++ hereL F y by simp [starR, hb], List.length_append, thereL_length, hereL_length]
      exact specStar_yes F y w (by omega) (by omega)
    · have hb : starB f x = false := by simp [starB, hf]; omega
      rw [hb, show starR f x = [] by simp [starR, hb]]
      exact specStar_no2 f x w hf hx

end Go.Proofs.Ytolkfgjgnpjpkaa
