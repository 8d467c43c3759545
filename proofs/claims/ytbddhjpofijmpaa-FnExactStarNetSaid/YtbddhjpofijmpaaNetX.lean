/- The program's star. -/
import Derived.Test.YtbddhjpofijmpaaNetL
namespace Go.Proofs.Ytbddhjpofijmpaa
open Go.ChangeShapes Go.WideShapes Go.ChangeAt Go.RowKit
set_option linter.unusedVariables false


set_option maxRecDepth 20000 in
theorem implStar_yes (F x : Nat) (w : World) (hok : Hid (decide (1 ≤ F ∧ x < F) = true)) (hF : F ≤ 10) (hx : x ≤ 10) :
    Calls Try.prog 24 #[.int .i64 F, .int .i64 x] w fun e w' => ∃ v, e = .returned (.tuple #[v, .bool true]) ∧ w'.ownsRow w.heap.size 46 2 v (wholeP (pr 2 x F) F F).length (cs (wholeP (pr 2 x F) F F)) ∧ Below w.heap.size w w' := by
  have hF1 : 1 ≤ F ∧ x < F := by simpa using hok.out
  have hxF := hF1.2
  rw [← starT_all F (by omega) x hxF]
  obtain ⟨i0, hi, hz0, hz1, hz2⟩ := info_parts info46
  go_enter Try.func24, Try.ntmps24
  go_wp2_with fail
  refine (canBeNetted_any F w).mono ?_
  rintro e w' ⟨rfl, rfl⟩
  rw [show frB (F : Int) = true by simp [frB]; omega]
  go_wp2_with fail
  refine (isFriend_yes F x w (by omega) (by omega)).mono ?_
  rintro e w' ⟨rfl, rfl⟩
  go_wp2_with fail
  go_loopw [6, 18] (fun v i wr => ∃ k : Nat, k ≤ F ∧ i = .int .i64 k ∧ wr.ownsRow w.heap.size 46 2 v (starT x k).length (cs (starT x k)) ∧ Below w.heap.size w wr) (fun _ i _ => F - (intOf i).toNat)
  case atStart => exact ⟨0, Nat.zero_le _, rfl, World.ownsRow_nil _ _ _ _, Below.refl _ _⟩
  case round =>
    obtain ⟨k, hk, rfl, hor, hbel⟩ := hrel
    have hll := starT_len x k
    by_cases hlt : k < F
    · by_cases hkx : k = x
      · have hne : ((k : Int) != (x : Int)) = false := by simp [hkx]
        have Hs : Hid (starT x (k + 1) = starT x k) := Lib.hid (by rw [starT, if_pos hkx, List.append_nil])
        have Hor := Lib.hid hor
        clear hkx hor
        go_wp2_with fail
        go_roundw
        case rel => exact ⟨k + 1, by omega, by go_num, by rw [Hs.out]; exact Hor.out, hbel⟩
        case measure => simp [intOf]; omega
      · have hne : ((k : Int) != (x : Int)) = true := by simp; omega
        obtain ⟨p, hp⟩ : ∃ p : Int, (if (x : Int) < k then (x : Int) else k) = p := ⟨_, rfl⟩
        obtain ⟨q, hq⟩ : ∃ q : Int, (if (x : Int) < k then (k : Int) else x) = q := ⟨_, rfl⟩
        have Hs : Hid (starT x (k + 1) = starT x k ++ [(p, q)]) := Lib.hid (by
          rw [starT, if_neg hkx, ← hp, ← hq]
          by_cases h : k < x
          · rw [if_pos h, if_neg (by omega), if_neg (by omega)]
          · rw [if_neg h, if_pos (by omega), if_pos (by omega)])
        have Hco := Lib.hid (callOf_any x k wr (by omega))
        rw [hp, hq] at Hco
        have hsz0 := hbel.size
        have Hor0 := Lib.hid hor
        clear hp hq hor
        go_wp2_with fail
        refine Hco.out.mono ?_
        rintro e w7 ⟨rfl, hb7⟩
        have hbel7 : Below w.heap.size w w7 := hbel.trans (hb7.mono hsz0)
        have hor := own_later Hor0.out hb7
        have hsz := hbel7.size
        clear hb7 hbel Hor0 Hco
        go_wp2_with (at_builtin; refine wpList_append_own _ rfl _ _ 25 rfl w.heap.size 46 i0 (.agg #[.int .i64 0, .int .i64 0]) 2 16 Try.underlying25 hi hz0 hz1 hz2 rfl (by decide) _ _ _ rfl (hor.alloc _) ⟨w7.heap.size, 0, none⟩ 1 1 [.int .i64 p, .int .i64 q] rfl rfl ?c1 ?c2 ?c3 ?c4 ?c5 ?_)
        case c1 => exact World.news_of_block (cs := #[.int .i64 p, .int .i64 q]) (t := 46) (fr := (0, 0)) (heap_alloc_new _ _)
        case c2 => intro u hu; simp at hu; rcases hu with rfl | rfl <;> rfl
        case c3 => unfold maxLen; omega
        case c4 => omega
        case c5 => simp; omega
        intro v' w8 hown' hgr _
        have Hown := Lib.hid hown'
        have Hbel := Lib.hid ((hbel7.alloc hsz _).grown hgr (by simp; omega) (fun b hb => (hor.lt b hb).1))
        clear hown' hgr
        clear hor hbel7
        go_wp2_with fail
        go_roundw
        case rel => exact ⟨k + 1, by omega, by go_num, by rw [Hs.out, cs_append, List.length_append]; exact Hown.out, Hbel.out⟩
        case measure => simp [intOf]; omega
    · obtain rfl : k = F := by omega
      obtain ⟨ao2, cap2, rfl, _⟩ := own_shape hor rfl
      have Hor := Lib.hid hor
      clear hor
      go_wp2_with fail
      go_ret2
      exact ⟨_, rfl, Hor.out, hbel⟩

theorem implStar_any (w : World) (f x : Int) :
    Calls Try.prog 24 #[.int .i64 f, .int .i64 x] w fun e w' => ∃ v, e = .returned (.tuple #[v, .bool (frB f && decide (0 ≤ x ∧ x < f))]) ∧ w'.ownsRow w.heap.size 46 2 v (netR (frB f && decide (0 ≤ x ∧ x < f)) 2 x.toNat f).length (cs (netR (frB f && decide (0 ≤ x ∧ x < f)) 2 x.toNat f)) ∧ Below w.heap.size w w' := by
  cases hok : frB f && decide (0 ≤ x ∧ x < f)
  · have Hno : Hid (netR (frB f && decide (0 ≤ x ∧ x < f)) 2 x.toNat f = []) := Lib.hid (by rw [hok]; rfl)
    rw [hok] at Hno
    have HOK := Lib.hid hok
    clear hok
    cases hf : frB f
    · have Hf := Lib.hid hf
      clear hf
      go_enter Try.func24, Try.ntmps24
      go_wp2_with fail
      refine (canBeNetted_any f w).mono ?_
      rintro e w' ⟨rfl, rfl⟩
      rw [Hf.out]
      go_wp2_with fail
      go_ret2
      exact ⟨.slice none 0 0, rfl, by rw [Hno.out]; exact World.ownsRow_nil _ _ _ _, Below.refl _ _⟩
    · have Hf := Lib.hid hf
      have hff : 1 ≤ f ∧ f ≤ 10 := by simpa [frB] using hf
      have hnx : ¬ (0 ≤ x ∧ x < f) := by
        have := HOK.out
        simp [hf] at this
        omega
      have Hnx := Lib.hid hnx
      clear hf hff hnx
      go_enter Try.func24, Try.ntmps24
      go_wp2_with fail
      refine (canBeNetted_any f w).mono ?_
      rintro e w' ⟨rfl, rfl⟩
      rw [Hf.out]
      go_wp2_with fail
      refine (isFriend_no f x w Hnx.out).mono ?_
      rintro e w' ⟨rfl, rfl⟩
      go_wp2_with fail
      go_ret2
      exact ⟨.slice none 0 0, rfl, by rw [Hno.out]; exact World.ownsRow_nil _ _ _ _, Below.refl _ _⟩
  · rw [show netR true 2 x.toNat f = wholeP (pr 2 x.toNat f.toNat) f.toNat f.toNat from rfl]
    have hf : (1 ≤ f ∧ f ≤ 10) ∧ 0 ≤ x ∧ x < f := by simpa [frB] using hok
    obtain ⟨F, rfl⟩ := Int.eq_ofNat_of_zero_le (show 0 ≤ f by omega)
    obtain ⟨y, rfl⟩ := Int.eq_ofNat_of_zero_le (show 0 ≤ x by omega)
    exact implStar_yes F y w (by show _ = _; simp; omega) (by omega) (by omega)

end Go.Proofs.Ytbddhjpofijmpaa
