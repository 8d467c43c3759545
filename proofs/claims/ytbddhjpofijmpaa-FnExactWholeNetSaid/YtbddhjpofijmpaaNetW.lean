/- The program's whole network. -/
import Derived.Test.YtbddhjpofijmpaaNetP
namespace Go.Proofs.Ytbddhjpofijmpaa
open Go.ChangeShapes Go.WideShapes Go.ChangeAt Go.RowKit
set_option linter.unusedVariables false


set_option maxRecDepth 20000 in
theorem allCalls_any (F : Nat) (w : World) (hF : F ≤ 10) :
    Calls Try.prog 49 #[.int .i64 F] w fun e w' => ∃ v, e = .returned v ∧ w'.ownsRow w.heap.size 46 2 v (wholeP (pr 3 0 F) F F).length (cs (wholeP (pr 3 0 F) F F)) ∧ Below w.heap.size w w' := by
  obtain ⟨i0, hi, hz0, hz1, hz2⟩ := info_parts info46
  go_enter Try.func49, Try.ntmps49
  go_wp2_with fail
  go_loopw [3, 7] (fun v i wr => ∃ a : Nat, a ≤ F ∧ i = .int .i64 a ∧ wr.ownsRow w.heap.size 46 2 v (wholeP (pr 3 0 F) F a).length (cs (wholeP (pr 3 0 F) F a)) ∧ Below w.heap.size w wr) (fun _ i _ => F - (intOf i).toNat)
  case atStart => exact ⟨0, Nat.zero_le _, rfl, World.ownsRow_nil _ _ _ _, Below.refl _ _⟩
  case round =>
    obtain ⟨a, ha, rfl, hor, hbel⟩ := hrel
    have hwl := wholeP_len (pr 3 0 F) hF a
    by_cases hlt : a < F
    · have Hor := Lib.hid hor
      clear hor
      go_wp2_with fail
      go_loopw [3, 5] (fun v i wr => ∃ m : Nat, a + 1 ≤ m ∧ m ≤ F ∧ i = .int .i64 m ∧ wr.ownsRow w.heap.size 46 2 v (wholeP (pr 3 0 F) F a ++ rowP (pr 3 0 F) a m).length (cs (wholeP (pr 3 0 F) F a ++ rowP (pr 3 0 F) a m)) ∧ Below w.heap.size w wr) (fun _ i _ => F - (intOf i).toNat)
      case atStart => exact ⟨a + 1, Nat.le_refl _, hlt, by go_num, by rw [rowP_low _ _ _ (Nat.le_refl _), List.append_nil]; exact Hor.out, hbel⟩
      case round =>
        clear Hor hbel
        obtain ⟨m, hm1, hm, rfl, hor, hbel⟩ := hrel
        have hrl := rowP_len (pr 3 0 F) a m
        have hll : (wholeP (pr 3 0 F) F a ++ rowP (pr 3 0 F) a m).length ≤ 200 := by rw [List.length_append]; omega
        have hsz := hbel.size
        by_cases hlm : m < F
        · have Hs : Hid (rowP (pr 3 0 F) a (m + 1) = rowP (pr 3 0 F) a m ++ [((a : Int), (m : Int))]) := Lib.hid (rowP_yes (by omega) (by simp [pr]))
          go_wp2_with (at_builtin; refine wpList_append_own _ rfl _ _ 25 rfl w.heap.size 46 i0 (.agg #[.int .i64 0, .int .i64 0]) 2 16 Try.underlying25 hi hz0 hz1 hz2 rfl (by decide) _ _ _ rfl (hor.alloc _) ⟨wr.heap.size, 0, none⟩ 1 1 [.int .i64 a, .int .i64 m] rfl rfl ?c1 ?c2 ?c3 ?c4 ?c5 ?_)
          case c1 => exact World.news_of_block (cs := #[.int .i64 a, .int .i64 m]) (t := 46) (fr := (0, 0)) (heap_alloc_new _ _)
          case c2 => intro u hu; simp at hu; rcases hu with rfl | rfl <;> rfl
          case c3 => unfold maxLen; omega
          case c4 => omega
          case c5 => simp; omega
          intro v' w8 hown' hgr _
          have Hown := Lib.hid hown'
          have Hbel := Lib.hid ((hbel.alloc hsz _).grown hgr (by simp; omega) (fun b hb => (hor.lt b hb).1))
          clear hown' hgr
          clear hor hbel
          go_wp2_with fail
          go_roundw
          case rel => exact ⟨m + 1, by omega, by omega, by go_num, by rw [Hs.out, ← List.append_assoc, cs_append, List.length_append, List.length_append]; exact Hown.out, Hbel.out⟩
          case measure => simp [intOf]; omega
        · obtain rfl : m = F := by omega
          have Hor := Lib.hid hor
          clear hor
          go_wp2_with fail
          go_roundw
          case rel => exact ⟨a + 1, by omega, by go_num, Hor.out, hbel⟩
          case measure => simp [intOf]; omega
    · obtain rfl : a = F := by omega
      have Hor := Lib.hid hor
      clear hor
      go_wp2_with fail
      go_ret
      exact ⟨_, rfl, Hor.out, hbel⟩

theorem implWhole_yes (F x : Nat) (w : World) (hok : Hid (decide (1 ≤ F) = true)) (hF : F ≤ 10) (hx : x ≤ 10) :
    Calls Try.prog 26 #[.int .i64 F] w fun e w' => ∃ v, e = .returned (.tuple #[v, .bool true]) ∧ w'.ownsRow w.heap.size 46 2 v (wholeP (pr 3 0 F) F F).length (cs (wholeP (pr 3 0 F) F F)) ∧ Below w.heap.size w w' := by
  have hF1 : 1 ≤ F := by simpa using hok.out
  go_enter Try.func26, Try.ntmps26
  go_wp2_with fail
  refine (canBeNetted_any F w).mono ?_
  rintro e w' ⟨rfl, rfl⟩
  rw [show frB (F : Int) = true by simp [frB]; omega]
  go_wp2_with fail
  refine (allCalls_any F w hF).mono ?_
  rintro e w1 ⟨v, rfl, own, hb⟩
  obtain ⟨ao2, cap2, rfl, _⟩ := own_shape own rfl
  have Own := Lib.hid own
  clear own
  go_wp2_with fail
  go_ret2
  exact ⟨_, rfl, Own.out, hb⟩

theorem implWhole_any (w : World) (f : Int) :
    Calls Try.prog 26 #[.int .i64 f] w fun e w' => ∃ v, e = .returned (.tuple #[v, .bool (frB f)]) ∧ w'.ownsRow w.heap.size 46 2 v (netR (frB f) 3 0 f).length (cs (netR (frB f) 3 0 f)) ∧ Below w.heap.size w w' := by
  cases hok : frB f
  · have Hno : Hid (netR (frB f) 3 0 f = []) := Lib.hid (by rw [hok]; rfl)
    rw [hok] at Hno
    have HOK := Lib.hid hok
    clear hok
    go_enter Try.func26, Try.ntmps26
    go_wp2_with fail
    refine (canBeNetted_any f w).mono ?_
    rintro e w' ⟨rfl, rfl⟩
    rw [HOK.out]
    go_wp2_with fail
    go_ret2
    exact ⟨.slice none 0 0, rfl, by rw [Hno.out]; exact World.ownsRow_nil _ _ _ _, Below.refl _ _⟩
  · rw [show netR true 3 0 f = wholeP (pr 3 0 f.toNat) f.toNat f.toNat from rfl]
    have hf : 1 ≤ f ∧ f ≤ 10 := by simpa [frB] using hok
    obtain ⟨F, rfl⟩ := Int.eq_ofNat_of_zero_le (show 0 ≤ f by omega)
    exact implWhole_yes F 0 w (by show _ = _; simp; omega) (by omega) (by omega)

end Go.Proofs.Ytbddhjpofijmpaa
