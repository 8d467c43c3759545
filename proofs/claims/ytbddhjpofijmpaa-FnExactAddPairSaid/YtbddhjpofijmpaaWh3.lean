/- The model's networks by the rule 3. -/
import Derived.Test.YtbddhjpofijmpaaNetP
namespace Go.Proofs.Ytbddhjpofijmpaa
open Go.ChangeShapes Go.WideShapes Go.ChangeAt Go.RowKit
set_option linter.unusedVariables false


set_option maxHeartbeats 2000000 in
set_option maxRecDepth 20000 in
theorem neWhole_3 (F g : Nat) (w : World) (hF : F ≤ 10) (hg : g ≤ 10) :
    Calls Try.prog 45 #[.int .i64 F, .int .i64 3, .int .i64 0] w fun e w' => ∃ v, e = .returned v ∧ w'.ownsRow w.heap.size 46 2 v (wholeP (pr 3 g F) F F).length (cs (wholeP (pr 3 g F) F F)) ∧ Below w.heap.size w w' := by
  obtain ⟨i0, hi, hz0, hz1, hz2⟩ := info_parts info46
  go_enter Try.func45, Try.ntmps45
  go_wp2_with fail
  go_loopw [7, 8] (fun v i wr => ∃ a : Nat, a ≤ F ∧ i = .int .i64 a ∧ wr.ownsRow w.heap.size 46 2 v (wholeP (pr 3 g F) F a).length (cs (wholeP (pr 3 g F) F a)) ∧ Below w.heap.size w wr) (fun _ i _ => F - (intOf i).toNat)
  case atStart => exact ⟨0, Nat.zero_le _, rfl, World.ownsRow_nil _ _ _ _, Below.refl _ _⟩
  case round =>
    obtain ⟨a, ha, rfl, hor, hbel⟩ := hrel
    have hwl := wholeP_len (pr 3 g F) hF a
    by_cases hlt : a < F
    · have Hor := Lib.hid hor
      clear hor
      go_wp2_with fail
      go_loopw [7, 9] (fun v i wr => ∃ m : Nat, a + 1 ≤ m ∧ m ≤ F ∧ i = .int .i64 m ∧ wr.ownsRow w.heap.size 46 2 v (wholeP (pr 3 g F) F a ++ rowP (pr 3 g F) a m).length (cs (wholeP (pr 3 g F) F a ++ rowP (pr 3 g F) a m)) ∧ Below w.heap.size w wr) (fun _ i _ => F - (intOf i).toNat)
      case atStart => exact ⟨a + 1, Nat.le_refl _, hlt, by go_num, by rw [rowP_low _ _ _ (Nat.le_refl _), List.append_nil]; exact Hor.out, hbel⟩
      case round =>
        clear Hor hbel
        obtain ⟨m, hm1, hm, rfl, hor, hbel⟩ := hrel
        have hrl := rowP_len (pr 3 g F) a m
        have hll : (wholeP (pr 3 g F) F a ++ rowP (pr 3 g F) a m).length ≤ 200 := by rw [List.length_append]; omega
        have hsz := hbel.size
        by_cases hlm : m < F
        · by_cases hA0 : a = 0
          · have qA0 : ((a : Int) == 0) = true := by simp; omega
            have Hs : Hid (rowP (pr 3 g F) a (m + 1) = rowP (pr 3 g F) a m ++ [((a : Int), (m : Int))]) := Lib.hid (rowP_yes (by omega) (by first | (simp [pr]; done) | (simp [pr]; omega)))
            clear hA0
            go_wp2_with (at_builtin; refine wpList_append_own _ rfl _ _ 25 rfl w.heap.size 46 i0 (.agg #[.int .i64 0, .int .i64 0]) 2 16 Try.underlying25 hi hz0 hz1 hz2 rfl (by decide) _ _ _ rfl (hor.alloc _) ⟨wr.heap.size, 0, none⟩ 1 1 [.int .i64 a, .int .i64 m] rfl rfl ?c1 ?c2 ?c3 ?c4 ?c5 ?_)
            case c1 => exact World.news_of_block (cs := #[.int .i64 a, .int .i64 m]) (t := 46) (fr := (0, 0)) (heap_alloc_new _ _)
            case c2 => intro u hu; simp at hu; rcases hu with rfl | rfl <;> rfl
            case c3 => unfold maxLen; omega
            case c4 => omega
            case c5 => simp; omega
            intro v' w1 hown' hgr _
            have Hown := Lib.hid hown'
            have Hbel := Lib.hid ((hbel.alloc hsz _).grown hgr (by simp; omega) (fun b hb => (hor.lt b hb).1))
            clear hown' hgr hor hbel
            go_wp2_with fail
            go_roundw
            case rel => exact ⟨m + 1, by omega, by omega, by go_num, by rw [Hs.out, ← List.append_assoc, cs_append, List.length_append, List.length_append]; exact Hown.out, Hbel.out⟩
            case measure => simp [intOf]; omega
          · have qA0 : ((a : Int) == 0) = false := by simp; omega
            have Hs : Hid (rowP (pr 3 g F) a (m + 1) = rowP (pr 3 g F) a m ++ [((a : Int), (m : Int))]) := Lib.hid (rowP_yes (by omega) (by first | (simp [pr]; done) | (simp [pr]; omega)))
            clear hA0
            go_wp2_with (at_builtin; refine wpList_append_own _ rfl _ _ 25 rfl w.heap.size 46 i0 (.agg #[.int .i64 0, .int .i64 0]) 2 16 Try.underlying25 hi hz0 hz1 hz2 rfl (by decide) _ _ _ rfl (hor.alloc _) ⟨wr.heap.size, 0, none⟩ 1 1 [.int .i64 a, .int .i64 m] rfl rfl ?c1 ?c2 ?c3 ?c4 ?c5 ?_)
            case c1 => exact World.news_of_block (cs := #[.int .i64 a, .int .i64 m]) (t := 46) (fr := (0, 0)) (heap_alloc_new _ _)
            case c2 => intro u hu; simp at hu; rcases hu with rfl | rfl <;> rfl
            case c3 => unfold maxLen; omega
            case c4 => omega
            case c5 => simp; omega
            intro v' w1 hown' hgr _
            have Hown := Lib.hid hown'
            have Hbel := Lib.hid ((hbel.alloc hsz _).grown hgr (by simp; omega) (fun b hb => (hor.lt b hb).1))
            clear hown' hgr hor hbel
            go_wp2_with fail
            go_roundw
            case rel => exact ⟨m + 1, by omega, by omega, by go_num, by rw [Hs.out, ← List.append_assoc, cs_append, List.length_append, List.length_append]; exact Hown.out, Hbel.out⟩
            case measure => simp [intOf]; omega
        · obtain rfl : m = F := by omega
          have Hor := Lib.hid hor
          clear hor
          go_wp2_with fail
          go_roundw
          case rel => exact ⟨a + 1, by omega, by go_num, Hor.out, hbel⟩
          case measure => simp [intOf]; omega
    · obtain rfl : a = F := by omega
      have Hor := Lib.hid hor
      clear hor
      go_wp2_with fail
      go_ret
      exact ⟨_, rfl, Hor.out, hbel⟩

end Go.Proofs.Ytbddhjpofijmpaa
