/- The program's line. -/
import Derived.Test.YtbddhjpofijmpaaNetP
namespace Go.Proofs.Ytbddhjpofijmpaa
open Go.ChangeShapes Go.WideShapes Go.ChangeAt Go.RowKit
set_option linter.unusedVariables false


/-- The pairs of a line. -/
def lineT : Nat → List (Int × Int)
  | 0 => []
  | k + 1 => lineT k ++ if k = 0 then [] else [((k : Int) - 1, (k : Int))]
theorem lineT_succ {k : Nat} (h : 1 ≤ k) : lineT (k + 1) = lineT k ++ [((k : Int) - 1, (k : Int))] := by
  rw [lineT, if_neg (by omega)]
theorem lineT_len : ∀ k, (lineT k).length ≤ k
  | 0 => Nat.le_refl _
  | k + 1 => by
    have := lineT_len k
    rw [lineT, List.length_append]
    split <;> simp <;> omega
theorem lineT_all : ∀ F, F < 11 → lineT F = wholeP (pr 0 0 F) F F := by decide
/-- The pairs of a star. -/
def starT (x : Nat) : Nat → List (Int × Int)
  | 0 => []
  | k + 1 => starT x k ++ if k = x then [] else if k < x then [((k : Int), (x : Int))] else [((x : Int), (k : Int))]
theorem starT_len (x : Nat) : ∀ k, (starT x k).length ≤ k
  | 0 => Nat.le_refl _
  | k + 1 => by
    have := starT_len x k
    rw [starT, List.length_append]
    split
    · simp; omega
    · split <;> simp <;> omega
theorem starT_all : ∀ F, F < 11 → ∀ x, x < F → starT x F = wholeP (pr 2 x F) F F := by decide

theorem callOf_any (a b : Int) (w : World) (h : a ≠ b) : Calls Try.prog 48 #[.int .i64 a, .int .i64 b] w fun e w' => e = .returned (.agg #[.int .i64 (if a < b then a else b), .int .i64 (if a < b then b else a)]) ∧ Below w.heap.size w w' := by
  by_cases h1 : a < b
  · rw [if_pos h1, if_pos h1]
    refine (callOf_less a b w h1).mono ?_
    rintro e w' ⟨rfl, rfl⟩
    exact ⟨rfl, (Below.refl _ _).alloc (Nat.le_refl _) _⟩
  · rw [if_neg h1, if_neg h1]
    refine (callOf_more a b w (by omega)).mono ?_
    rintro e w' ⟨rfl, rfl⟩
    exact ⟨rfl, (Below.refl _ _).alloc (Nat.le_refl _) _⟩

set_option maxRecDepth 20000 in
theorem implLine_yes (F x : Nat) (w : World) (hok : Hid (decide (1 ≤ F) = true)) (hF : F ≤ 10) (hx : x ≤ 10) :
    Calls Try.prog 18 #[.int .i64 F] w fun e w' => ∃ v, e = .returned (.tuple #[v, .bool true]) ∧ w'.ownsRow w.heap.size 46 2 v (wholeP (pr 0 0 F) F F).length (cs (wholeP (pr 0 0 F) F F)) ∧ Below w.heap.size w w' := by
  have hF1 : 1 ≤ F := by simpa using hok.out
  rw [← lineT_all F (by omega)]
  obtain ⟨i0, hi, hz0, hz1, hz2⟩ := info_parts info46
  go_enter Try.func18, Try.ntmps18
  go_wp2_with fail
  refine (canBeNetted_any F w).mono ?_
  rintro e w' ⟨rfl, rfl⟩
  rw [show frB (F : Int) = true by simp [frB]; omega]
  go_wp2_with fail
  go_loopw [4, 5] (fun v i wr => ∃ k : Nat, 1 ≤ k ∧ k ≤ F ∧ i = .int .i64 k ∧ wr.ownsRow w.heap.size 46 2 v (lineT k).length (cs (lineT k)) ∧ Below w.heap.size w wr) (fun _ i _ => F - (intOf i).toNat)
  case atStart => exact ⟨1, Nat.le_refl _, hF1, rfl, World.ownsRow_nil _ _ _ _, Below.refl _ _⟩
  case round =>
    obtain ⟨k, hk1, hk, rfl, hor, hbel⟩ := hrel
    have hll := lineT_len k
    have hsz := hbel.size
    by_cases hlt : k < F
    · have Hs := Lib.hid (lineT_succ hk1)
      go_wp2_with (at_builtin; refine wpList_append_own _ rfl _ _ 25 rfl w.heap.size 46 i0 (.agg #[.int .i64 0, .int .i64 0]) 2 16 Try.underlying25 hi hz0 hz1 hz2 rfl (by decide) _ _ _ rfl (hor.alloc _) ⟨wr.heap.size, 0, none⟩ 1 1 [.int .i64 ((k : Int) - 1), .int .i64 k] rfl rfl ?c1 ?c2 ?c3 ?c4 ?c5 ?_)
      case c1 => exact World.news_of_block (cs := #[.int .i64 ((k : Int) - 1), .int .i64 k]) (t := 46) (fr := (0, 0)) (heap_alloc_new _ _)
      case c2 => intro u hu; simp at hu; rcases hu with rfl | rfl <;> rfl
      case c3 => unfold maxLen; omega
      case c4 => omega
      case c5 => simp; omega
      intro v' w8 hown' hgr _
      have Hown := Lib.hid hown'
      have Hbel := Lib.hid ((hbel.alloc hsz _).grown hgr (by simp; omega) (fun b hb => (hor.lt b hb).1))
      clear hown' hgr
      clear hor hbel
      go_wp2_with fail
      go_roundw
      case rel => exact ⟨k + 1, by omega, by omega, by go_num, by rw [Hs.out, cs_append, List.length_append]; exact Hown.out, Hbel.out⟩
      case measure => simp [intOf]; omega
    · obtain rfl : k = F := by omega
      obtain ⟨ao2, cap2, rfl, _⟩ := own_shape hor rfl
      have Hor := Lib.hid hor
      clear hor
      go_wp2_with fail
      go_ret2
      exact ⟨_, rfl, Hor.out, hbel⟩

theorem implLine_any (w : World) (f : Int) :
    Calls Try.prog 18 #[.int .i64 f] w fun e w' => ∃ v, e = .returned (.tuple #[v, .bool (frB f)]) ∧ w'.ownsRow w.heap.size 46 2 v (netR (frB f) 0 0 f).length (cs (netR (frB f) 0 0 f)) ∧ Below w.heap.size w w' := by
  cases hok : frB f
  · have Hno : Hid (netR (frB f) 0 0 f = []) := Lib.hid (by rw [hok]; rfl)
    rw [hok] at Hno
    have HOK := Lib.hid hok
    clear hok
    go_enter Try.func18, Try.ntmps18
    go_wp2_with fail
    refine (canBeNetted_any f w).mono ?_
    rintro e w' ⟨rfl, rfl⟩
    rw [HOK.out]
    go_wp2_with fail
    go_ret2
    exact ⟨.slice none 0 0, rfl, by rw [Hno.out]; exact World.ownsRow_nil _ _ _ _, Below.refl _ _⟩
  · rw [show netR true 0 0 f = wholeP (pr 0 0 f.toNat) f.toNat f.toNat from rfl]
    have hf : 1 ≤ f ∧ f ≤ 10 := by simpa [frB] using hok
    obtain ⟨F, rfl⟩ := Int.eq_ofNat_of_zero_le (show 0 ≤ f by omega)
    exact implLine_yes F 0 w (by show _ = _; simp; omega) (by omega) (by omega)

end Go.Proofs.Ytbddhjpofijmpaa
