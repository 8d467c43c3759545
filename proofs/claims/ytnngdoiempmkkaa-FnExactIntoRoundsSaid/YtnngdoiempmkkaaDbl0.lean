/- Rounds that double what is known: their calls. -/
import Derived.Test.YtnngdoiempmkkaaPut2
import Derived.Test.YtnngdoiempmkkaaPair
namespace Go.Proofs.Ytnngdoiempmkkaa
open Go.ChangeShapes Go.WideShapes Go.ChangeAt Go.RowKit
set_option linter.unusedVariables false


/-- The friend who is so much farther, around. -/
def yy (F : Nat) (fa x : Int) : Int := (x + fa).tmod (F : Int)
def dcall (F : Nat) (fa x : Int) : Int × Int := (min x (yy F fa x), max x (yy F fa x))
def drow (F : Nat) (fa : Int) (m : Nat) : List (Int × Int) := (List.range m).map fun (i : Nat) => dcall F fa (2 * (i : Int) + 1)
theorem drow_zero (F : Nat) (fa : Int) : drow F fa 0 = [] := rfl
theorem drow_succ (F : Nat) (fa : Int) (m : Nat) : drow F fa (m + 1) = drow F fa m ++ [dcall F fa (2 * (m : Int) + 1)] := by simp [drow, List.range_succ]
theorem drow_length (F : Nat) (fa : Int) (m : Nat) : (drow F fa m).length = m := by simp [drow]
def fak (k : Nat) : Int := ((2 ^ (k + 1) : Nat) : Int) - 1
def dR (F k : Nat) : List (List (Int × Int)) := (List.range k).map fun j => srt (drow F (fak j) (F / 2))
theorem dR_succ (F k : Nat) : dR F (k + 1) = dR F k ++ [srt (drow F (fak k) (F / 2))] := by simp [dR, List.range_succ]
theorem dR_length (F k : Nat) : (dR F k).length = k := by simp [dR]
def KK (F : Nat) : Nat := if F ≤ 1 then 0 else if F ≤ 2 then 1 else if F ≤ 4 then 2 else if F ≤ 8 then 3 else 4
theorem KK_le (F : Nat) : KK F ≤ 4 := by unfold KK; (repeat' split) <;> omega
theorem KK_eq {F k : Nat} (hk : k ≤ 4) (h1 : ∀ j, j < k → 2 ^ j < F) (h2 : ¬ 2 ^ k < F) (hF : F ≤ 10) : k = KK F := by
  have h : k = 0 ∨ k = 1 ∨ k = 2 ∨ k = 3 ∨ k = 4 := by omega
  unfold KK
  rcases h with rfl | rfl | rfl | rfl | rfl
  · have := h2; simp at this; (repeat' split) <;> omega
  · have a := h1 0 (by omega); simp at a h2; (repeat' split) <;> omega
  · have a := h1 1 (by omega); simp at a h2; (repeat' split) <;> omega
  · have a := h1 2 (by omega); simp at a h2; (repeat' split) <;> omega
  · have a := h1 3 (by omega); simp at a h2; (repeat' split) <;> omega
theorem pow_step {F k : Nat} (hk : k ≤ 4) (h : 2 ^ k < F) (hF : F ≤ 10) : k ≤ 3 ∧ 2 ^ k ≤ 8 ∧ 2 ^ (k + 1) = 2 ^ k + 2 ^ k := by
  have h3 : k = 0 ∨ k = 1 ∨ k = 2 ∨ k = 3 ∨ k = 4 := by omega
  rcases h3 with rfl | rfl | rfl | rfl | rfl
  · simp
  · simp
  · simp
  · simp
  · simp at h; omega
theorem yy_range {F : Nat} {fa x : Int} (h0 : 0 ≤ x + fa) (hF : 0 < F) : 0 ≤ yy F fa x ∧ yy F fa x < F := by
  unfold yy
  exact ⟨Int.tmod_nonneg _ h0, Int.tmod_lt_of_pos _ (by omega)⟩

set_option maxRecDepth 20000 in
theorem oddCalls_any (F H : Nat) (fa : Int) (w : World) (hF : F = 2 * H) (h1 : 1 ≤ H) (h2 : H ≤ 5) (hf0 : 0 ≤ fa) (hf1 : fa ≤ 100) :
    Calls Try.prog 39 #[.int .i64 F, .int .i64 fa] w fun e w' => ∃ v, e = .returned v ∧ w'.ownsRow w.heap.size 46 2 v H (cs (srt (drow F fa H))) ∧ Below w.heap.size w w' := by
  obtain ⟨i0, hi, hz0, hz1, hz2⟩ := info_parts info46
  have hne : ¬ (F : Int) = 0 := by omega
  have HF := Lib.hid hF
  have hF1 : 2 * H ≤ F := by omega
  have hF2 : F ≤ 2 * H := by omega
  clear hF
  go_enter Try.func39, Try.ntmps39
  go_wp2_with fail
  go_loopw [5, 6] (fun v i wr => ∃ m : Nat, m ≤ H ∧ i = .int .i64 (2 * (m : Int) + 1) ∧ wr.ownsRow w.heap.size 46 2 v m (cs (drow F fa m)) ∧ Below w.heap.size w wr) (fun _ i _ => F + 1 - (intOf i).toNat)
  case atStart => exact ⟨0, Nat.zero_le _, rfl, World.ownsRow_nil _ _ _ _, Below.refl _ _⟩
  case round =>
    obtain ⟨m, hm, rfl, hor, hbel⟩ := hrel
    have hsz := hbel.size
    have Hor := Lib.hid hor
    clear hor
    by_cases hlt : m < H
    · have hxl : 2 * (m : Int) + 1 < (F : Int) := by omega
      obtain ⟨x, hx⟩ : ∃ x : Int, 2 * (m : Int) + 1 = x := ⟨_, rfl⟩
      have hx0 : 0 ≤ x := by omega
      have hx1 : x ≤ 10 := by omega
      rw [hx] at hxl
      rw [hx]
      have hrg := yy_range (F := F) (fa := fa) (x := x) (by omega) (by omega)
      have Hdc : Hid (drow F fa (m + 1) = drow F fa m ++ [dcall F fa x]) := Lib.hid (by rw [drow_succ, hx])
      have Hx := Lib.hid hx
      obtain ⟨y, hy⟩ : ∃ y, (x + fa).tmod (F : Int) = y := ⟨_, rfl⟩
      have hyy : yy F fa x = y := hy
      rw [hyy] at hrg
      have hwy : IntKind.i64.wrap y = y := IntWalk.i64_in _ (by omega)
      have Hco : Hid (dcall F fa x = (min x y, max x y)) := Lib.hid (by rw [dcall, hyy])
      clear hx hyy
      go_wp2_with fail
      refine (callOf_any x y wr).mono ?_
      rintro e w1 ⟨rfl, rfl⟩
      rw [show (Value.agg #[.int .i64 (min x y), .int .i64 (max x y)]) = .agg #[.int .i64 (dcall F fa x).1, .int .i64 (dcall F fa x).2] by rw [Hco.out]]
      have hbel1 : Below w.heap.size w (wr.alloc (.cells #[.int .i64 (min x y), .int .i64 (max x y)] 46)) := hbel.alloc hsz _
      have Hor1 := Lib.hid (Hor.out.alloc (.cells #[.int .i64 (min x y), .int .i64 (max x y)] 46))
      generalize wr.alloc (.cells #[.int .i64 (min x y), .int .i64 (max x y)] 46) = w1 at *
      have hsz1 := hbel1.size
      obtain ⟨c, hc⟩ : ∃ c, dcall F fa x = c := ⟨_, rfl⟩
      rw [hc] at Hdc ⊢
      clear hy hc Hco hbel
      go_wp2_with (at_builtin; refine wpList_append_own _ rfl _ _ 29 rfl w.heap.size 46 i0 (.agg #[.int .i64 0, .int .i64 0]) 2 16 Try.underlying29 hi hz0 hz1 hz2 rfl (by decide) _ _ _ rfl (Hor1.out.alloc _) ⟨w1.heap.size, 0, none⟩ 1 1 [.int .i64 c.1, .int .i64 c.2] rfl rfl ?c1 ?c2 ?c3 ?c4 ?c5 ?_)
      case c1 => exact World.news_of_block (cs := #[.int .i64 c.1, .int .i64 c.2]) (t := 46) (fr := (0, 0)) (heap_alloc_new _ _)
      case c2 => intro u hu; simp at hu; rcases hu with rfl | rfl <;> rfl
      case c3 => unfold maxLen; omega
      case c4 => omega
      case c5 => simp; omega
      intro v' w2 hown' hgr _
      have Hown : Hid (w2.ownsRow w.heap.size 46 2 v' (m + 1) (cs (drow F fa (m + 1)))) := Lib.hid (by rw [Hdc.out, cs_append]; exact hown')
      have Hbel := Lib.hid ((hbel1.alloc hsz1 _).grown hgr (by simp; omega) (fun b hb => (Hor1.out.lt b hb).1))
      clear hown' hgr hbel1
      have Hxn : Hid (x + 2 = 2 * ((m + 1 : Nat) : Int) + 1) := Lib.hid (by have := Hx.out; omega)
      go_wp2_with fail
      go_roundw
      case rel => exact ⟨m + 1, by omega, by rw [← Hxn.out], Hown.out, Hbel.out⟩
      case measure => have := Hx.out; simp [intOf] <;> omega
    · obtain rfl : m = H := by omega
      have hxl : ¬ (2 * (m : Int) + 1 < (F : Int)) := by omega
      have Hsrt := Lib.hid (sort_any _ _ (drow F fa m) m wr (by rw [drow_length]) (by omega) Hor.out)
      have HorB := Hor.out
      obtain ⟨ao, cap, rfl, _⟩ := own_shape_s HorB (by rw [drow_length])
      clear HorB
      go_wp2_with fail
      refine Hsrt.out.mono ?_
      rintro e w1 ⟨rfl, own1, gr1⟩
      have Hown := Lib.hid own1
      have Hbel := Lib.hid (hbel.grown gr1 hsz (fun b hb => (Hor.out.lt b hb).1))
      clear own1 gr1
      go_wp2_with fail
      go_ret
      exact ⟨_, rfl, Hown.out, Hbel.out⟩

end Go.Proofs.Ytnngdoiempmkkaa
