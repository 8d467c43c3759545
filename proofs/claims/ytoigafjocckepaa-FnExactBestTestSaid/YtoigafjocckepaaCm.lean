/- How many lists have a wire of a test: the program. -/
import Derived.Test.YtoigafjocckepaaFiI
import Derived.Shelf.Abstract
namespace Go.Proofs.Ytoigafjocckepaa
open Go.ChangeShapes Go.WideShapes Go.ChangeAt Go.RowKit
set_option linter.unusedVariables false


/-- How many of the first k lists have a wire of a test. -/
def cm (M : List Nat) (y : Nat) : Nat → Nat | 0 => 0 | k + 1 => cm M y k + (if mtB (wa M k) y then 1 else 0)
theorem cm_le (M : List Nat) (y : Nat) (k : Nat) : cm M y k ≤ k := by
  induction k with
  | zero => exact Nat.le_refl _
  | succ k ih => simp only [cm]; split <;> omega

theorem clos_any (x y b : Nat) (hx : x < 1024) (hy : y < 1024) (w : World) (hc : w.cell? ⟨b, 0, none⟩ = some (.int .u16 (y : Int))) :
    Calls Try.prog 67 #[wv x, .pointer (some ⟨b, 0, none⟩)] w fun e w' => e = .returned (.int .i64 ((if mtB x y then 1 else 0 : Nat) : Int)) ∧ Below w.heap.size w w' := by
  have hM := fun W => meets_any x y hx hy W
  simp only [wv] at hM
  have hbl := World.block_lt_of_cell? w _ hc
  have hc2 : (w.alloc (Obj.cells #[Value.int IntKind.u16 x] 52)).cell? ⟨b, 0, none⟩ = some (.int .u16 (y : Int)) := cell_old ((Below.refl w.heap.size w).alloc (Nat.le_refl _) _) hc
  have hb1 : Below w.heap.size w (w.alloc (Obj.cells #[Value.int IntKind.u16 x] 52)) := by go_grown
  cases hm : mtB x y
  · rw [hm] at hM
    simp only [Bool.false_eq_true, if_false]
    clear hm
    go_enter Try.func67, Try.ntmps67
    go_wp2_with fail
    refine (hM _).mono ?_
    rintro e w' ⟨rfl, hb2⟩
    have hb3 := hb1.trans (hb2.mono (by simp))
    go_wp2_with fail
    go_ret
    exact ⟨rfl, hb3⟩
  · rw [hm] at hM
    simp only [if_true]
    clear hm
    go_enter Try.func67, Try.ntmps67
    go_wp2_with fail
    refine (hM _).mono ?_
    rintro e w' ⟨rfl, hb2⟩
    have hb3 := hb1.trans (hb2.mono (by simp))
    go_wp2_with fail
    go_ret
    exact ⟨rfl, hb3⟩

theorem sumW_zero (ao : Option Addr) (cap : Nat) (v : Value) (w : World) :
    Calls Try.prog 66 #[.slice ao 0 cap, v] w fun e w' => e = .returned (.int .i64 0) ∧ w = w' := by
  go_enter Try.func66, Try.ntmps66
  go_wp2_with fail
  go_rounds 1
  go_ret
  exact ⟨rfl, rfl⟩

set_option maxHeartbeats 800000 in
set_option maxRecDepth 20000 in
theorem sumW_pos (g0 off cap b : Nat) (M : List Nat) (n y : Nat) (w : World) (hn : n ≤ 11264) (Hlt : Hid (∀ i, i < n → wa M i < 1024)) (hy : y < 1024) (hcb : w.cell? ⟨b, 0, none⟩ = some (.int .u16 (y : Int)))
    (Hc : Hid (∀ i, i < n → w.cell? ⟨g0, off + i, none⟩ = some (.int .u16 ((wa M i : Nat) : Int)))) :
    Calls Try.prog 66 #[.slice (some ⟨g0, off, none⟩) n cap, .func (.func 67) #[] #[.pointer (some ⟨b, 0, none⟩)]] w fun e w' => e = .returned (.int .i64 ((cm M y n : Nat) : Int)) ∧ Below w.heap.size w w' := by
  have eg : ∀ args w, (callFunc 67 args).run Try.prog w = .ok (.enter 67 args) w := enters_of Try.func67 (by kernel_rfl) rfl
  have Hcb := Lib.hid hcb
  clear hcb
  go_enter Try.func66, Try.ntmps66
  go_wp2_with fail
  go_loopw [5, 10] (fun v i wr => ∃ k : Nat, k ≤ n ∧ i = .int .i64 k ∧ v = .int .i64 ((cm M y k : Nat) : Int) ∧ Below w.heap.size w wr) (fun _ i _ => n - (intOf i).toNat)
  case atStart => exact ⟨0, Nat.zero_le _, rfl, rfl, Below.refl _ _⟩
  case round =>
    obtain ⟨k, hk, rfl, rfl, hbel⟩ := hrel
    by_cases hlt : k < n
    · have h0 := cell_old hbel (Hc.out k hlt)
      have hx := Hlt.out k hlt
      have hcs : cm M y (k + 1) = cm M y k + (if mtB (wa M k) y then 1 else 0) := rfl
      have hcl := cm_le M y k
      obtain ⟨x, hxx⟩ : ∃ x, wa M k = x := ⟨_, rfl⟩
      rw [hxx] at h0 hx hcs
      have hsz := hbel.size
      have hk1 : (0 : Int) ≤ k := by omega
      have hk2 : (k : Int) < n := by omega
      have bd : Below wr.heap.size wr (wr.alloc (.cells #[.int .u16 (x : Int)] 52)) := (Below.refl wr.heap.size wr).alloc (Nat.le_refl _) _
      have hs1 : (wr.alloc (.cells #[.int .u16 (x : Int)] 52)).heap.size = wr.heap.size + 1 := by simp
      have hCL := clos_any x y b hx hy (wr.alloc (.cells #[.int .u16 (x : Int)] 52)) (cell_old bd (cell_old hbel Hcb.out))
      obtain ⟨d, hd⟩ : ∃ d : Nat, (if mtB x y then 1 else 0) = d := ⟨_, rfl⟩
      rw [hd] at hcs hCL
      have hd1 : d ≤ 1 := by rw [← hd]; split <;> omega
      simp only [wv] at hCL
      have HCL := Lib.hid hCL
      obtain ⟨c0, hc0⟩ : ∃ c, cm M y k = c := ⟨_, rfl⟩
      rw [hc0] at hcs hcl
      rw [hc0]
      have Hcs : Hid (((cm M y (k + 1) : Nat) : Int) = (c0 : Int) + (d : Int)) := by show _ = _; rw [hcs]; omega
      have hw1 : IntKind.i64.wrap ((c0 : Int) + (d : Int)) = (c0 : Int) + (d : Int) := IntWalk.i64_in _ (by omega)
      have Hb2 := Lib.hid (hbel.trans (bd.mono hsz))
      clear hbel bd hcs hxx hd hc0 hCL
      go_wp2_with fail
      go_at_fn 67
      refine HCL.out.mono ?_
      rintro e w5 ⟨rfl, hb5⟩
      have Hb5 := Lib.hid (Hb2.out.trans (hb5.mono (by rw [hs1]; omega)))
      clear hb5
      go_wp2_with fail
      go_roundw
      case rel => exact ⟨k + 1, by omega, by go_num, by rw [Hcs.out], Hb5.out⟩
      case measure => simp [intOf]; omega
    · obtain rfl : k = n := by omega
      go_wp2_with fail
      go_ret
      exact ⟨rfl, hbel⟩

theorem countMeeting_any (w : World) (ao : Option Addr) (cap : Nat) (M : List Nat) (n y : Nat) (Hn : Hid (n = M.length)) (hn : n ≤ 11264) (Hlt : Hid (∀ x, x ∈ M → x < 1024)) (hy : y < 1024) (hc : Hid (WLAt w ao M)) :
    Calls Try.prog 48 #[.slice ao n cap, wv y] w fun e w' => e = .returned (.int .i64 ((cm M y n : Nat) : Int)) ∧ Below w.heap.size w w' := by
  have hmf : ∀ (fn : Fn) (first cap : Array Value) (w : World), (Instr.makeFunc fn first cap).run Try.prog w = .ok (.func fn first cap) w := fun _ _ _ _ => rfl
  have hb1 : Below w.heap.size w (w.alloc (Obj.cells #[Value.int IntKind.u16 y] 52)) := by go_grown
  have hcb : (w.alloc (Obj.cells #[Value.int IntKind.u16 y] 52)).cell? ⟨w.heap.size, 0, none⟩ = some (.int .u16 (y : Int)) := by simp
  have hs1 : (w.alloc (Obj.cells #[Value.int IntKind.u16 y] 52)).heap.size = w.heap.size + 1 := by simp
  have HS : Hid (Calls Try.prog 66 #[.slice ao n cap, .func (.func 67) #[] #[.pointer (some ⟨w.heap.size, 0, none⟩)]] (w.alloc (Obj.cells #[Value.int IntKind.u16 y] 52)) fun e w' => e = .returned (.int .i64 ((cm M y n : Nat) : Int)) ∧ Below w.heap.size w w') := by
    rcases hc.out with h | ⟨g0, off, rfl, hcc⟩
    · have h0 : n = 0 := by rw [Hn.out, h]; rfl
      subst h0
      exact (sumW_zero ao cap _ _).mono (by rintro e w' ⟨rfl, rfl⟩; exact ⟨rfl, hb1⟩)
    · refine (sumW_pos g0 off cap w.heap.size M n y _ hn (fun i hi => Hlt.out _ (wa_mem M i (by rw [← Hn.out]; exact hi))) hy hcb (fun i hi => cell_old hb1 (hcc i (by rw [← Hn.out]; exact hi)))).mono ?_
      rintro e w' ⟨rfl, hb⟩
      exact ⟨rfl, hb1.trans (hb.mono (by rw [hs1]; omega))⟩
  clear hb1 hcb hs1
  go_enter Try.func48, Try.ntmps48
  go_wp2_with fail
  refine HS.out.mono ?_
  rintro e w' ⟨rfl, hb⟩
  go_wp2_with fail
  go_ret
  exact ⟨rfl, hb⟩

end Go.Proofs.Ytoigafjocckepaa
