/- The clue that is none comes to the door. -/
import Derived.Test.YtnhkabhchepieaaDoorRa
import Derived.Test.YtnhkabhchepieaaDoorRows2
import Derived.Defers
import Derived.Recover
import Derived.Laws.Pointers
namespace Go.Proofs.YtnhkabhchepieaaDoor
open Go.ChangeShapes Go.WideShapes Go.ChangeAt Go.RowKit
set_option linter.unusedVariables false


theorem assert_none (j : Nat) (W : World) : (Instr.typeAssert (.iface 148 (.agg #[.int .i64 (j : Int)])) 20 148 true).run Tryd.prog W = .ok (.tuple #[.agg #[.int .i64 (j : Int)], .bool true]) W := by kernel_rfl
theorem assert_nil (W : World) : (Instr.typeAssert .nilIface 20 148 true).run Tryd.prog W = .ok (.tuple #[.agg #[.int .i64 0], .bool false]) W := by kernel_rfl
set_option maxRecDepth 20000 in
theorem catch_none (p : Addr) (x : Value) (j : Nat) (w : World) (hc : w.cell? p = some x) (hz : w.frozen? p = false) :
    CallsD Tryd.prog 109 #[.pointer (some p)] (.panicking [{ v := noneAt j, recovered := false }]) w fun e u' w' =>
      e = .returned (.tuple #[]) ∧ u' = .panicking [{ v := noneAt j, recovered := true }] ∧ w'.cell? p = some (.int .i64 (j : Int)) ∧ Below p.block w w' := by
  unfold noneAt
  refine callsD_of_wpS Tryd.func109 rfl fun c₀ cs hu => ?_
  apply wpS_seq
  apply wpS_region
  simp [wpOpsS, go_sem, recoverD, hu, Tryd.ntmps109, Exit.thenS, assert_none]
  have hlt := World.block_lt_of_cell? w _ hc
  have hbl : Below w.heap.size w (w.alloc (Obj.cells #[Value.int IntKind.i64 (j : Int)] 148)) := (Below.refl _ _).alloc (Nat.le_refl _) _
  have hc2 : (w.alloc (Obj.cells #[Value.int IntKind.i64 (j : Int)] 148)).cell? p = some x := (hbl.cell hlt).trans hc
  have hz2 : (w.alloc (Obj.cells #[Value.int IntKind.i64 (j : Int)] 148)).frozen? p = false := by rw [World.frozen?_alloc_old _ _ p (by omega)]; exact hz
  have hn : (w.alloc (Obj.cells #[Value.int IntKind.i64 (j : Int)] 148)).cell? ⟨w.heap.size, 0, none⟩ = some (.int .i64 (j : Int)) := by simp
  have HB := Lib.hid ((hbl.mono (Nat.le_of_lt hlt)).setCell (Nat.le_refl p.block) (p := p) (.int .i64 (j : Int)))
  apply wpS_seq
  apply wpS_region
  simp [wpOpsS, go_sem, Exit.thenS]
  refine wpS_cond (t := true) (by simp [Act.eval, Array.replicate]) ?_
  simp only [if_true]
  apply wpS_region
  simp [wpOpsS, go_sem, hc2, hz2, bodyPostS, results, Tryd.results109]
  exact HB.out
set_option maxRecDepth 20000 in
theorem catch_idle (p : Addr) (w : World) :
    CallsD Tryd.prog 109 #[.pointer (some p)] .returning w fun e u' w' => e = .returned (.tuple #[]) ∧ u' = .returning ∧ Below w.heap.size w w' := by
  refine callsD_of_wpS Tryd.func109 rfl fun c₀ cs hu => ?_
  apply wpS_seq
  apply wpS_region
  simp [wpOpsS, go_sem, recoverD, hu, Tryd.ntmps109, Exit.thenS, assert_nil]
  have hbl : Below w.heap.size w (w.alloc (Obj.cells #[Value.int IntKind.i64 0] 148)) := (Below.refl _ _).alloc (Nat.le_refl _) _
  apply wpS_seq
  apply wpS_region
  simp [wpOpsS, go_sem, Exit.thenS]
  refine wpS_cond (t := false) (by simp [Act.eval, Array.replicate]) ?_
  simp only [Bool.false_eq_true, if_false]
  refine wpS_of_wp (wp_skip ?_)
  cases c₀
  simp_all [bodyPostS, results, Tryd.results109]

set_option maxRecDepth 20000 in
theorem cbn_pos (f n : Int) (kb b off cap : Nat) (l : List Clu) (N j : Nat) (w : World) (HN : Hid (N = l.length)) (hN : N ≤ 1048576) (HK : Hid (KindsAt f n w kb)) (ao : Option Addr) (Hao : Hid (0 < N → ao = some ⟨b, off, none⟩)) (Hc : Hid (∀ i, i < N → Sat4 w b off l i))
    (hj : j ≤ N) (Hg : Hid (∀ i, i < j → pB f n (k0 l i, k1 l i, k2 l i, k3 l i) = true)) (Hno : Hid (j < N → pB f n (k0 l j, k1 l j, k2 l j, k3 l j) = false)) :
    Calls Tryd.prog 93 #[.slice (some ⟨kb, 0, none⟩) 6 6, .slice ao N cap] w fun e w' => e = .returned (.int .i64 (j : Int)) ∧ Below w.heap.size w w' := by
  have hmf : ∀ (fn : Fn) (first cap : Array Value) (w : World), (Instr.makeFunc fn first cap).run Tryd.prog w = .ok (.func fn first cap) w := fun _ _ _ _ => rfl
  obtain ⟨W, hW⟩ : ∃ W, w.alloc (Obj.cells #[Value.int IntKind.i64 0] 3) = W := ⟨_, rfl⟩
  have hbW : Below w.heap.size w W := by rw [← hW]; exact (Below.refl _ _).alloc (Nat.le_refl _) _
  have hcW : W.cell? ⟨w.heap.size, 0, none⟩ = some (.int .i64 0) := by rw [← hW]; simp
  have hfW : W.frozen? ⟨w.heap.size, 0, none⟩ = false := by rw [← hW]; simp
  by_cases hjN : j < N
  · have HR := Lib.hid (raise_pos f n kb b off cap l N j W HN hN (HK.out.kept hbW) ao Hao (fun i hi => (Hc.out i hi).kept hbW) hj Hg Hno (.panicked [{ v := noneAt j, recovered := false }]) (fun h => by omega) (fun _ => rfl))
    have HW := Lib.hid hW
    clear hW
    go_enter_defers Tryd.func93, Tryd.ntmps93
    go_wp2_with fail
    rw [HW.out]
    refine HR.out.mono ?_
    rintro e w1 ⟨rfl, hb1⟩
    have hs1 := hb1.size
    have hlt : w.heap.size < W.heap.size := World.block_lt_of_cell? _ _ hcW
    have hc1 := cell_old hb1 hcW
    have hf1 : w1.frozen? ⟨w.heap.size, 0, none⟩ = false := by rw [hb1.frozen hlt]; exact hfW
    go_wp2_with fail
    refine leaves_cons (f := 109) (args := #[.pointer (some ⟨w.heap.size, 0, none⟩)]) (by simp) (by simp [go_sem]) ?_
    refine (catch_none ⟨w.heap.size, 0, none⟩ (.int .i64 0) j _ hc1 hf1).mono ?_
    rintro e u' w2 ⟨rfl, rfl, hc2, hb2⟩
    have HB := Lib.hid ((hbW.trans (hb1.mono hbW.size)).trans (hb2.mono (Nat.le_refl _)))
    simp [Leaves, settle, results, Tryd.results93, go_sem, hc2]
    exact HB.out
  · obtain rfl : j = N := by omega
    have HR := Lib.hid (raise_pos f n kb b off cap l j j W HN hN (HK.out.kept hbW) ao Hao (fun i hi => (Hc.out i hi).kept hbW) hj Hg Hno (.returned (.tuple #[])) (fun _ => rfl) (fun h => by omega))
    have HW := Lib.hid hW
    clear hW
    go_enter_defers Tryd.func93, Tryd.ntmps93
    go_wp2_with fail
    rw [HW.out]
    refine HR.out.mono ?_
    rintro e w1 ⟨rfl, hb1⟩
    have hs1 := hb1.size
    have hlt : w.heap.size < W.heap.size := World.block_lt_of_cell? _ _ hcW
    have hc1 := cell_old hb1 hcW
    have hf1 : w1.frozen? ⟨w.heap.size, 0, none⟩ = false := by rw [hb1.frozen hlt]; exact hfW
    go_wp2_with fail
    refine leaves_cons (f := 109) (args := #[.pointer (some ⟨w.heap.size, 0, none⟩)]) (by simp) (by simp [go_sem]) ?_
    refine (catch_idle ⟨w.heap.size, 0, none⟩ _).mono ?_
    rintro e u' w2 ⟨rfl, rfl, hb2⟩
    have hcs : (w1.setCell ⟨w.heap.size, 0, none⟩ (.int .i64 (j : Int))).cell? ⟨w.heap.size, 0, none⟩ = some (.int .i64 (j : Int)) := World.cell?_setCell_same _ _ _ hc1
    have hc2 := cell_old hb2 hcs
    have hb3 := (hbW.trans (hb1.mono hbW.size)).setCell (p := ⟨w.heap.size, 0, none⟩) (Nat.le_refl _) (.int .i64 (j : Int))
    have HB := Lib.hid (hb3.trans (hb2.mono hb3.size))
    simp [Leaves, settle, results, Tryd.results93, go_sem, hc2]
    exact HB.out

/-- How many clues are ahead of the first one that is none. -/
def bn (f n : Int) : List Clu → Nat
  | [] => 0
  | c :: l => if pB f n c = true then bn f n l + 1 else 0
theorem bn_le (f n : Int) : ∀ l, bn f n l ≤ l.length
  | [] => Nat.le_refl _
  | c :: l => by have := bn_le f n l; unfold bn; split <;> simp <;> omega
theorem bn_good (f n : Int) : ∀ l i, i < bn f n l → pB f n (k0 l i, k1 l i, k2 l i, k3 l i) = true
  | [], i, h => by simp [bn] at h
  | c :: l, i, h => by
    unfold bn at h
    split at h
    · rename_i hc
      cases i with
      | zero => exact hc
      | succ i => exact bn_good f n l i (by omega)
    · omega
theorem bn_bad (f n : Int) : ∀ l, bn f n l < l.length → pB f n (k0 l (bn f n l), k1 l (bn f n l), k2 l (bn f n l), k3 l (bn f n l)) = false
  | [], h => by simp at h
  | c :: l, h => by
    by_cases hc : pB f n c = true
    · have e : bn f n (c :: l) = bn f n l + 1 := by simp [bn, hc]
      rw [e] at h ⊢
      exact bn_bad f n l (by simpa using h)
    · have e : bn f n (c :: l) = 0 := by simp [bn, hc]
      rw [e]
      have hc2 : pB f n c = false := by simpa using hc
      exact hc2
theorem bn_all (f n : Int) : ∀ l, (bn f n l = l.length) = (l.all (mB f n) = true)
  | [] => by simp [bn]
  | c :: l => by
    have ih := bn_all f n l
    have hl := bn_le f n l
    by_cases hc : pB f n c = true
    · have e : bn f n (c :: l) = bn f n l + 1 := by simp [bn, hc]
      rw [e, List.all_cons, mB_pB, hc, Bool.true_and, ← ih]
      simp
    · have e : bn f n (c :: l) = 0 := by simp [bn, hc]
      rw [e, List.all_cons, mB_pB]
      simp [hc]
set_option maxRecDepth 20000 in
theorem areClues_any (f n : Int) (ao : Option Addr) (cap : Nat) (l : List Clu) (N : Nat) (w : World) (HN : Hid (N = l.length)) (hN : N ≤ 1048576) (Hc : Hid (CluesAt w ao l)) :
    Calls Tryd.prog 79 #[.int .i64 f, .int .i64 n, .slice ao N cap] w fun e w' => e = .returned (.bool (szB f n && l.all (mB f n))) ∧ Below w.heap.size w w' := by
  cases hz : szB f n
  · have HZ := Lib.hid hz
    clear hz
    rw [Bool.false_and]
    go_enter Tryd.func79, Tryd.ntmps79
    go_wp2_with fail
    refine (canHide_any f n _).mono ?_
    rintro e w' ⟨rfl, rfl⟩
    rw [HZ.out]
    go_wp2_with fail
    go_ret
    exact ⟨rfl, Below.refl _ _⟩
  · have HZ := Lib.hid hz
    clear hz
    rw [Bool.true_and]
    obtain ⟨b, off, Hao, Hs⟩ : ∃ b off, Hid (0 < N → ao = some ⟨b, off, none⟩) ∧ Hid (∀ i, i < N → Sat4 w b off l i) := by
      rcases Hc.out with h | ⟨b, off, h, hs⟩
      · exact ⟨0, 0, fun h0 => by rw [HN.out, h] at h0; simp at h0, fun i hi => by rw [HN.out, h] at hi; simp at hi⟩
      · exact ⟨b, off, fun _ => h, fun i hi => hs i (by rw [← HN.out]; exact hi)⟩
    have hbl := bn_le f n l
    have Hg := Lib.hid (bn_good f n l)
    have Hb := Lib.hid (bn_bad f n l)
    have Ha := Lib.hid (bn_all f n l)
    obtain ⟨j, hj⟩ : ∃ j, bn f n l = j := ⟨_, rfl⟩
    rw [hj] at hbl Hg Hb Ha
    clear hj
    rw [← HN.out] at hbl Hb Ha
    have hv : ((j : Int) == (N : Int)) = l.all (mB f n) := by
      rw [Bool.eq_iff_iff, ← Ha.out]
      simp; omega
    go_enter Tryd.func79, Tryd.ntmps79
    go_wp2_with fail
    refine (canHide_any f n _).mono ?_
    rintro e w' ⟨rfl, rfl⟩
    rw [HZ.out]
    go_wp2_with fail
    refine (kindsOf_any f n w).mono ?_
    rintro e w1 ⟨rfl, hk1, hb1⟩
    go_wp2_with fail
    refine (cbn_pos f n w.heap.size b off cap l N j w1 HN hN hk1 ao Hao (fun i hi => (Hs.out i hi).kept hb1) hbl Hg.out Hb.out).mono ?_
    rintro e w2 ⟨rfl, hb2⟩
    have HB := Lib.hid (hb1.trans (hb2.mono hb1.size))
    clear hb1 hb2 hk1
    go_wp2_with fail
    go_ret
    exact ⟨by rw [← hv]; rfl, HB.out⟩

end Go.Proofs.YtnhkabhchepieaaDoor
