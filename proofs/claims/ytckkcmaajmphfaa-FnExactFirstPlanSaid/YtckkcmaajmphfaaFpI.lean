/- The program's search for the first plan. -/
import Derived.Test.YtckkcmaajmphfaaFp
namespace Go.Proofs.Ytckkcmaajmphfaa
open Go.ChangeShapes Go.WideShapes Go.ChangeAt Go.RowKit
set_option linter.unusedVariables false


/-- But for one block, the world is as it was. -/
structure But (g : Nat) (w w' : World) : Prop where
  os : w'.os = w.os
  tape : w'.tape = w.tape
  output : w'.output = w.output
  size : w.heap.size ≤ w'.heap.size
  block : ∀ k, k < w.heap.size → k ≠ g → w'.heap[k]? = w.heap[k]?
theorem But.refl (g : Nat) (w : World) : But g w w := ⟨rfl, rfl, rfl, Nat.le_refl _, fun _ _ _ => rfl⟩
theorem But.trans {g : Nat} {a b c : World} (h : But g a b) (k : But g b c) : But g a c :=
  ⟨k.os.trans h.os, k.tape.trans h.tape, k.output.trans h.output, Nat.le_trans h.size k.size, fun i hi hg => (k.block i (Nat.lt_of_lt_of_le hi h.size) hg).trans (h.block i hi hg)⟩
theorem But.of {g : Nat} {w w' : World} (h : Below w.heap.size w w') : But g w w' := ⟨h.os, h.tape, h.output, h.size, fun k hk _ => h.block k hk⟩
theorem But.setCell {g : Nat} {a w : World} (h : But g a w) (i : Nat) (u : Value) : But g a (w.setCell ⟨g, i, none⟩ u) :=
  ⟨h.os, h.tape, h.output, Nat.le_trans h.size ((Below.refl 0 w).setCell (p := ⟨g, i, none⟩) (Nat.zero_le _) u).size, fun k hk hg => (Below.heap_setCell w ⟨g, i, none⟩ u k hg).trans (h.block k hk hg)⟩
theorem But.cell {g : Nat} {w w' : World} (h : But g w w') {a : Addr} {v : Value} (hc : w.cell? a = some v) (hg : a.block ≠ g) : w'.cell? a = some v :=
  (World.cell?_of_block (w := w) (h.block a.block (World.block_lt_of_cell? w _ hc) hg)).trans hc
theorem But.row {g : Nat} {w w' : World} (h : But g w w') {b : Nat} {o : Obj} (hb : w.heap[b]? = some o) (hg : b ≠ g) : w'.heap[b]? = some o :=
  (h.block b (Array.getElem?_eq_some_iff.1 hb).1 hg).trans hb
theorem But.below {g base : Nat} {w w' : World} (h : But g w w') (h1 : base ≤ g) (h2 : base ≤ w.heap.size) : Below base w w' :=
  ⟨h.os, h.tape, h.output, h.size, fun k hk => h.block k (by omega) (by omega)⟩
/-- These calls lie here, in another block. -/
def CAt (g : Nat) (w : World) (b off : Nat) (l : List (Int × Int)) : Prop := b ≠ g ∧ ∀ i, i < l.length → w.cell? ⟨b, off + i * 2, none⟩ = some (.int .i64 (ca l i)) ∧ w.cell? ⟨b, off + i * 2 + 1, none⟩ = some (.int .i64 (cb l i))
theorem CAt.but {g : Nat} {w w' : World} {b off : Nat} {l : List (Int × Int)} (h : CAt g w b off l) (hb : But g w w') : CAt g w' b off l :=
  ⟨h.1, fun i hi => ⟨hb.cell (h.2 i hi).1 h.1, hb.cell (h.2 i hi).2 h.1⟩⟩
/-- The row of the block g, the first o cells of which are as they were. -/
def Mid (g o : Nat) (R : Array Value) (w : World) (R' : Array Value) (w' : World) : Prop :=
  But g w w' ∧ w'.heap[g]? = some (.cells R' 50 (0, 0)) ∧ R'.size = R.size ∧ ∀ i, i < o → R'[i]? = R[i]?
/-- What a search leaves in the block g. -/
def Fill (g o : Nat) (R : Array Value) (res : Option (List (Int × Int))) (w w' : World) : Prop :=
  ∃ R', Mid g o R w R' w' ∧ ∀ l, res = some l → ∀ j u, (cs l)[j]? = some u → R'[o + j]? = some u
theorem learnNothing_any (a b : Int) (x y : Nat) (w : World) :
    Calls Try.prog 35 #[.agg #[.int .i64 a, .int .i64 b, .int .u16 x, .int .u16 y]] w fun e w' => e = .returned (.bool (x == y)) ∧ Below w.heap.size w w' := by
  have e : ((x : Int) == (y : Int)) = (x == y) := by rw [Bool.eq_iff_iff]; simp; omega
  have He := Lib.hid e
  clear e
  go_enter Try.func35, Try.ntmps35
  go_wp2_with fail
  go_ret
  exact ⟨ret_bool He.out, (Below.refl _ _).alloc (Nat.le_refl _) _⟩

def FillOk (F g bC offC : Nat) (ch : List (Int × Int)) (nC capC : Nat) (n : Nat) : Prop :=
  ∀ (s : Nat → Nat) (ao : Option Addr) (cap o : Nat) (R : Array Value) (w : World), Hid (Gd F s) → Hid (CAt g w bC offC ch) → Hid (w.heap[g]? = some (.cells R 50 (0, 0))) → Hid (R.size = o + 2 * n) → (n ≠ 0 → ao = some ⟨g, o, none⟩ ∧ cap = n) →
    Calls Try.prog 23 #[.slice ao n cap, .agg (KA F s), .slice (some ⟨bC, offC, none⟩) nC capC] w fun e w' => e = .returned (.bool (fpI (whI F) ch n s).isSome) ∧ Fill g o R (fpI (whI F) ch n s) w w'

set_option maxRecDepth 20000 in
theorem fill_none (F g : Nat) (ch : List (Int × Int)) (hF : F ≤ 10) (s : Nat → Nat) (ao : Option Addr) (cap o : Nat) (R : Array Value) (w : World) (vC : Value) (Hs : Hid (Gd F s)) (HR : Hid (w.heap[g]? = some (.cells R 50 (0, 0)))) :
    Calls Try.prog 23 #[.slice ao 0 cap, .agg (KA F s), vC] w fun e w' => e = .returned (.bool (fpI (whI F) ch 0 s).isSome) ∧ Fill g o R (fpI (whI F) ch 0 s) w w' := by
  have Hsm := Lib.hid (gd_small hF Hs.out)
  have HB := Lib.hid (heap_alloc_new w (.cells (KA F s) 45))
  have Hb0 := Lib.hid ((Below.refl w.heap.size w).alloc (Nat.le_refl _) (.cells (KA F s) 45))
  have hF0 : (0 : Int) ≤ F := by omega
  have hF1 : (F : Int) ≤ 10 := by omega
  go_enter Try.func23, Try.ntmps23
  go_wp2_with (with_reducible refine wpList_load_row rfl 45 (.tmp 4) rfl w.heap.size ?q1 45 _ (0, 0) _ HB.out Try.underlying45 rfl ?q3 ?_)
  case q1 => rfl
  case q3 => rw [info45, KA_size]
  go_wp2_with fail
  refine (isWhole_any F s _ Hsm.out hF0 hF1).mono ?_
  rintro e w1 ⟨rfl, hb1⟩
  have Hb1 := Lib.hid (Hb0.out.trans (hb1.mono Hb0.out.size))
  have e1 : ((cntTo s 10 : Int) == (F : Int) * F) = whI F s := rfl
  rw [e1]
  clear hb1 e1
  go_wp2_with fail
  go_ret
  refine ⟨ret_bool ?_, R, ⟨But.of Hb1.out, ?_, rfl, fun _ _ => rfl⟩, ?_⟩
  · show whI F s = Option.isSome (if whI F s then some [] else none)
    cases whI F s <;> rfl
  · exact (Hb1.out.block g (Array.getElem?_eq_some_iff.1 HR.out).1).trans HR.out
  · intro l hl j u hu
    have h2 : (if whI F s then some [] else none) = some l := hl
    split at h2
    · cases h2; simp [cs] at hu
    · cases h2
theorem fill_zero (F g bC offC : Nat) (ch : List (Int × Int)) (nC capC : Nat) (hF : F ≤ 10) : FillOk F g bC offC ch nC capC 0 :=
  fun s ao cap o R w Hs _ HR _ _ => fill_none F g ch hF s ao cap o R w _ Hs HR

/-- Where the rest of a list lies. -/
def nxA (g o N : Nat) : Option Addr := if N = 0 then some ⟨g, o, none⟩ else some ⟨g, o + 2, none⟩
theorem Mid.later {g o : Nat} {R R' : Array Value} {w w1 w2 : World} (h : Mid g o R w R' w1) (hb : Below w1.heap.size w1 w2) : Mid g o R w R' w2 :=
  ⟨h.1.trans (But.of hb), (hb.block g (Array.getElem?_eq_some_iff.1 h.2.1).1).trans h.2.1, h.2.2.1, h.2.2.2⟩
theorem Mid.put {g o : Nat} {R R' : Array Value} {w w1 : World} (h : Mid g o R w R' w1) (i : Nat) (hi : o ≤ i) (u : Value) : Mid g o R w (R'.setIfInBounds i u) (w1.setCell ⟨g, i, none⟩ u) :=
  ⟨h.1.setCell i u, heap_setCell_same _ _ i _ _ u h.2.1, by simp [h.2.2.1], fun j hj => by rw [Array.getElem?_setIfInBounds_ne (by omega)]; exact h.2.2.2 j hj⟩
theorem fill_size {o N : Nat} {R : Array Value} (h : R.size = o + 2 * (N + 1)) (X Y : Value) : (((R.setIfInBounds o X).setIfInBounds (o + 1) Y)).size = o + 2 + 2 * N := by simp; omega
theorem fill_here {o N : Nat} {R : Array Value} (h : R.size = o + 2 * (N + 1)) (X Y : Value) : ((R.setIfInBounds o X).setIfInBounds (o + 1) Y)[o]? = some X ∧ ((R.setIfInBounds o X).setIfInBounds (o + 1) Y)[o + 1]? = some Y := by
  constructor
  · rw [Array.getElem?_setIfInBounds_ne (by omega), Array.getElem?_setIfInBounds_self_of_lt (by omega)]
  · rw [Array.getElem?_setIfInBounds_self_of_lt (by simp; omega)]
/-- A search deeper down has found a rest: the list is found. -/
theorem fill_done {g o N : Nat} {R R1 : Array Value} {w w1 w2 : World} {X Y : Int} {l : List (Int × Int)} (hm : Mid g o R w ((R1.setIfInBounds o (.int .i64 X)).setIfInBounds (o + 1) (.int .i64 Y)) w1) (hz : R1.size = o + 2 * (N + 1)) (hf : Fill g (o + 2) ((R1.setIfInBounds o (.int .i64 X)).setIfInBounds (o + 1) (.int .i64 Y)) (some l) w1 w2) : Fill g o R (some ((X, Y) :: l)) w w2 := by
  obtain ⟨R', ⟨h1, h2, h3, h4⟩, h5⟩ := hf
  have hh := fill_here hz (.int .i64 X) (.int .i64 Y)
  refine ⟨R', ⟨hm.1.trans h1, h2, h3.trans hm.2.2.1, fun i hi => (h4 i (by omega)).trans (hm.2.2.2 i hi)⟩, ?_⟩
  intro l2 hl j u hu
  cases hl
  have e : cs ((X, Y) :: l) = [.int .i64 X, .int .i64 Y] ++ cs l := rfl
  rw [e] at hu
  match j with
  | 0 => simp at hu; subst hu; rw [Nat.add_zero, h4 o (by omega)]; exact hh.1
  | 1 => simp at hu; subst hu; rw [h4 (o + 1) (by omega)]; exact hh.2
  | j + 2 =>
    have := h5 l rfl j u (by simpa using hu)
    rw [show o + (j + 2) = o + 2 + j by omega]; exact this
theorem fill_next {g o : Nat} {R R1 : Array Value} {w w1 w2 : World} {res : Option (List (Int × Int))} (hm : Mid g o R w R1 w1) (hf : Fill g (o + 2) R1 res w1 w2) : ∃ R', Mid g o R w R' w2 := by
  obtain ⟨R', ⟨h1, h2, h3, h4⟩, _⟩ := hf
  exact ⟨R', hm.1.trans h1, h2, h3.trans hm.2.2.1, fun i hi => (h4 i (by omega)).trans (hm.2.2.2 i hi)⟩
theorem tryI_idle {Q : (Nat → Nat) → Option (List (Int × Int))} {ch : List (Int × Int)} {s : Nat → Nat} {k : Nat} {X Y : Int} (hX : ca ch k = X) (hY : cb ch k = Y) (h : (s X.toNat == s Y.toNat) = true) : tryI Q ch s k = none := by
  rw [tryI, hX, hY, if_pos h]
theorem tryI_go {Q : (Nat → Nat) → Option (List (Int × Int))} {ch : List (Int × Int)} {s : Nat → Nat} {k : Nat} {X Y : Int} (hX : ca ch k = X) (hY : cb ch k = Y) (h : (s X.toNat == s Y.toNat) = false) : tryI Q ch s k = (Q (stp s (X, Y))).map ((X, Y) :: ·) := by
  rw [tryI, hX, hY, h]; rfl

theorem fill_but {g o : Nat} {R : Array Value} {w w1 : World} {res : Option (List (Int × Int))} (hf : Fill g o R res w w1) : But g w w1 := by
  obtain ⟨R', h, _⟩ := hf
  exact h.1

set_option maxHeartbeats 1000000 in
set_option maxRecDepth 20000 in
theorem fill_succ (F g bC offC : Nat) (ch : List (Int × Int)) (nC capC N : Nat) (hF : F ≤ 10) (HnC : Hid (nC = ch.length)) (hnC : nC ≤ 60) (Hch : Hid (∀ i, i < ch.length → 0 ≤ ca ch i ∧ ca ch i < cb ch i ∧ cb ch i < (F : Int))) (IH : Hid (FillOk F g bC offC ch nC capC N)) : FillOk F g bC offC ch nC capC (N + 1) := by
  intro s ao cap o R w Hs HC HR Hz harg
  obtain ⟨rfl, rfl⟩ := harg (by omega)
  clear harg
  have Hsm := Lib.hid (gd_small hF Hs.out)
  obtain ⟨B, hB⟩ : ∃ B, w.heap.size = B := ⟨_, rfl⟩
  obtain ⟨w1, hw1⟩ : ∃ w1, w.alloc (.cells (KA F s) 45) = w1 := ⟨_, rfl⟩
  have HB1 : Hid (w1.heap[B]? = some (.cells (KA F s) 45 (0, 0))) := Lib.hid (by rw [← hw1, ← hB]; exact heap_alloc_new w _)
  have hb1 : Below w.heap.size w w1 := by rw [← hw1]; exact (Below.refl w.heap.size w).alloc (Nat.le_refl _) _
  have HM1 : Hid (Mid g o R w R w1) := Lib.hid ⟨But.of hb1, (hb1.block g (Array.getElem?_eq_some_iff.1 HR.out).1).trans HR.out, rfl, fun _ _ => rfl⟩
  have HC1 := Lib.hid (HC.out.but (But.of hb1))
  have HgB : Hid (B ≠ g) := Lib.hid (by have := (Array.getElem?_eq_some_iff.1 HR.out).1; omega)
  have HW := Lib.hid hw1
  have HBe := Lib.hid hB
  clear hb1 hw1 hB HC HR
  have hN0 : (((N : Int) + 1) == 0) = false := by simp; omega
  go_enter Try.func23, Try.ntmps23
  go_upto_region 3 with (fail)
  rw [HW.out, HBe.out]
  go_wp2_with fail
  go_loopw [16] (fun i wr => ∃ (k : Nat) (R' : Array Value), k ≤ nC ∧ i = .int .i64 k ∧ Hid (fs (tryI (fpI (whI F) ch N) ch s) k = none) ∧ Hid (Mid g o R w R' wr) ∧ Hid (wr.heap[B]? = some (.cells (KA F s) 45 (0, 0))) ∧ Hid (CAt g wr bC offC ch)) (fun i _ => nC - (intOf i).toNat)
  case atStart => exact ⟨0, R, Nat.zero_le _, rfl, rfl, HM1, HB1, HC1⟩
  case round =>
    clear HM1 HB1 HC1
    obtain ⟨k, R1, hk, rfl, Hno, HM, HB, HC⟩ := hrel
    by_cases hlt : k < nC
    · have hkl : k < ch.length := by rw [← HnC.out]; exact hlt
      obtain ⟨X, hX⟩ : ∃ X : Int, ca ch k = X := ⟨_, rfl⟩
      obtain ⟨Y, hY⟩ : ∃ Y : Int, cb ch k = Y := ⟨_, rfl⟩
      have hgc := Hch.out k hkl
      rw [hX, hY] at hgc
      have hX0 := hgc.1
      have hXY := hgc.2.1
      have hY10 : Y < 10 := by have := hgc.2.2; omega
      have HYF := Lib.hid hgc.2.2
      have hcc := HC.out.2 k hkl
      rw [hX, hY] at hcc
      have h0 := hcc.1
      have h1 := hcc.2
      have HXe := Lib.hid hX
      have HYe := Lib.hid hY
      obtain ⟨D, hD⟩ : ∃ D, wr.heap.size = D := ⟨_, rfl⟩
      obtain ⟨w3, hw3⟩ : ∃ w3, wr.alloc (.cells #[.int .i64 X, .int .i64 Y] 50) = w3 := ⟨_, rfl⟩
      have hrow := heap_alloc_new wr (.cells #[.int .i64 X, .int .i64 Y] 50)
      have hb3 : Below wr.heap.size wr w3 := by rw [← hw3]; exact (Below.refl _ _).alloc (Nat.le_refl _) _
      rw [hw3, hD] at hrow
      have HD3 := Lib.hid hrow
      have HB3 : Hid (w3.heap[B]? = some (.cells (KA F s) 45 (0, 0))) := Lib.hid ((hb3.block B (Array.getElem?_eq_some_iff.1 HB.out).1).trans HB.out)
      have HM3 := Lib.hid (HM.out.later hb3)
      have HC3 := Lib.hid (HC.out.but (But.of hb3))
      have HgD : Hid (D ≠ g) := Lib.hid (by have := (Array.getElem?_eq_some_iff.1 HM.out.2.1).1; omega)
      have HWr := Lib.hid hw3
      have HDe := Lib.hid hD
      clear hb3 hrow hw3 hD HM HB HC hcc hX hY hkl hgc
      go_upto_region 6 with (fail)
      rw [HWr.out, HDe.out]
      clear h0 h1
      have c0 : w3.cell? ⟨D, 0, none⟩ = some (.int .i64 X) := cell_of_row _ _ 0 _ _ _ HD3.out
      have c1 : w3.cell? ⟨D, 1, none⟩ = some (.int .i64 Y) := cell_of_row _ _ 1 _ _ _ HD3.out
      go_wp2_with (with_reducible refine wpList_load_row rfl 45 (.tmp 4) rfl B ?q1 45 _ (0, 0) _ HB3.out Try.underlying45 rfl ?q3 ?_)
      case q1 => rfl
      case q3 => rw [info45, KA_size]
      go_wp2_with fail
      refine (before_int F s X Y w3 hX0 hXY hY10).mono ?_
      rintro e w4 ⟨rfl, hb4⟩
      go_wp2_with fail
      refine (learnNothing_any X Y _ _ w4).mono ?_
      rintro e w5 ⟨rfl, hb5⟩
      have hb6 : Below w3.heap.size w3 w5 := hb4.trans (hb5.mono hb4.size)
      have HD5 : Hid (w5.heap[D]? = some (.cells #[.int .i64 X, .int .i64 Y] 50 (0, 0))) := Lib.hid ((hb6.block D (Array.getElem?_eq_some_iff.1 HD3.out).1).trans HD3.out)
      have HB5 : Hid (w5.heap[B]? = some (.cells (KA F s) 45 (0, 0))) := Lib.hid ((hb6.block B (Array.getElem?_eq_some_iff.1 HB3.out).1).trans HB3.out)
      have HM5 := Lib.hid (HM3.out.later hb6)
      have HC5 := Lib.hid (HC3.out.but (But.of hb6))
      clear hb4 hb5 hb6 HD3 HB3 HM3 HC3 c0 c1
      cases hid : (s X.toNat == s Y.toNat)
      · have HG2 : Hid (Gd F (stp s (X, Y))) := Lib.hid (gd_stp Hs.out hX0 hXY HYF.out)
        have Htry := Lib.hid (tryI_go (Q := fpI (whI F) ch N) HXe.out HYe.out hid)
        clear hid
        have c0 : w5.cell? ⟨D, 0, none⟩ = some (.int .i64 X) := cell_of_row _ _ 0 _ _ _ HD5.out
        have c1 : w5.cell? ⟨D, 1, none⟩ = some (.int .i64 Y) := cell_of_row _ _ 1 _ _ _ HD5.out
        have HR1z : Hid (R1.size = o + 2 * (N + 1)) := Lib.hid (by rw [HM5.out.2.2.1]; exact Hz.out)
        have hf0 : w5.frozen? ⟨g, o, none⟩ = false := frozen_of_row _ _ _ _ _ HM5.out.2.1
        have hf1 : w5.frozen? ⟨g, o + 1, none⟩ = false := frozen_of_row _ _ _ _ _ HM5.out.2.1
        obtain ⟨u0, hu0⟩ : ∃ u0, w5.cell? ⟨g, o, none⟩ = some u0 := ⟨_, (cell_of_row _ _ _ _ _ _ HM5.out.2.1).trans (Array.getElem?_eq_getElem (by have := HR1z.out; omega))⟩
        obtain ⟨u1, hu1⟩ : ∃ u1, w5.cell? ⟨g, o + 1, none⟩ = some u1 := ⟨_, (cell_of_row _ _ _ _ _ _ HM5.out.2.1).trans (Array.getElem?_eq_getElem (by have := HR1z.out; omega))⟩
        obtain ⟨RS, hRS⟩ : ∃ RS, (R1.setIfInBounds o (.int .i64 X)).setIfInBounds (o + 1) (.int .i64 Y) = RS := ⟨_, rfl⟩
        obtain ⟨w6, hw6⟩ : ∃ w6, (w5.setCell ⟨g, o, none⟩ (.int .i64 X)).setCell ⟨g, o + 1, none⟩ (.int .i64 Y) = w6 := ⟨_, rfl⟩
        have HRS := Lib.hid hRS
        have HM6 : Hid (Mid g o R w RS w6) := Lib.hid (by rw [← hRS, ← hw6]; exact (HM5.out.put o (Nat.le_refl _) _).put (o + 1) (by omega) _)
        have hbu : But g w5 w6 := by rw [← hw6]; exact ((But.refl g w5).setCell o _).setCell (o + 1) _
        have HB6 : Hid (w6.heap[B]? = some (.cells (KA F s) 45 (0, 0))) := Lib.hid (hbu.row HB5.out HgB.out)
        have HD6 : Hid (w6.heap[D]? = some (.cells #[.int .i64 X, .int .i64 Y] 50 (0, 0))) := Lib.hid (hbu.row HD5.out HgD.out)
        have HC6 := Lib.hid (HC5.out.but hbu)
        have HRz : Hid (RS.size = o + 2 + 2 * N) := Lib.hid (by rw [← hRS]; exact fill_size HR1z.out _ _)
        have HW6 := Lib.hid hw6
        clear hbu HM5 HB5 HD5 HC5 hRS hw6
        go_upto_region 8 with (fail)
        rw [HW6.out]
        refine wp_region_any (by kernel_rfl) ?_
        change wpAny _ _ _ _ _ _ _ (World.drew _)
        have hbd : Below w6.heap.size w6 w6.drew := (Below.refl _ _).drew
        have hm4 := Lib.hid (HM6.out.later hbd)
        have HC4 := Lib.hid (HC6.out.but (But.of hbd))
        have HB4 : Hid (w6.drew.heap[B]? = some (.cells (KA F s) 45 (0, 0))) := HB6
        have HD4 : Hid (w6.drew.heap[D]? = some (.cells #[.int .i64 X, .int .i64 Y] 50 (0, 0))) := HD6
        clear hbd HM6 HC6 c0 c1 hf0 hf1 hu0 hu1
        obtain ⟨W4, hW4⟩ : ∃ W4, w6.drew = W4 := ⟨_, rfl⟩
        rw [hW4] at hm4 HC4 HB4 HD4 ⊢
        have c0 : W4.cell? ⟨D, 0, none⟩ = some (.int .i64 X) := cell_of_row _ _ 0 _ _ _ HD4.out
        have c1 : W4.cell? ⟨D, 1, none⟩ = some (.int .i64 Y) := cell_of_row _ _ 1 _ _ _ HD4.out
        clear hW4 HW6 HB6 HD6
        obtain ⟨res, hres⟩ : ∃ res, fpI (whI F) ch N (stp s (X, Y)) = res := ⟨_, rfl⟩
        have Hres := Lib.hid hres
        rw [hres] at Htry
        clear hres
        have hN1 : (1 : Int) ≤ (N : Int) + 1 := by omega
        rcases res with _ | l
        · refine wpAny_take (i := 0) (v := ?_) rfl (by kernel_rfl) (by kernel_rfl) (by kernel_rfl) (fun _ _ _ h => h) (Or.inl ⟨by rfl, ?y0⟩) ?_
          case y0 => intro w; go_simp; first | done | with_reducible rfl
          refine wpAny_take (i := 1) (v := .slice (nxA g o N) N N) rfl (by kernel_rfl) (by kernel_rfl) (by kernel_rfl) (fun _ _ _ h => h) (Or.inl ⟨by rfl, ?y1⟩) ?_
          case y1 => intro w; go_simp; first | done | rfl
          refine wpAny_take (i := 5) (v := ?_) rfl (by kernel_rfl) (by kernel_rfl) (by kernel_rfl) (fun _ _ _ h => h) (Or.inl ⟨by rfl, ?y5⟩) ?_
          case y5 => intro w; go_simp; first | done | with_reducible rfl
          refine wpAny_ready (rs := [2, 3]) (by kernel_rfl) (by simp) ?_
          refine AllReady.cons rfl (fun K hK => ?_) ?_
          · refine step_load_row rfl 45 (.tmp 4) rfl B rfl 45 (KA F s) (0, 0) _ HB4.out Try.underlying45 ⟨_, rfl⟩ (by rw [info45, KA_size]) ?_
            try (refine hK _ _ ?_; clear hK K)
            refine wpAny_ready (rs := [3]) (by kernel_rfl) (by simp) ?_
            refine AllReady.cons rfl (fun K hK => ?_) AllReady.nil
            go_simp
            try (refine hK _ _ ?_; clear hK K)
            refine wpAny_ready (rs := [4]) (by kernel_rfl) (by simp) ?_
            refine AllReady.cons rfl (fun K hK => ?_) AllReady.nil
            go_simp
            go_wp2_with (go_at_call 36; (with_reducible refine (behind_st F s X Y W4 Hsm.out hX0 hXY hY10).mono ?_); rintro e w5 ⟨rfl, hb5⟩)
            try (refine hK _ _ ?_; clear hK K)
            have Hm5 := Lib.hid (hm4.out.later hb5)
            have HB5 : Hid (w5.heap[B]? = some (.cells (KA F s) 45 (0, 0))) := Lib.hid ((hb5.block B (Array.getElem?_eq_some_iff.1 HB4.out).1).trans HB4.out)
            have HC5 := Lib.hid (HC4.out.but (But.of hb5))
            have Hrow5 := Lib.hid Hm5.out.2.1
            have IHx := Lib.hid (IH.out (stp s (X, Y)) (nxA g o N) N (o + 2) RS w5 HG2 HC5 Hrow5 HRz (fun h => ⟨if_neg h, rfl⟩))
            clear hb5
            refine wpAny_ready (rs := [6]) (by kernel_rfl) (by simp) ?_
            refine AllReady.cons rfl (fun K hK => ?_) AllReady.nil
            go_simp
            go_wp2_with (go_at_call 23; go_loud (with_reducible refine IHx.out.mono ?_); rintro e w6 ⟨rfl, hf6⟩)
            try (refine hK _ _ ?_; clear hK K)
            have Hf6 := Lib.hid hf6
            clear hf6
            refine wpAny_done (by kernel_rfl) ?_ _
            rw [Hres.out] at Hf6
            rw [Hres.out]
            obtain ⟨R2, hR2⟩ := fill_next Hm5.out Hf6.out
            have HR2 := Lib.hid hR2
            have Hno2 : Hid (fs (tryI (fpI (whI F) ch N) ch s) (k + 1) = none) := Lib.hid (by rw [fs_next Hno.out, Htry.out]; rfl)
            have Hbu := Lib.hid (fill_but Hf6.out)
            have HB7 := Lib.hid (Hbu.out.row HB5.out HgB.out)
            have HC7 := Lib.hid (HC5.out.but Hbu.out)
            clear hR2
            go_wp2_with fail
            go_roundw
            case rel => exact ⟨k + 1, R2, by omega, by go_num, Hno2, HR2, HB7, HC7⟩
            case measure => simp [intOf]; omega
          refine AllReady.cons rfl (fun K hK => ?_) AllReady.nil
          go_simp
          try (refine hK _ _ ?_; clear hK K)
          refine wpAny_ready (rs := [2]) (by kernel_rfl) (by simp) ?_
          refine AllReady.cons rfl (fun K hK => ?_) AllReady.nil
          refine step_load_row rfl 45 (.tmp 4) rfl B rfl 45 (KA F s) (0, 0) _ HB4.out Try.underlying45 ⟨_, rfl⟩ (by rw [info45, KA_size]) ?_
          try (refine hK _ _ ?_; clear hK K)
          refine wpAny_ready (rs := [4]) (by kernel_rfl) (by simp) ?_
          refine AllReady.cons rfl (fun K hK => ?_) AllReady.nil
          go_simp
          go_wp2_with (go_at_call 36; (with_reducible refine (behind_st F s X Y W4 Hsm.out hX0 hXY hY10).mono ?_); rintro e w5 ⟨rfl, hb5⟩)
          try (refine hK _ _ ?_; clear hK K)
          have Hm5 := Lib.hid (hm4.out.later hb5)
          have HB5 : Hid (w5.heap[B]? = some (.cells (KA F s) 45 (0, 0))) := Lib.hid ((hb5.block B (Array.getElem?_eq_some_iff.1 HB4.out).1).trans HB4.out)
          have HC5 := Lib.hid (HC4.out.but (But.of hb5))
          have Hrow5 := Lib.hid Hm5.out.2.1
          have IHx := Lib.hid (IH.out (stp s (X, Y)) (nxA g o N) N (o + 2) RS w5 HG2 HC5 Hrow5 HRz (fun h => ⟨if_neg h, rfl⟩))
          clear hb5
          refine wpAny_ready (rs := [6]) (by kernel_rfl) (by simp) ?_
          refine AllReady.cons rfl (fun K hK => ?_) AllReady.nil
          go_simp
          go_wp2_with (go_at_call 23; go_loud (with_reducible refine IHx.out.mono ?_); rintro e w6 ⟨rfl, hf6⟩)
          try (refine hK _ _ ?_; clear hK K)
          have Hf6 := Lib.hid hf6
          clear hf6
          refine wpAny_done (by kernel_rfl) ?_ _
          rw [Hres.out] at Hf6
          rw [Hres.out]
          obtain ⟨R2, hR2⟩ := fill_next Hm5.out Hf6.out
          have HR2 := Lib.hid hR2
          have Hno2 : Hid (fs (tryI (fpI (whI F) ch N) ch s) (k + 1) = none) := Lib.hid (by rw [fs_next Hno.out, Htry.out]; rfl)
          have Hbu := Lib.hid (fill_but Hf6.out)
          have HB7 := Lib.hid (Hbu.out.row HB5.out HgB.out)
          have HC7 := Lib.hid (HC5.out.but Hbu.out)
          clear hR2
          go_wp2_with fail
          go_roundw
          case rel => exact ⟨k + 1, R2, by omega, by go_num, Hno2, HR2, HB7, HC7⟩
          case measure => simp [intOf]; omega
        · refine wpAny_take (i := 0) (v := ?_) rfl (by kernel_rfl) (by kernel_rfl) (by kernel_rfl) (fun _ _ _ h => h) (Or.inl ⟨by rfl, ?y0⟩) ?_
          case y0 => intro w; go_simp; first | done | with_reducible rfl
          refine wpAny_take (i := 1) (v := .slice (nxA g o N) N N) rfl (by kernel_rfl) (by kernel_rfl) (by kernel_rfl) (fun _ _ _ h => h) (Or.inl ⟨by rfl, ?y1⟩) ?_
          case y1 => intro w; go_simp; first | done | rfl
          refine wpAny_take (i := 5) (v := ?_) rfl (by kernel_rfl) (by kernel_rfl) (by kernel_rfl) (fun _ _ _ h => h) (Or.inl ⟨by rfl, ?y5⟩) ?_
          case y5 => intro w; go_simp; first | done | with_reducible rfl
          refine wpAny_ready (rs := [2, 3]) (by kernel_rfl) (by simp) ?_
          refine AllReady.cons rfl (fun K hK => ?_) ?_
          · refine step_load_row rfl 45 (.tmp 4) rfl B rfl 45 (KA F s) (0, 0) _ HB4.out Try.underlying45 ⟨_, rfl⟩ (by rw [info45, KA_size]) ?_
            try (refine hK _ _ ?_; clear hK K)
            refine wpAny_ready (rs := [3]) (by kernel_rfl) (by simp) ?_
            refine AllReady.cons rfl (fun K hK => ?_) AllReady.nil
            go_simp
            try (refine hK _ _ ?_; clear hK K)
            refine wpAny_ready (rs := [4]) (by kernel_rfl) (by simp) ?_
            refine AllReady.cons rfl (fun K hK => ?_) AllReady.nil
            go_simp
            go_wp2_with (go_at_call 36; (with_reducible refine (behind_st F s X Y W4 Hsm.out hX0 hXY hY10).mono ?_); rintro e w5 ⟨rfl, hb5⟩)
            try (refine hK _ _ ?_; clear hK K)
            have Hm5 := Lib.hid (hm4.out.later hb5)
            have HB5 : Hid (w5.heap[B]? = some (.cells (KA F s) 45 (0, 0))) := Lib.hid ((hb5.block B (Array.getElem?_eq_some_iff.1 HB4.out).1).trans HB4.out)
            have HC5 := Lib.hid (HC4.out.but (But.of hb5))
            have Hrow5 := Lib.hid Hm5.out.2.1
            have IHx := Lib.hid (IH.out (stp s (X, Y)) (nxA g o N) N (o + 2) RS w5 HG2 HC5 Hrow5 HRz (fun h => ⟨if_neg h, rfl⟩))
            clear hb5
            refine wpAny_ready (rs := [6]) (by kernel_rfl) (by simp) ?_
            refine AllReady.cons rfl (fun K hK => ?_) AllReady.nil
            go_simp
            go_wp2_with (go_at_call 23; go_loud (with_reducible refine IHx.out.mono ?_); rintro e w6 ⟨rfl, hf6⟩)
            try (refine hK _ _ ?_; clear hK K)
            have Hf6 := Lib.hid hf6
            clear hf6
            refine wpAny_done (by kernel_rfl) ?_ _
            rw [Hres.out] at Hf6
            rw [Hres.out]
            have Hall : Hid (fpI (whI F) ch (N + 1) s = some ((X, Y) :: l)) := Lib.hid (by rw [fpI]; exact fs_at Hno.out (by rw [← HnC.out]; exact hlt) (by rw [Htry.out]; rfl))
            have HF := Lib.hid (fill_done (by rw [HRS.out]; exact Hm5.out) HR1z.out (by rw [HRS.out]; exact Hf6.out))
            go_wp2_with fail
            go_ret
            rw [Hall.out]
            exact ⟨rfl, HF.out⟩
          refine AllReady.cons rfl (fun K hK => ?_) AllReady.nil
          go_simp
          try (refine hK _ _ ?_; clear hK K)
          refine wpAny_ready (rs := [2]) (by kernel_rfl) (by simp) ?_
          refine AllReady.cons rfl (fun K hK => ?_) AllReady.nil
          refine step_load_row rfl 45 (.tmp 4) rfl B rfl 45 (KA F s) (0, 0) _ HB4.out Try.underlying45 ⟨_, rfl⟩ (by rw [info45, KA_size]) ?_
          try (refine hK _ _ ?_; clear hK K)
          refine wpAny_ready (rs := [4]) (by kernel_rfl) (by simp) ?_
          refine AllReady.cons rfl (fun K hK => ?_) AllReady.nil
          go_simp
          go_wp2_with (go_at_call 36; (with_reducible refine (behind_st F s X Y W4 Hsm.out hX0 hXY hY10).mono ?_); rintro e w5 ⟨rfl, hb5⟩)
          try (refine hK _ _ ?_; clear hK K)
          have Hm5 := Lib.hid (hm4.out.later hb5)
          have HB5 : Hid (w5.heap[B]? = some (.cells (KA F s) 45 (0, 0))) := Lib.hid ((hb5.block B (Array.getElem?_eq_some_iff.1 HB4.out).1).trans HB4.out)
          have HC5 := Lib.hid (HC4.out.but (But.of hb5))
          have Hrow5 := Lib.hid Hm5.out.2.1
          have IHx := Lib.hid (IH.out (stp s (X, Y)) (nxA g o N) N (o + 2) RS w5 HG2 HC5 Hrow5 HRz (fun h => ⟨if_neg h, rfl⟩))
          clear hb5
          refine wpAny_ready (rs := [6]) (by kernel_rfl) (by simp) ?_
          refine AllReady.cons rfl (fun K hK => ?_) AllReady.nil
          go_simp
          go_wp2_with (go_at_call 23; go_loud (with_reducible refine IHx.out.mono ?_); rintro e w6 ⟨rfl, hf6⟩)
          try (refine hK _ _ ?_; clear hK K)
          have Hf6 := Lib.hid hf6
          clear hf6
          refine wpAny_done (by kernel_rfl) ?_ _
          rw [Hres.out] at Hf6
          rw [Hres.out]
          have Hall : Hid (fpI (whI F) ch (N + 1) s = some ((X, Y) :: l)) := Lib.hid (by rw [fpI]; exact fs_at Hno.out (by rw [← HnC.out]; exact hlt) (by rw [Htry.out]; rfl))
          have HF := Lib.hid (fill_done (by rw [HRS.out]; exact Hm5.out) HR1z.out (by rw [HRS.out]; exact Hf6.out))
          go_wp2_with fail
          go_ret
          rw [Hall.out]
          exact ⟨rfl, HF.out⟩
      · have Hno2 : Hid (fs (tryI (fpI (whI F) ch N) ch s) (k + 1) = none) := Lib.hid (by rw [fs_next Hno.out]; exact tryI_idle HXe.out HYe.out hid)
        clear hid
        go_wp2_with fail
        go_roundw
        case rel => exact ⟨k + 1, R1, by omega, by go_num, Hno2, HM5, HB5, HC5⟩
        case measure => simp [intOf]; omega
    · obtain rfl : k = nC := by omega
      have hr : fpI (whI F) ch (N + 1) s = none := by rw [fpI, ← HnC.out]; exact Hno.out
      have Hr := Lib.hid hr
      have HF : Hid (Fill g o R none w wr) := Lib.hid ⟨R1, HM.out, fun l h => by cases h⟩
      clear hr
      go_wp2_with fail
      go_ret
      rw [Hr.out]
      exact ⟨rfl, HF.out⟩

end Go.Proofs.Ytckkcmaajmphfaa
