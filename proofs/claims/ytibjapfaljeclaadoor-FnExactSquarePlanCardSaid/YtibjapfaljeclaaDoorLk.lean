/- With whom there are pairs: the sets; the program. -/
import Derived.Test.YtibjapfaljeclaaDoorLed
namespace Go.Proofs.YtibjapfaljeclaaDoor
open Go.ChangeShapes Go.WideShapes Go.ChangeAt Go.RowKit
set_option linter.unusedVariables false


def upd (s : Nat → Nat) (i v : Nat) : Nat → Nat := fun j => if j = i then v else s j
/-- Ten sets, in cells. -/
def LA (d : Nat → Nat) : Array Value := ((List.range 10).map fun i => Value.int .u16 (d i)).toArray
theorem LA_size (d : Nat → Nat) : (LA d).size = 10 := by simp [LA]
theorem LA_get (d : Nat → Nat) (i : Nat) (h : i < 10) : (LA d)[i]? = some (.int .u16 (d i)) := by unfold LA; simp [h]
theorem LA_one (d : Nat → Nat) : (LA d).all (·.oneCell') = true := by
  rw [Array.all_eq_true']
  intro x hx
  simp only [LA, List.mem_toArray, List.mem_map] at hx
  obtain ⟨i, _, rfl⟩ := hx
  rfl
theorem LA_set (d : Nat → Nat) (i v : Nat) : (LA d).setIfInBounds i (.int .u16 (v : Int)) = LA (upd d i v) := by
  unfold LA
  rw [List.setIfInBounds_toArray]
  congr 1
  apply List.ext_getElem?
  intro j
  by_cases hj : j < 10
  · by_cases hij : i = j
    · subst hij; rw [List.getElem?_set_self (by simpa using hj)]; simp [upd, hj]
    · rw [List.getElem?_set_ne hij]; simp [upd, hj, Ne.symm hij]
  · rw [List.getElem?_eq_none (by rw [List.length_set]; simp; omega), List.getElem?_eq_none (by simp; omega)]
theorem LA_congr {d e : Nat → Nat} (h : ∀ v, v < 10 → d v = e v) : LA d = LA e := by
  unfold LA
  congr 1
  exact List.map_congr_left fun v hv => by rw [h v (List.mem_range.1 hv)]
def ZL : Array Value := LA fun _ => 0
theorem ZL_eq : ZL = #[.int .u16 0, .int .u16 0, .int .u16 0, .int .u16 0, .int .u16 0, .int .u16 0, .int .u16 0, .int .u16 0, .int .u16 0, .int .u16 0] := rfl

theorem infoL : (Tryd.prog.info? 41).map (fun i => i.size) = some 10 := by kernel_rfl
theorem wrap_pow : ∀ k : Nat, k < 10 → IntKind.u16.wrap ((2 : Int) ^ k) = ((2 ^ k : Nat) : Int) := by decide
theorem pow_small : ∀ k : Nat, k < 10 → 2 ^ k < 1024 := by decide
theorem bits_or_nat (x y : Nat) (hx : x < 1024) (hy : y < 1024) : bits BinOp.or IntKind.u16 x y = ((x ||| y : Nat) : Int) := by
  have hx2 : x ||| y < 2 ^ 10 := Nat.or_lt_two_pow (n := 10) hx hy
  have h1 : (BitVec.ofInt 16 (x : Int)).toNat = x := by
    rw [BitVec.ofInt_natCast, BitVec.toNat_ofNat]; exact Nat.mod_eq_of_lt (by omega)
  have h2 : (BitVec.ofInt 16 (y : Int)).toNat = y := by
    rw [BitVec.ofInt_natCast, BitVec.toNat_ofNat]; exact Nat.mod_eq_of_lt (by omega)
  show IntKind.u16.wrap ((BitVec.ofInt 16 (x : Int) ||| BitVec.ofInt 16 (y : Int)).toNat : Int) = _
  rw [BitVec.toNat_or, h1, h2, IntKind.wrap_u16]
  omega
theorem or_small {x y : Nat} (hx : x < 1024) (hy : y < 1024) : x ||| y < 1024 := Nat.or_lt_two_pow (n := 10) hx hy

/-- A friend is put into the set of another one. -/
def put1 (s : Nat → Nat) (a b : Nat) : Nat → Nat := upd s a (s a ||| 2 ^ b)
/-- With whom there are pairs, among the first k. -/
def lkT (l : List (Int × Int)) : Nat → (Nat → Nat)
  | 0 => fun _ => 0
  | k + 1 => put1 (put1 (lkT l k) (ca l k).toNat (cb l k).toNat) (cb l k).toNat (ca l k).toNat
theorem put1_small {s : Nat → Nat} (h : ∀ v, s v < 1024) {a b : Nat} (hb : b < 10) : ∀ v, put1 s a b v < 1024 := by
  intro v
  unfold put1 upd
  split
  · exact or_small (h a) (pow_small b hb)
  · exact h v
/-- These calls are of two friends each. -/
def twoB (l : List (Int × Int)) : Prop := ∀ i, i < l.length → 0 ≤ ca l i ∧ ca l i < cb l i ∧ cb l i < 10
theorem gd_two {f : Int} {l : List (Int × Int)} (h : gdB f l = true) : twoB l := fun i hi => by
  have h1 := gd_call h hi
  have h2 := gd_fr h
  omega
theorem lk_small {l : List (Int × Int)} (h : twoB l) : ∀ k, k ≤ l.length → ∀ v, lkT l k v < 1024
  | 0, _, v => by show 0 < 1024; decide
  | k + 1, hk, v => by
    have h1 := h k hk
    exact put1_small (put1_small (lk_small h k (by omega)) (by omega)) (by omega) v
theorem put1_bit (s : Nat → Nat) (a b v u : Nat) : (put1 s a b v).testBit u = ((s v).testBit u || (v == a && u == b)) := by
  unfold put1 upd
  by_cases h : v = a
  · subst h
    rw [if_pos rfl, Nat.testBit_or, Nat.testBit_two_pow]
    by_cases e : b = u
    · simp [e]
    · simp [e, Ne.symm e]
  · rw [if_neg h]; simp [h]
/-- Among the first k pairs are these two. -/
def adjT (l : List (Int × Int)) : Nat → Nat → Nat → Bool
  | 0, _, _ => false
  | k + 1, v, u => adjT l k v u || (v == (ca l k).toNat && u == (cb l k).toNat) || (v == (cb l k).toNat && u == (ca l k).toNat)
theorem lk_bit (l : List (Int × Int)) (v u : Nat) : ∀ k, (lkT l k v).testBit u = adjT l k v u
  | 0 => by simp [lkT, adjT]
  | k + 1 => by rw [lkT, put1_bit, put1_bit, lk_bit l v u k, adjT]

set_option maxHeartbeats 1600000 in
set_option maxRecDepth 20000 in
theorem linksOf_any (ao : Option Addr) (cap : Nat) (l : List (Int × Int)) (n : Nat) (w : World) (Hn : Hid (n = l.length)) (hs : n ≤ 1048576) (Hg : Hid (twoB l)) (HA : Hid (CallsAt w ao l)) :
    Calls Tryd.prog 19 #[.slice ao n cap] w fun e w' => e = .returned (.agg (LA (lkT l l.length))) ∧ Below w.heap.size w w' := by
  go_enter Tryd.func19, Tryd.ntmps19
  go_wp2_with fail
  rw [← ZL_eq]
  obtain ⟨B, hB⟩ : ∃ B, B = w.heap.size := ⟨_, rfl⟩
  have HB := Lib.hid hB
  have hZ0 : ((w.alloc (.cells ZL 41)).alloc (.cells ZL 41)).heap[B]? = some (.cells ZL 41 (0, 0)) := by rw [hB, Below.heap_alloc _ _ _ (by simp), heap_alloc_new]
  have hD0 : ((w.alloc (.cells ZL 41)).alloc (.cells ZL 41)).heap[B + 1]? = some (.cells ZL 41 (0, 0)) := by
    rw [hB]
    have := heap_alloc_new (w.alloc (.cells ZL 41)) (.cells ZL 41)
    simpa using this
  have hb0 : Below B w ((w.alloc (.cells ZL 41)).alloc (.cells ZL 41)) := by rw [hB]; exact ((Below.refl _ _).alloc (Nat.le_refl _) _).alloc (by simp) _
  have HD0 := Lib.hid hD0
  have HZ0 := Lib.hid hZ0
  have Hb0 := Lib.hid hb0
  rw [← hB]
  clear hD0 hZ0 hb0 hB
  go_loopw [8] (fun i wr => ∃ k : Nat, k ≤ n ∧ i = .int .i64 k ∧ Hid (wr.heap[B + 1]? = some (.cells (LA (lkT l k)) 41 (0, 0))) ∧ Hid (wr.heap[B]? = some (.cells ZL 41 (0, 0))) ∧ Below B w wr) (fun i _ => n - (intOf i).toNat)
  case atStart => exact ⟨0, Nat.zero_le _, rfl, HD0, HZ0, Hb0.out⟩
  case round =>
    clear HD0 HZ0 Hb0
    obtain ⟨k, hk, rfl, HD, HZ, hbel⟩ := hrel
    by_cases hlt : k < n
    · rcases HA.out with h | ⟨b, off, rfl, hc⟩
      · exact absurd hlt (by rw [Hn.out, h]; simp)
      have hkl : k < l.length := by rw [← Hn.out]; exact hlt
      have hbw : Below w.heap.size w wr := by rw [← HB.out]; exact hbel
      have h0 := cell_old hbw (hc k hkl).1
      have h1 := cell_old hbw (hc k hkl).2
      have hgc := Hg.out k hkl
      obtain ⟨a, ha⟩ := Int.eq_ofNat_of_zero_le hgc.1
      obtain ⟨bb, hbb⟩ := Int.eq_ofNat_of_zero_le (show 0 ≤ cb l k by omega)
      rw [ha] at hgc h0
      rw [hbb] at hgc h1
      have Hsucc : Hid (lkT l (k + 1) = put1 (put1 (lkT l k) a bb) bb a) := Lib.hid (by rw [lkT, ha, hbb, Int.toNat_natCast, Int.toNat_natCast])
      have hsm := lk_small Hg.out k (by omega)
      obtain ⟨S, hS⟩ : ∃ S, lkT l k = S := ⟨_, rfl⟩
      rw [hS] at HD Hsucc hsm
      have ha10 : a < 10 := by omega
      have hb10 : bb < 10 := by omega
      have hab : a ≠ bb := by omega
      have ha2 : (0 : Int) ≤ a := by omega
      have ha3 : (a : Int) < 10 := by omega
      have hb2 : (0 : Int) ≤ bb := by omega
      have hb3 : (bb : Int) < 10 := by omega
      have hk2 : (k : Int) < n := by omega
      obtain ⟨qa, hqa⟩ : ∃ qa, 2 ^ a = qa := ⟨_, rfl⟩
      obtain ⟨qb, hqb⟩ : ∃ qb, 2 ^ bb = qb := ⟨_, rfl⟩
      have hwa : IntKind.u16.wrap ((2 : Int) ^ a) = (qa : Int) := by rw [wrap_pow a ha10, hqa]
      have hwb : IntKind.u16.wrap ((2 : Int) ^ bb) = (qb : Int) := by rw [wrap_pow bb hb10, hqb]
      obtain ⟨sa, hsa⟩ : ∃ sa, S a = sa := ⟨_, rfl⟩
      obtain ⟨sb, hsb⟩ : ∃ sb, S bb = sb := ⟨_, rfl⟩
      have hqa1 : qa < 1024 := by rw [← hqa]; exact pow_small a ha10
      have hqb1 : qb < 1024 := by rw [← hqb]; exact pow_small bb hb10
      have hsa1 : sa < 1024 := by rw [← hsa]; exact hsm a
      have hsb1 : sb < 1024 := by rw [← hsb]; exact hsm bb
      obtain ⟨ra, hra⟩ : ∃ ra, sa ||| qb = ra := ⟨_, rfl⟩
      obtain ⟨rb, hrb⟩ : ∃ rb, sb ||| qa = rb := ⟨_, rfl⟩
      have hoa : bits BinOp.or IntKind.u16 (sa : Int) (qb : Int) = (ra : Int) := by rw [bits_or_nat sa qb hsa1 hqb1, hra]
      have hob : bits BinOp.or IntKind.u16 (sb : Int) (qa : Int) = (rb : Int) := by rw [bits_or_nat sb qa hsb1 hqa1, hrb]
      have HD1 : Hid (upd S a ra = put1 S a bb) := Lib.hid (by rw [put1, hqb, hsa, hra])
      have HD2 : Hid (upd (upd S a ra) bb rb = put1 (put1 S a bb) bb a) := Lib.hid (by
        rw [← HD1.out]
        have e1 : upd S a ra bb = S bb := by simp [upd, Ne.symm hab]
        rw [put1, e1, hqa, hsb, hrb])
      have hsB : B < wr.heap.size := (Array.getElem?_eq_some_iff.1 HZ.out).1
      have hsB1 : B + 1 < wr.heap.size := (Array.getElem?_eq_some_iff.1 HD.out).1
      clear hgc ha hbb hc hS hra hrb hqa hqb hsm
      obtain ⟨w3, hw3⟩ : ∃ w3, wr.alloc (.cells #[.int .i64 a, .int .i64 bb] 35) = w3 := ⟨_, rfl⟩
      have hP3 : w3.heap[wr.heap.size]? = some (.cells #[.int .i64 a, .int .i64 bb] 35 (0, 0)) := by rw [← hw3]; exact heap_alloc_new _ _
      have hD3 : w3.heap[B + 1]? = some (.cells (LA S) 41 (0, 0)) := by rw [← hw3, Below.heap_alloc _ _ _ hsB1]; exact HD.out
      have HZ3 : Hid (w3.heap[B]? = some (.cells ZL 41 (0, 0))) := Lib.hid (by rw [← hw3, Below.heap_alloc _ _ _ hsB]; exact HZ.out)
      have Hb3 : Hid (Below B w w3) := Lib.hid (by rw [← hw3]; exact hbel.alloc (by omega) _)
      have c0 : w3.cell? ⟨wr.heap.size, 0, none⟩ = some (.int .i64 a) := by rw [cell_of_row _ _ _ _ _ _ hP3]; rfl
      have c1 : w3.cell? ⟨wr.heap.size, 1, none⟩ = some (.int .i64 bb) := by rw [cell_of_row _ _ _ _ _ _ hP3]; rfl
      have fa := cell_of_row w3 (B + 1) a _ _ _ hD3
      rw [LA_get _ a ha10, hsa] at fa
      have hfz := frozen_of_row w3 (B + 1) a _ _ hD3
      have HD3 := Lib.hid hD3
      have HP3 := Lib.hid hP3
      have hPB : wr.heap.size ≠ B + 1 := by omega
      clear hD3 hP3 hbel hbw HD HZ
      go_wp2_with fail
      clear hw3 h0 h1
      go_still_tail 9, (by kernel_rfl)
      change wpList _ _ _ _ _ w3.drew
      obtain ⟨w4, hw4⟩ : ∃ w4, (w3.setCell ⟨B + 1, a, none⟩ (.int .u16 (ra : Int))).drew = w4 := ⟨_, rfl⟩
      have hD4 : w4.heap[B + 1]? = some (.cells (LA (upd S a ra)) 41 (0, 0)) := by rw [← hw4, ← LA_set]; exact heap_setCell_same _ _ _ _ _ _ HD3.out
      have hP4 : w4.heap[wr.heap.size]? = some (.cells #[.int .i64 a, .int .i64 bb] 35 (0, 0)) := by rw [← hw4]; exact (heap_setCell_other _ _ _ _ (by show _ ≠ B + 1; omega)).trans HP3.out
      have HZ4 : Hid (w4.heap[B]? = some (.cells ZL 41 (0, 0))) := Lib.hid (by rw [← hw4]; exact (heap_setCell_other _ _ _ _ (by show _ ≠ B + 1; omega)).trans HZ3.out)
      have Hb4 : Hid (Below B w w4) := Lib.hid (by rw [← hw4]; exact (Hb3.out.setCell (by show B ≤ B + 1; omega) _).drew)
      have c04 : w4.cell? ⟨wr.heap.size, 0, none⟩ = some (.int .i64 a) := by rw [cell_of_row _ _ _ _ _ _ hP4]; rfl
      have c14 : w4.cell? ⟨wr.heap.size, 1, none⟩ = some (.int .i64 bb) := by rw [cell_of_row _ _ _ _ _ _ hP4]; rfl
      have fb4 := cell_of_row w4 (B + 1) bb _ _ _ hD4
      rw [LA_get _ bb hb10, show upd S a ra bb = S bb by simp [upd, Ne.symm hab], hsb] at fb4
      have hfz4 := frozen_of_row w4 (B + 1) bb _ _ hD4
      have HD4 := Lib.hid hD4
      clear hD4 hP4
      go_wp2_with fail
      clear hw4 c0 c1 fa hfz HD3 HP3 HZ3 Hb3
      go_still_tail 9, (by kernel_rfl)
      change wpList _ _ _ _ _ w4.drew
      have HD5 : Hid ((w4.setCell ⟨B + 1, bb, none⟩ (.int .u16 (rb : Int))).heap[B + 1]? = some (.cells (LA (lkT l (k + 1))) 41 (0, 0))) := Lib.hid (by rw [Hsucc.out, ← HD2.out, ← LA_set]; exact heap_setCell_same _ _ _ _ _ _ HD4.out)
      have HZ5 : Hid ((w4.setCell ⟨B + 1, bb, none⟩ (.int .u16 (rb : Int))).heap[B]? = some (.cells ZL 41 (0, 0))) := Lib.hid ((heap_setCell_other _ _ _ _ (by show _ ≠ B + 1; omega)).trans HZ4.out)
      have Hb5 : Hid (Below B w (w4.setCell ⟨B + 1, bb, none⟩ (.int .u16 (rb : Int))).drew) := Lib.hid (Hb4.out.setCell (by show B ≤ B + 1; omega) _).drew
      go_wp2_with fail
      go_roundw
      case rel => exact ⟨k + 1, by omega, by go_num, HD5, HZ5, Hb5.out⟩
      case measure => simp [intOf]; omega
    · obtain rfl : k = n := by omega
      have HD' : Hid (wr.heap[B + 1]? = some (.cells (LA (lkT l l.length)) 41 (0, 0))) := Lib.hid (by rw [← Hn.out]; exact HD.out)
      have Hbw : Hid (Below w.heap.size w wr) := Lib.hid (by rw [← HB.out]; exact hbel)
      have HBw := HB.out
      clear hbel HD
      go_upto_region 8 with (fail)
      go_wp2_with (first
        | (with_reducible refine wpList_load_row rfl 41 (.tmp 3) rfl (B + 1) ?q1 41 _ (0, 0) _ HD'.out Tryd.underlying41 rfl ?q3 ?_)
        | (with_reducible refine wpList_store_row rfl 41 (.tmp 2) (.tmp 31) rfl B (LA (lkT l l.length)) ?r1 ?r2 41 _ HZ.out ?r3 ?r4 ?r5 ?_))
      case q1 => rfl
      case q3 => rw [infoL, LA_size]
      case r3 => rw [infoL, LA_size]
      case r4 => rw [ZL, LA_size, LA_size]
      case r5 => exact LA_one _
      refine bodyPost_ret (results_cell_row rfl _ _ B 41 _ (0, 0) _ rfl (setRow_heap _ _ _ _ _ _ HZ.out) Tryd.underlying41 rfl ?_) rfl ⟨rfl, below_setRow Hbw.out (by omega) _⟩
      rw [infoL, LA_size]

end Go.Proofs.YtibjapfaljeclaaDoor
