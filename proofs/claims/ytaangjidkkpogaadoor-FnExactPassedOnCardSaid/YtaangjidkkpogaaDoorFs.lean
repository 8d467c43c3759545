/- Sets of friends. -/
import Derived.Test.YtaangjidkkpogaaDoorInts
import Derived.Test.YtaangjidkkpogaaDoorUp
import Derived.Test.YtaangjidkkpogaaDoorCls
import Derived.BigQuiet
import Derived.Deep.QuietTactic
namespace Go.Proofs.YtaangjidkkpogaaDoor
open Go.ChangeShapes Go.WideShapes Go.ChangeAt Go.RowKit
set_option linter.unusedVariables false


theorem belowN {B : Nat} {w w' : World} (h : Below B w w') (n : Nat) : Below B w (w'.drewN n) := ⟨h.os, h.tape, h.output, h.size, h.block⟩
theorem wrap_pow : ∀ k : Nat, k < 10 → IntKind.u16.wrap ((2 : Int) ^ k) = ((2 ^ k : Nat) : Int) := by decide
theorem pow_small : ∀ k : Nat, k < 10 → 2 ^ k < 1024 := by decide
/-- How many news are in a set. -/
def pc (n : Nat) : Nat := ((List.range 10).filter fun i => n.testBit i).length

theorem fold2 : (⟨(List.append (List.append ([0, 1, 1, 2, 1, 2, 2, 3, 1, 2, 2, 3, 2, 3, 3, 4, 1, 2, 2, 3, 2, 3, 3, 4, 2, 3, 3, 4, 3, 4, 4, 5, 1, 2, 2, 3, 2, 3, 3, 4, 2, 3, 3, 4, 3, 4, 4, 5, 2, 3, 3, 4, 3, 4, 4, 5, 3, 4, 4, 5, 4, 5, 5, 6] : List UInt8) [1, 2, 2, 3, 2, 3, 3, 4, 2, 3, 3, 4, 3, 4, 4, 5, 2, 3, 3, 4, 3, 4, 4, 5, 3, 4, 4, 5, 4, 5, 5, 6, 2, 3, 3, 4, 3, 4, 4, 5, 3, 4, 4, 5, 4, 5, 5, 6, 3, 4, 4, 5, 4, 5, 5, 6, 4, 5, 5, 6, 5, 6, 6, 7]) (List.append [1, 2, 2, 3, 2, 3, 3, 4, 2, 3, 3, 4, 3, 4, 4, 5, 2, 3, 3, 4, 3, 4, 4, 5, 3, 4, 4, 5, 4, 5, 5, 6, 2, 3, 3, 4, 3, 4, 4, 5, 3, 4, 4, 5, 4, 5, 5, 6, 3, 4, 4, 5, 4, 5, 5, 6, 4, 5, 5, 6, 5, 6, 6, 7] [2, 3, 3, 4, 3, 4, 4, 5, 3, 4, 4, 5, 4, 5, 5, 6, 3, 4, 4, 5, 4, 5, 5, 6, 4, 5, 5, 6, 5, 6, 6, 7, 3, 4, 4, 5, 4, 5, 5, 6, 4, 5, 5, 6, 5, 6, 6, 7, 4, 5, 5, 6, 5, 6, 6, 7, 5, 6, 6, 7, 6, 7, 7, 8])).toArray⟩ : ByteArray) = Lib.pop8tab := by kernel_rfl

theorem pc_tab : ∀ n : Fin 1024, (Lib.pop8 ((n.val / 256 : Nat) : Int) + Lib.pop8 ((n.val &&& 255 : Nat) : Int)) = (pc n.val : Int) ∧ 0 ≤ Lib.pop8 ((n.val / 256 : Nat) : Int) ∧ 0 ≤ Lib.pop8 ((n.val &&& 255 : Nat) : Int) ∧ pc n.val ≤ 10 := by decide +kernel

theorem bits_and_nat (x y : Nat) (hx : x < 1024) (hy : y < 1024) : bits BinOp.and IntKind.u16 x y = ((x &&& y : Nat) : Int) := by
  have hx2 : x &&& y < 2 ^ 10 := Nat.and_lt_two_pow (n := 10) _ hy
  have h1 : (BitVec.ofInt 16 (x : Int)).toNat = x := by
    rw [BitVec.ofInt_natCast, BitVec.toNat_ofNat]; exact Nat.mod_eq_of_lt (by omega)
  have h2 : (BitVec.ofInt 16 (y : Int)).toNat = y := by
    rw [BitVec.ofInt_natCast, BitVec.toNat_ofNat]; exact Nat.mod_eq_of_lt (by omega)
  show IntKind.u16.wrap ((BitVec.ofInt 16 (x : Int) &&& BitVec.ofInt 16 (y : Int)).toNat : Int) = _
  rw [BitVec.toNat_and, h1, h2, IntKind.wrap_u16]
  omega

set_option maxRecDepth 100000 in
theorem OnesCount16_any (x : Nat) (w : World) (hx : x < 1024) :
    Calls Tryd.prog 64 #[.int .u16 x] w fun e w' => e = .returned (.int .i64 (pc x)) ∧ Below w.heap.size w w' := by
  have hp := pc_tab ⟨x, hx⟩
  have e1 : bits BinOp.and IntKind.u16 (x : Int) 255 = ((x &&& 255 : Nat) : Int) := bits_and_nat x 255 hx (by decide)
  have e2 : ((x / 256 : Nat) : Int) = (x : Int) / 256 := by omega
  have a0 : (0 : Int) ≤ (x : Int) / 256 := by omega
  have a1 : (x : Int) / 256 ≤ 255 := by omega
  have hn : x &&& 255 ≤ 255 := Nat.and_le_right
  have b0 : 0 ≤ bits BinOp.and IntKind.u16 (x : Int) 255 := by rw [e1]; omega
  have b1 : bits BinOp.and IntKind.u16 (x : Int) 255 ≤ 255 := by rw [e1]; omega
  simp only [e2] at hp
  have c0 : 0 ≤ Lib.pop8 ((x : Int) / 256) := hp.2.1
  have c1 : 0 ≤ Lib.pop8 (bits BinOp.and IntKind.u16 (x : Int) 255) := by rw [e1]; exact hp.2.2.1
  have HS : Hid (Lib.pop8 ((x : Int) / 256) + Lib.pop8 (bits BinOp.and IntKind.u16 (x : Int) 255) = (pc x : Int)) := by show _ = _; rw [e1]; exact hp.1
  have c2 : Lib.pop8 ((x : Int) / 256) + Lib.pop8 (bits BinOp.and IntKind.u16 (x : Int) 255) ≤ 10 := by rw [HS.out]; have := hp.2.2.2; omega
  clear hp e1 e2 hn
  go_enter Tryd.func64, Tryd.ntmps64
  go_wp2_with fail
  simp only [fold2]
  go_quiet (fail)
  go_wp2_with fail

  go_ret
  exact ⟨ret_int HS.out, belowN (Below.refl _ _) _⟩

theorem pc_le : ∀ n : Fin 1024, pc n.val ≤ 10 := by decide +kernel

theorem setCount_any (x : Nat) (w : World) (hx : x < 1024) :
    Calls Tryd.prog 58 #[.int .u16 x] w fun e w' => e = .returned (.int .i64 (pc x)) ∧ Below w.heap.size w w' := by
  go_enter Tryd.func58, Tryd.ntmps58
  go_wp2_with fail
  refine (OnesCount16_any x w hx).mono ?_
  rintro e w1 ⟨rfl, hb⟩
  go_wp2_with fail
  go_ret
  exact ⟨rfl, hb⟩


def bl (x k : Nat) : List Int := ((List.range k).filter fun i => x.testBit i).map fun (i : Nat) => (i : Int)
theorem bl_length (x : Nat) : (bl x 10).length = pc x := by simp [bl, pc]

theorem bl_yes (x k : Nat) (h : x.testBit k = true) : bl x (k + 1) = bl x k ++ [(k : Int)] := by simp [bl, List.range_succ, List.filter_append, h]

theorem bl_no (x k : Nat) (h : x.testBit k = false) : bl x (k + 1) = bl x k := by simp [bl, List.range_succ, List.filter_append, h]


theorem bl_le (x k : Nat) : (bl x k).length ≤ k := by
  have h := List.length_filter_le (fun i => x.testBit i) (List.range k)
  rw [List.length_range] at h
  simp [bl]; exact h
theorem wrap_pow16 : ∀ k : Nat, k < 10 → IntKind.u16.wrap ((2 : Int) ^ k) = ((2 ^ k : Nat) : Int) := wrap_pow

theorem and_pow (n x : Nat) : n &&& 2 ^ x = if n.testBit x then 2 ^ x else 0 := by
  apply Nat.eq_of_testBit_eq
  intro i
  rw [Nat.testBit_and, Nat.testBit_two_pow]
  by_cases h : x = i
  · subst h
    cases hb : n.testBit x <;> simp [Nat.testBit_two_pow_self]
  · cases hb : n.testBit x <;> simp [h]

theorem has_test (n x : Nat) (hn : n < 1024) (hx : x < 10) : (bits BinOp.and IntKind.u16 (n : Int) (IntKind.u16.wrap (2 ^ x)) != 0) = n.testBit x := by
  rw [wrap_pow16 x hx, bits_and_nat n (2 ^ x) hn (pow_small x hx), and_pow]
  have hp : 0 < 2 ^ x := Nat.two_pow_pos x
  cases n.testBit x
  · simp
  · simp only [if_true]; rw [bne_iff_ne]; omega

theorem has_any (n x : Nat) (w : World) (hn : n < 1024) (hx : x < 10) :
    Calls Tryd.prog 59 #[.int .u16 n, .int .i64 x] w fun e w' => e = .returned (.bool (n.testBit x)) ∧ w = w' := by
  have HT := Lib.hid (has_test n x hn hx)
  go_enter Tryd.func59, Tryd.ntmps59
  go_wp2
  go_ret
  exact ⟨ret_bool HT.out, rfl⟩

set_option maxRecDepth 20000 in
theorem list_any (x : Nat) (w : World) (hx : x < 1024) :
    Calls Tryd.prog 50 #[.int .u16 x] w fun e w' => ∃ v, e = .returned v ∧ w'.ownsRow w.heap.size 3 1 v (pc x) (ns (bl x 10)) ∧ Below w.heap.size w w' := by
  obtain ⟨i0, hi, hz0, hz1, hz2⟩ := info_parts info3
  have hpc : pc x ≤ 10 := by have := bl_le x 10; rw [bl_length] at this; exact this
  go_enter Tryd.func50, Tryd.ntmps50
  go_wp2_with fail
  refine (setCount_any x w hx).mono ?_
  rintro e w1 ⟨rfl, hb1⟩
  have hs1 := hb1.size
  go_wp2_with (refine wpList_make_own _ rfl _ _ 34 rfl w.heap.size 3 i0 (.int .i64 0) 1 Tryd.underlying34 hi hz0 hz1 .i64 .i64 _ (pc x) rfl rfl rfl ?_ ?_ ?_ ?_)
  · rw [hz2]; omega
  · unfold maxLen; omega
  · exact hs1
  intro w2 hown hgr
  have Hown0 := Lib.hid hown
  have Hb2 := Lib.hid (hb1.grown hgr hs1 (fun _ h => by cases h))
  clear hown hgr hb1
  go_wp2_with fail
  go_loopw [3, 8] (fun v i wr => ∃ k : Nat, k ≤ 10 ∧ i = .int .i64 k ∧ wr.ownsRow w.heap.size 3 1 v (bl x k).length (ns (bl x k)) ∧ Below w.heap.size w wr) (fun _ i _ => 10 - (intOf i).toNat)
  case atStart => exact ⟨0, Nat.zero_le _, rfl, Hown0.out, Hb2.out⟩
  case round =>
    obtain ⟨k, hk, rfl, hor, hbel⟩ := hrel
    by_cases hlt : k < 10
    · have hsz := hbel.size
      have hle := bl_le x k
      cases ht : x.testBit k
      · have hor2 := hor
        rw [← bl_no x k ht] at hor2
        have Hor := Lib.hid hor2
        have Ht := Lib.hid ht
        clear hor2 hor ht
        go_wp2_with fail
        refine (has_any x k wr hx hlt).mono ?_
        rintro e w' ⟨rfl, rfl⟩
        rw [Ht.out]
        go_wp2_with fail
        go_roundw
        case rel => exact ⟨k + 1, by omega, by go_num, Hor.out, hbel⟩
        case measure => simp [intOf]; omega
      · have Hyes := Lib.hid (bl_yes x k ht)
        have Ht := Lib.hid ht
        have Hor := Lib.hid hor
        clear ht hor
        go_wp2_with fail
        refine (has_any x k wr hx hlt).mono ?_
        rintro e w' ⟨rfl, rfl⟩
        rw [Ht.out]
        go_wp2_with (at_builtin; refine wpList_append_own _ rfl _ _ 34 rfl w.heap.size 3 i0 (.int .i64 0) 1 8 Tryd.underlying34 hi hz0 hz1 hz2 rfl (by decide) _ _ _ rfl (Hor.out.alloc _) ⟨wr.heap.size, 0, none⟩ 1 1 [.int .i64 k] rfl rfl ?c1 ?c2 ?c3 ?c4 ?c5 ?_)
        case c1 => exact World.news_of_block (cs := #[.int .i64 k]) (t := 3) (fr := (0, 0)) (heap_alloc_new _ _)
        case c2 => intro u hu; simp at hu; subst hu; rfl
        case c3 => unfold maxLen; omega
        case c4 => omega
        case c5 => simp; omega
        intro v' w6 hown' hgr _
        have Hown := Lib.hid hown'
        have Hbel := Lib.hid ((hbel.alloc hsz _).grown hgr (by simp; omega) (fun b hb => (Hor.out.lt b hb).1))
        clear hown' hgr hbel
        go_wp2_with fail
        go_roundw
        case rel => exact ⟨k + 1, by omega, by go_num, by rw [Hyes.out, ns_append, List.length_append]; exact Hown.out, Hbel.out⟩
        case measure => simp [intOf]; omega
    · obtain rfl : k = 10 := by omega
      rw [bl_length] at hor
      have Hor := Lib.hid hor
      clear hor hlt hk
      go_wp2_with fail
      go_ret
      exact ⟨_, rfl, Hor.out, hbel⟩


theorem bl_at {x k i : Nat} (h : i < (bl x k).length) : ∃ u : Nat, na (bl x k) i = u ∧ u < k ∧ x.testBit u = true := by
  have h1 := List.getElem_mem h
  have e : na (bl x k) i = (bl x k)[i] := by simp [na, List.getD_eq_getElem?_getD, h]
  rw [e]
  unfold bl at h1 ⊢
  obtain ⟨u, hu, e2⟩ := List.mem_map.1 h1
  rw [List.mem_filter, List.mem_range] at hu
  exact ⟨u, e2.symm, hu.1, hu.2⟩

/-- A list of numbers that lies apart from what grows. -/
structure Kp (wr : World) (G g : Option Addr) (L : List Int) : Prop where
  here : NumsAt wr g L
  apart : ∀ b off, g = some ⟨b, off, none⟩ → b < wr.heap.size ∧ ∀ a, G = some a → a.block ≠ b/-- Wires of a list but those of another. -/
def clr (a b : Nat) : Nat := a &&& (2 ^ 16 - 1 - b)
theorem clr_le (a b : Nat) : clr a b ≤ a := Nat.and_le_left
theorem clr_bit (a b i : Nat) (hb : b < 1024) (hi : i < 16) : (clr a b).testBit i = (a.testBit i && !b.testBit i) := by
  unfold clr
  rw [Nat.testBit_and, show 2 ^ 16 - 1 - b = 2 ^ 16 - (b + 1) by omega, Nat.testBit_two_pow_sub_succ (by omega)]
  simp [hi]
theorem bits_clr (x y : Nat) (hx : x < 1024) (hy : y < 1024) : bits BinOp.andNot IntKind.u16 (x : Int) (y : Int) = ((clr x y : Nat) : Int) := by
  have h0 := clr_le x y
  have h1 : (BitVec.ofInt 16 (x : Int)).toNat = x := by
    rw [BitVec.ofInt_natCast, BitVec.toNat_ofNat]; exact Nat.mod_eq_of_lt (by omega)
  have h2 : (BitVec.ofInt 16 (y : Int)).toNat = y := by
    rw [BitVec.ofInt_natCast, BitVec.toNat_ofNat]; exact Nat.mod_eq_of_lt (by omega)
  show IntKind.u16.wrap ((BitVec.ofInt 16 (x : Int) &&& ~~~ BitVec.ofInt 16 (y : Int)).toNat : Int) = _
  rw [BitVec.toNat_and, BitVec.toNat_not, h1, h2, IntKind.wrap_u16]
  show (((x &&& (2 ^ 16 - 1 - y) : Nat) : Int)) % 65536 = _
  have h3 : x &&& (2 ^ 16 - 1 - y) = clr x y := rfl
  rw [h3]
  omega

end Go.Proofs.YtaangjidkkpogaaDoor
