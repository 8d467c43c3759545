/- The list of a set of news, in the program. -/
import Derived.Test.YtjdanppciginkaaKnow
import Derived.Test.YtjdanppciginkaaInts
namespace Go.Proofs.Ytjdanppciginkaa
open Go.ChangeShapes Go.WideShapes Go.ChangeAt Go.RowKit

/-- How many news are in a set. -/
def pc (n : Nat) : Nat := ((List.range 10).filter fun i => n.testBit i).length

theorem fold2 : (⟨(List.append (List.append ([0, 1, 1, 2, 1, 2, 2, 3, 1, 2, 2, 3, 2, 3, 3, 4, 1, 2, 2, 3, 2, 3, 3, 4, 2, 3, 3, 4, 3, 4, 4, 5, 1, 2, 2, 3, 2, 3, 3, 4, 2, 3, 3, 4, 3, 4, 4, 5, 2, 3, 3, 4, 3, 4, 4, 5, 3, 4, 4, 5, 4, 5, 5, 6] : List UInt8) [1, 2, 2, 3, 2, 3, 3, 4, 2, 3, 3, 4, 3, 4, 4, 5, 2, 3, 3, 4, 3, 4, 4, 5, 3, 4, 4, 5, 4, 5, 5, 6, 2, 3, 3, 4, 3, 4, 4, 5, 3, 4, 4, 5, 4, 5, 5, 6, 3, 4, 4, 5, 4, 5, 5, 6, 4, 5, 5, 6, 5, 6, 6, 7]) (List.append [1, 2, 2, 3, 2, 3, 3, 4, 2, 3, 3, 4, 3, 4, 4, 5, 2, 3, 3, 4, 3, 4, 4, 5, 3, 4, 4, 5, 4, 5, 5, 6, 2, 3, 3, 4, 3, 4, 4, 5, 3, 4, 4, 5, 4, 5, 5, 6, 3, 4, 4, 5, 4, 5, 5, 6, 4, 5, 5, 6, 5, 6, 6, 7] [2, 3, 3, 4, 3, 4, 4, 5, 3, 4, 4, 5, 4, 5, 5, 6, 3, 4, 4, 5, 4, 5, 5, 6, 4, 5, 5, 6, 5, 6, 6, 7, 3, 4, 4, 5, 4, 5, 5, 6, 4, 5, 5, 6, 5, 6, 6, 7, 4, 5, 5, 6, 5, 6, 6, 7, 5, 6, 6, 7, 6, 7, 7, 8])).toArray⟩ : ByteArray) = Lib.pop8tab := by kernel_rfl

theorem pc_tab : ∀ n : Fin 1024, (Lib.pop8 ((n.val / 256 : Nat) : Int) + Lib.pop8 ((n.val &&& 255 : Nat) : Int)) = (pc n.val : Int) ∧ 0 ≤ Lib.pop8 ((n.val / 256 : Nat) : Int) ∧ 0 ≤ Lib.pop8 ((n.val &&& 255 : Nat) : Int) ∧ pc n.val ≤ 10 := by decide +kernel

theorem bits_and_nat (x y : Nat) (hx : x < 1024) (hy : y < 1024) : bits BinOp.and IntKind.u16 x y = ((x &&& y : Nat) : Int) := by
  have hx2 : x &&& y < 2 ^ 10 := Nat.and_lt_two_pow (n := 10) _ hy
  have h1 : (BitVec.ofInt 16 (x : Int)).toNat = x := by
    rw [BitVec.ofInt_natCast, BitVec.toNat_ofNat]; exact Nat.mod_eq_of_lt (by omega)
  have h2 : (BitVec.ofInt 16 (y : Int)).toNat = y := by
    rw [BitVec.ofInt_natCast, BitVec.toNat_ofNat]; exact Nat.mod_eq_of_lt (by omega)
  show IntKind.u16.wrap ((BitVec.ofInt 16 (x : Int) &&& BitVec.ofInt 16 (y : Int)).toNat : Int) = _
  rw [BitVec.toNat_and, h1, h2, IntKind.wrap_u16]
  omega

set_option maxRecDepth 100000 in
theorem OnesCount16_any (x : Nat) (w : World) (hx : x < 1024) :
    Calls Try.prog 51 #[.int .u16 x] w fun e w' => e = .returned (.int .i64 (pc x)) ∧ Below w.heap.size w w' := by
  have hp := pc_tab ⟨x, hx⟩
  have e1 : bits BinOp.and IntKind.u16 (x : Int) 255 = ((x &&& 255 : Nat) : Int) := bits_and_nat x 255 hx (by decide)
  have e2 : ((x / 256 : Nat) : Int) = (x : Int) / 256 := by omega
  have a0 : (0 : Int) ≤ (x : Int) / 256 := by omega
  have a1 : (x : Int) / 256 ≤ 255 := by omega
  have hn : x &&& 255 ≤ 255 := Nat.and_le_right
  have b0 : 0 ≤ bits BinOp.and IntKind.u16 (x : Int) 255 := by rw [e1]; omega
  have b1 : bits BinOp.and IntKind.u16 (x : Int) 255 ≤ 255 := by rw [e1]; omega
  simp only [e2] at hp
  have c0 : 0 ≤ Lib.pop8 ((x : Int) / 256) := hp.2.1
  have c1 : 0 ≤ Lib.pop8 (bits BinOp.and IntKind.u16 (x : Int) 255) := by rw [e1]; exact hp.2.2.1
  have HS : Hid (Lib.pop8 ((x : Int) / 256) + Lib.pop8 (bits BinOp.and IntKind.u16 (x : Int) 255) = (pc x : Int)) := by show _ = _; rw [e1]; exact hp.1
  have c2 : Lib.pop8 ((x : Int) / 256) + Lib.pop8 (bits BinOp.and IntKind.u16 (x : Int) 255) ≤ 10 := by rw [HS.out]; have := hp.2.2.2; omega
  clear hp e1 e2 hn
  go_enter Try.func51, Try.ntmps51
  go_wp2_with fail
  simp only [fold2]
  go_quiet (fail)
  go_wp2_with fail

  go_ret
  exact ⟨ret_int HS.out, below_drewN (Below.refl _ _) _⟩

theorem pc_le : ∀ n : Fin 1024, pc n.val ≤ 10 := by decide +kernel

theorem setCount_any (x : Nat) (w : World) (hx : x < 1024) :
    Calls Try.prog 42 #[.int .u16 x] w fun e w' => e = .returned (.int .i64 (pc x)) ∧ Below w.heap.size w w' := by
  go_enter Try.func42, Try.ntmps42
  go_wp2_with fail
  refine (OnesCount16_any x w hx).mono ?_
  rintro e w1 ⟨rfl, hb⟩
  go_wp2_with fail
  go_ret
  exact ⟨rfl, hb⟩

theorem wrap_pow16 : ∀ k : Nat, k < 10 → IntKind.u16.wrap ((2 : Int) ^ k) = ((2 ^ k : Nat) : Int) := wrap_pow

theorem pow_small : ∀ k : Nat, k < 10 → 2 ^ k < 1024 := by decide

theorem and_pow (n x : Nat) : n &&& 2 ^ x = if n.testBit x then 2 ^ x else 0 := by
  apply Nat.eq_of_testBit_eq
  intro i
  rw [Nat.testBit_and, Nat.testBit_two_pow]
  by_cases h : x = i
  · subst h
    cases hb : n.testBit x <;> simp [Nat.testBit_two_pow_self]
  · cases hb : n.testBit x <;> simp [h]

theorem has_test (n x : Nat) (hn : n < 1024) (hx : x < 10) : (bits BinOp.and IntKind.u16 (n : Int) (IntKind.u16.wrap (2 ^ x)) != 0) = n.testBit x := by
  rw [wrap_pow16 x hx, bits_and_nat n (2 ^ x) hn (pow_small x hx), and_pow]
  have hp : 0 < 2 ^ x := Nat.two_pow_pos x
  cases n.testBit x
  · simp
  · simp only [if_true]; rw [bne_iff_ne]; omega

theorem has_any (n x : Nat) (w : World) (hn : n < 1024) (hx : x < 10) :
    Calls Try.prog 43 #[.int .u16 n, .int .i64 x] w fun e w' => e = .returned (.bool (n.testBit x)) ∧ w = w' := by
  have HT := Lib.hid (has_test n x hn hx)
  go_enter Try.func43, Try.ntmps43
  go_wp2
  go_ret
  exact ⟨ret_bool HT.out, rfl⟩

/-- The digits 1 among the first k. -/
def bl (x k : Nat) : List Int := ((List.range k).filter fun i => x.testBit i).map fun (i : Nat) => (i : Int)

theorem bl_length (x : Nat) : (bl x 10).length = pc x := by simp [bl, pc]

theorem bl_yes (x k : Nat) (h : x.testBit k = true) : bl x (k + 1) = bl x k ++ [(k : Int)] := by simp [bl, List.range_succ, List.filter_append, h]

theorem bl_no (x k : Nat) (h : x.testBit k = false) : bl x (k + 1) = bl x k := by simp [bl, List.range_succ, List.filter_append, h]

theorem bl_le (x k : Nat) : (bl x k).length ≤ k := by
  have := List.length_filter_le (fun i => x.testBit i) (List.range k)
  simpa [bl] using this

theorem bl_done (x k : Nat) (h : x / 2 ^ k = 0) : ∀ d, bl x (k + d) = bl x k := by
  intro d
  induction d with
  | zero => rfl
  | succ d ih =>
    rw [← Nat.add_assoc, bl_no, ih]
    rw [Nat.testBit_eq_decide_div_mod_eq]
    have hlt : x < 2 ^ k := by
      rcases Nat.lt_or_ge x (2 ^ k) with h1 | h1
      · exact h1
      · have := Nat.div_pos h1 (Nat.two_pow_pos k); omega
    have hlt2 : x < 2 ^ (k + d) := Nat.lt_of_lt_of_le hlt (Nat.pow_le_pow_right (by decide) (by omega))
    rw [Nat.div_eq_of_lt hlt2]
    rfl

set_option maxRecDepth 20000 in
theorem list_any (x : Nat) (w : World) (hx : x < 1024) :
    Calls Try.prog 23 #[.int .u16 x] w fun e w' => ∃ v, e = .returned v ∧ w'.ownsRow w.heap.size 3 1 v (pc x) (ns (bl x 10)) ∧ Below w.heap.size w w' := by
  obtain ⟨i0, hi, hz0, hz1, hz2⟩ := info_parts info3
  have hpc : pc x ≤ 10 := by have := bl_le x 10; rw [bl_length] at this; exact this
  go_enter Try.func23, Try.ntmps23
  go_wp2_with fail
  refine (setCount_any x w hx).mono ?_
  rintro e w1 ⟨rfl, hb1⟩
  have hs1 := hb1.size
  go_wp2_with (refine wpList_make_own _ rfl _ _ 38 rfl w.heap.size 3 i0 (.int .i64 0) 1 Try.underlying38 hi hz0 hz1 .i64 .i64 _ (pc x) rfl rfl rfl ?_ ?_ ?_ ?_)
  · rw [hz2]; omega
  · unfold maxLen; omega
  · exact hs1
  intro w2 hown hgr
  have Hown0 := Lib.hid hown
  have Hb2 := Lib.hid (hb1.grown hgr hs1 (fun _ h => by cases h))
  clear hown hgr hb1
  go_wp2_with fail
  go_loopw [3, 8] (fun v i wr => ∃ k : Nat, k ≤ 10 ∧ i = .int .i64 k ∧ wr.ownsRow w.heap.size 3 1 v (bl x k).length (ns (bl x k)) ∧ Below w.heap.size w wr) (fun _ i _ => 10 - (intOf i).toNat)
  case atStart => exact ⟨0, Nat.zero_le _, rfl, Hown0.out, Hb2.out⟩
  case round =>
    obtain ⟨k, hk, rfl, hor, hbel⟩ := hrel
    by_cases hlt : k < 10
    · have hsz := hbel.size
      have hle := bl_le x k
      cases ht : x.testBit k
      · have hor2 := hor
        rw [← bl_no x k ht] at hor2
        have Hor := Lib.hid hor2
        have Ht := Lib.hid ht
        clear hor2 hor ht
        go_wp2_with fail
        refine (has_any x k wr hx hlt).mono ?_
        rintro e w' ⟨rfl, rfl⟩
        rw [Ht.out]
        go_wp2_with fail
        go_roundw
        case rel => exact ⟨k + 1, by omega, by go_num, Hor.out, hbel⟩
        case measure => simp [intOf]; omega
      · have Hyes := Lib.hid (bl_yes x k ht)
        have Ht := Lib.hid ht
        have Hor := Lib.hid hor
        clear ht hor
        go_wp2_with fail
        refine (has_any x k wr hx hlt).mono ?_
        rintro e w' ⟨rfl, rfl⟩
        rw [Ht.out]
        go_wp2_with (at_builtin; refine wpList_append_own _ rfl _ _ 38 rfl w.heap.size 3 i0 (.int .i64 0) 1 8 Try.underlying38 hi hz0 hz1 hz2 rfl (by decide) _ _ _ rfl (Hor.out.alloc _) ⟨wr.heap.size, 0, none⟩ 1 1 [.int .i64 k] rfl rfl ?c1 ?c2 ?c3 ?c4 ?c5 ?_)
        case c1 => exact World.news_of_block (cs := #[.int .i64 k]) (t := 3) (fr := (0, 0)) (heap_alloc_new _ _)
        case c2 => intro u hu; simp at hu; subst hu; rfl
        case c3 => unfold maxLen; omega
        case c4 => omega
        case c5 => simp; omega
        intro v' w6 hown' hgr _
        have Hown := Lib.hid hown'
        have Hbel := Lib.hid ((hbel.alloc hsz _).grown hgr (by simp; omega) (fun b hb => (Hor.out.lt b hb).1))
        clear hown' hgr hbel
        go_wp2_with fail
        go_roundw
        case rel => exact ⟨k + 1, by omega, by go_num, by rw [Hyes.out, ns_append, List.length_append]; exact Hown.out, Hbel.out⟩
        case measure => simp [intOf]; omega
    · obtain rfl : k = 10 := by omega
      rw [bl_length] at hor
      have Hor := Lib.hid hor
      clear hor hlt hk
      go_wp2_with fail
      go_ret
      exact ⟨_, rfl, Hor.out, hbel⟩
end Go.Proofs.Ytjdanppciginkaa
