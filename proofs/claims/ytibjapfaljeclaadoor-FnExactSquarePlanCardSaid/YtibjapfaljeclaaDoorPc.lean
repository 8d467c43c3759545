/- How many are in a set: the program. -/
import Derived.Test.YtibjapfaljeclaaDoorLk
import Derived.Test.YtibjapfaljeclaaDoorInts
namespace Go.Proofs.YtibjapfaljeclaaDoor
open Go.ChangeShapes Go.WideShapes Go.ChangeAt Go.RowKit
set_option linter.unusedVariables false

/-- How many news are in a set. -/
def pc (n : Nat) : Nat := ((List.range 10).filter fun i => n.testBit i).length

theorem fold2 : (⟨(List.append (List.append ([0, 1, 1, 2, 1, 2, 2, 3, 1, 2, 2, 3, 2, 3, 3, 4, 1, 2, 2, 3, 2, 3, 3, 4, 2, 3, 3, 4, 3, 4, 4, 5, 1, 2, 2, 3, 2, 3, 3, 4, 2, 3, 3, 4, 3, 4, 4, 5, 2, 3, 3, 4, 3, 4, 4, 5, 3, 4, 4, 5, 4, 5, 5, 6] : List UInt8) [1, 2, 2, 3, 2, 3, 3, 4, 2, 3, 3, 4, 3, 4, 4, 5, 2, 3, 3, 4, 3, 4, 4, 5, 3, 4, 4, 5, 4, 5, 5, 6, 2, 3, 3, 4, 3, 4, 4, 5, 3, 4, 4, 5, 4, 5, 5, 6, 3, 4, 4, 5, 4, 5, 5, 6, 4, 5, 5, 6, 5, 6, 6, 7]) (List.append [1, 2, 2, 3, 2, 3, 3, 4, 2, 3, 3, 4, 3, 4, 4, 5, 2, 3, 3, 4, 3, 4, 4, 5, 3, 4, 4, 5, 4, 5, 5, 6, 2, 3, 3, 4, 3, 4, 4, 5, 3, 4, 4, 5, 4, 5, 5, 6, 3, 4, 4, 5, 4, 5, 5, 6, 4, 5, 5, 6, 5, 6, 6, 7] [2, 3, 3, 4, 3, 4, 4, 5, 3, 4, 4, 5, 4, 5, 5, 6, 3, 4, 4, 5, 4, 5, 5, 6, 4, 5, 5, 6, 5, 6, 6, 7, 3, 4, 4, 5, 4, 5, 5, 6, 4, 5, 5, 6, 5, 6, 6, 7, 4, 5, 5, 6, 5, 6, 6, 7, 5, 6, 6, 7, 6, 7, 7, 8])).toArray⟩ : ByteArray) = Lib.pop8tab := by kernel_rfl

theorem pc_tab : ∀ n : Fin 1024, (Lib.pop8 ((n.val / 256 : Nat) : Int) + Lib.pop8 ((n.val &&& 255 : Nat) : Int)) = (pc n.val : Int) ∧ 0 ≤ Lib.pop8 ((n.val / 256 : Nat) : Int) ∧ 0 ≤ Lib.pop8 ((n.val &&& 255 : Nat) : Int) ∧ pc n.val ≤ 10 := by decide +kernel

theorem bits_and_nat (x y : Nat) (hx : x < 1024) (hy : y < 1024) : bits BinOp.and IntKind.u16 x y = ((x &&& y : Nat) : Int) := by
  have hx2 : x &&& y < 2 ^ 10 := Nat.and_lt_two_pow (n := 10) _ hy
  have h1 : (BitVec.ofInt 16 (x : Int)).toNat = x := by
    rw [BitVec.ofInt_natCast, BitVec.toNat_ofNat]; exact Nat.mod_eq_of_lt (by omega)
  have h2 : (BitVec.ofInt 16 (y : Int)).toNat = y := by
    rw [BitVec.ofInt_natCast, BitVec.toNat_ofNat]; exact Nat.mod_eq_of_lt (by omega)
  show IntKind.u16.wrap ((BitVec.ofInt 16 (x : Int) &&& BitVec.ofInt 16 (y : Int)).toNat : Int) = _
  rw [BitVec.toNat_and, h1, h2, IntKind.wrap_u16]
  omega

set_option maxRecDepth 100000 in
theorem OnesCount16_any (x : Nat) (w : World) (hx : x < 1024) :
    Calls Tryd.prog 66 #[.int .u16 x] w fun e w' => e = .returned (.int .i64 (pc x)) ∧ Below w.heap.size w w' := by
  have hp := pc_tab ⟨x, hx⟩
  have e1 : bits BinOp.and IntKind.u16 (x : Int) 255 = ((x &&& 255 : Nat) : Int) := bits_and_nat x 255 hx (by decide)
  have e2 : ((x / 256 : Nat) : Int) = (x : Int) / 256 := by omega
  have a0 : (0 : Int) ≤ (x : Int) / 256 := by omega
  have a1 : (x : Int) / 256 ≤ 255 := by omega
  have hn : x &&& 255 ≤ 255 := Nat.and_le_right
  have b0 : 0 ≤ bits BinOp.and IntKind.u16 (x : Int) 255 := by rw [e1]; omega
  have b1 : bits BinOp.and IntKind.u16 (x : Int) 255 ≤ 255 := by rw [e1]; omega
  simp only [e2] at hp
  have c0 : 0 ≤ Lib.pop8 ((x : Int) / 256) := hp.2.1
  have c1 : 0 ≤ Lib.pop8 (bits BinOp.and IntKind.u16 (x : Int) 255) := by rw [e1]; exact hp.2.2.1
  have HS : Hid (Lib.pop8 ((x : Int) / 256) + Lib.pop8 (bits BinOp.and IntKind.u16 (x : Int) 255) = (pc x : Int)) := by show _ = _; rw [e1]; exact hp.1
  have c2 : Lib.pop8 ((x : Int) / 256) + Lib.pop8 (bits BinOp.and IntKind.u16 (x : Int) 255) ≤ 10 := by rw [HS.out]; have := hp.2.2.2; omega
  clear hp e1 e2 hn
  go_enter Tryd.func66, Tryd.ntmps66
  go_wp2_with fail
  simp only [fold2]
  go_quiet (fail)
  go_wp2_with fail

  go_ret
  exact ⟨ret_int HS.out, belowN (Below.refl _ _) _⟩

theorem pc_le : ∀ n : Fin 1024, pc n.val ≤ 10 := by decide +kernel

theorem setCount_any (x : Nat) (w : World) (hx : x < 1024) :
    Calls Tryd.prog 62 #[.int .u16 x] w fun e w' => e = .returned (.int .i64 (pc x)) ∧ Below w.heap.size w w' := by
  go_enter Tryd.func62, Tryd.ntmps62
  go_wp2_with fail
  refine (OnesCount16_any x w hx).mono ?_
  rintro e w1 ⟨rfl, hb⟩
  go_wp2_with fail
  go_ret
  exact ⟨rfl, hb⟩


end Go.Proofs.YtibjapfaljeclaaDoor
