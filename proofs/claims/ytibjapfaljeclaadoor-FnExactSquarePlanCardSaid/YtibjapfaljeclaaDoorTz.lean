/- The first member of a set: the program. -/
import Derived.Test.YtibjapfaljeclaaDoorTr
namespace Go.Proofs.YtibjapfaljeclaaDoor
open Go.ChangeShapes Go.WideShapes Go.ChangeAt Go.RowKit
set_option linter.unusedVariables false


/-- The library's table. -/
def tzTab : List Int := [0, 1, 28, 2, 29, 14, 24, 3, 30, 22, 20, 15, 25, 17, 4, 8, 31, 27, 13, 23, 21, 19, 16, 7, 26, 12, 18, 6, 11, 5, 10, 9]
def TabHere (w : World) : Prop := ∀ j, j < 32 → w.cell? ⟨0, j, none⟩ = some (.int .u8 (tzTab.getD j 0))
theorem TabHere.kept {w w' : World} (h : TabHere w) (hb : Below w.heap.size w w') : TabHere w' := fun j hj => cell_old hb (h j hj)
def tzIdx (x : Nat) : Nat := ((x &&& (65536 - x)) * 125613361 % 4294967296) / 134217728
theorem tz_tab : ∀ x : Fin 1024, x.val ≠ 0 → tzIdx x.val < 32 ∧ tzTab.getD (tzIdx x.val) 0 = (((frst x.val.testBit 10).getD 0 : Nat) : Int) ∧ (frst x.val.testBit 10).isSome = true := by decide +kernel
theorem bits_and16 (x y : Nat) (hx : x < 65536) (hy : y < 65536) : bits BinOp.and IntKind.u16 x y = ((x &&& y : Nat) : Int) := by
  have h1 : (BitVec.ofInt 16 (x : Int)).toNat = x := by
    rw [BitVec.ofInt_natCast, BitVec.toNat_ofNat]; exact Nat.mod_eq_of_lt (by omega)
  have h2 : (BitVec.ofInt 16 (y : Int)).toNat = y := by
    rw [BitVec.ofInt_natCast, BitVec.toNat_ofNat]; exact Nat.mod_eq_of_lt (by omega)
  have h3 : x &&& y ≤ x := Nat.and_le_left
  show IntKind.u16.wrap ((BitVec.ofInt 16 (x : Int) &&& BitVec.ofInt 16 (y : Int)).toNat : Int) = _
  rw [BitVec.toNat_and, h1, h2, IntKind.wrap_u16]
  omega

set_option maxRecDepth 20000 in
theorem tz16_any (x y : Nat) (w : World) (hx : x < 1024) (HT : Hid (TabHere w)) (hy : frst x.testBit 10 = some y) :
    Calls Tryd.prog 61 #[.int .u16 x] w fun e w' => e = .returned (.int .i64 y) ∧ w = w' := by
  have hx0 : x ≠ 0 := fun e => by
    have h1 := (frst_some 10 hy).2
    rw [e] at h1; simp at h1
  obtain ⟨hi, ht, _⟩ := tz_tab ⟨x, hx⟩ hx0
  simp only [hy, Option.getD_some] at hi ht
  have hy10 := (frst_some 10 hy).1
  have hne : ((x : Int) == 0) = false := by simp; omega
  have e1 : IntKind.u16.wrap (-(x : Int)) = ((65536 - x : Nat) : Int) := by rw [IntKind.wrap_u16]; omega
  obtain ⟨a, ha⟩ : ∃ a, x &&& (65536 - x) = a := ⟨_, rfl⟩
  have ha1 : a < 1024 := by rw [← ha]; exact Nat.lt_of_le_of_lt Nat.and_le_left hx
  have e2 : bits BinOp.and IntKind.u16 (x : Int) (IntKind.u16.wrap (-(x : Int))) = (a : Int) := by rw [e1, bits_and16 x _ (by omega) (by omega), ha]
  have hidx : tzIdx x = a * 125613361 % 4294967296 / 134217728 := by rw [tzIdx, ha]
  rw [hidx] at hi ht
  have e4 : IntKind.u32.wrap (a : Int) = (a : Int) := by simp [IntKind.wrap, IntKind.signed, IntKind.bits]; omega
  have hc := HT.out _ hi
  rw [ht] at hc
  have hi2 : (a : Int) * 125613361 % 4294967296 / 134217728 < 32 := by omega
  have hi0 : 0 ≤ (a : Int) * 125613361 % 4294967296 / 134217728 := by omega
  clear ha hidx ht hx0 e1
  go_enter Tryd.func61, Tryd.ntmps61
  go_wp2_with (simp only [e2, e4])
  go_ret
  exact ⟨rfl, rfl⟩
theorem first_any (x y : Nat) (w : World) (hx : x < 1024) (HT : Hid (TabHere w)) (hy : frst x.testBit 10 = some y) :
    Calls Tryd.prog 54 #[.int .u16 x] w fun e w' => e = .returned (.int .i64 y) ∧ w = w' := by
  have Hy := Lib.hid hy
  clear hy
  go_enter Tryd.func54, Tryd.ntmps54
  go_wp2_with fail
  refine (tz16_any x y w hx HT Hy.out).mono ?_
  rintro e w' ⟨rfl, rfl⟩
  go_wp2_with fail
  go_ret
  exact ⟨rfl, rfl⟩

end Go.Proofs.YtibjapfaljeclaaDoor
