/- How much is known, in the program. -/
import Derived.Test.YtmgmkgjefplfdaaKnow
namespace Go.Proofs.Ytmgmkgjefplfdaa
open Go.ChangeShapes Go.WideShapes Go.ChangeAt Go.RowKit
set_option linter.unusedVariables false

/-- How many news are in a set. -/
def pc (n : Nat) : Nat := ((List.range 10).filter fun i => n.testBit i).length

theorem fold2 : (⟨(List.append (List.append ([0, 1, 1, 2, 1, 2, 2, 3, 1, 2, 2, 3, 2, 3, 3, 4, 1, 2, 2, 3, 2, 3, 3, 4, 2, 3, 3, 4, 3, 4, 4, 5, 1, 2, 2, 3, 2, 3, 3, 4, 2, 3, 3, 4, 3, 4, 4, 5, 2, 3, 3, 4, 3, 4, 4, 5, 3, 4, 4, 5, 4, 5, 5, 6] : List UInt8) [1, 2, 2, 3, 2, 3, 3, 4, 2, 3, 3, 4, 3, 4, 4, 5, 2, 3, 3, 4, 3, 4, 4, 5, 3, 4, 4, 5, 4, 5, 5, 6, 2, 3, 3, 4, 3, 4, 4, 5, 3, 4, 4, 5, 4, 5, 5, 6, 3, 4, 4, 5, 4, 5, 5, 6, 4, 5, 5, 6, 5, 6, 6, 7]) (List.append [1, 2, 2, 3, 2, 3, 3, 4, 2, 3, 3, 4, 3, 4, 4, 5, 2, 3, 3, 4, 3, 4, 4, 5, 3, 4, 4, 5, 4, 5, 5, 6, 2, 3, 3, 4, 3, 4, 4, 5, 3, 4, 4, 5, 4, 5, 5, 6, 3, 4, 4, 5, 4, 5, 5, 6, 4, 5, 5, 6, 5, 6, 6, 7] [2, 3, 3, 4, 3, 4, 4, 5, 3, 4, 4, 5, 4, 5, 5, 6, 3, 4, 4, 5, 4, 5, 5, 6, 4, 5, 5, 6, 5, 6, 6, 7, 3, 4, 4, 5, 4, 5, 5, 6, 4, 5, 5, 6, 5, 6, 6, 7, 4, 5, 5, 6, 5, 6, 6, 7, 5, 6, 6, 7, 6, 7, 7, 8])).toArray⟩ : ByteArray) = Lib.pop8tab := by kernel_rfl

theorem pc_tab : ∀ n : Fin 1024, (Lib.pop8 ((n.val / 256 : Nat) : Int) + Lib.pop8 ((n.val &&& 255 : Nat) : Int)) = (pc n.val : Int) ∧ 0 ≤ Lib.pop8 ((n.val / 256 : Nat) : Int) ∧ 0 ≤ Lib.pop8 ((n.val &&& 255 : Nat) : Int) ∧ pc n.val ≤ 10 := by decide +kernel

theorem bits_and_nat (x y : Nat) (hx : x < 1024) (hy : y < 1024) : bits BinOp.and IntKind.u16 x y = ((x &&& y : Nat) : Int) := by
  have hx2 : x &&& y < 2 ^ 10 := Nat.and_lt_two_pow (n := 10) _ hy
  have h1 : (BitVec.ofInt 16 (x : Int)).toNat = x := by
    rw [BitVec.ofInt_natCast, BitVec.toNat_ofNat]; exact Nat.mod_eq_of_lt (by omega)
  have h2 : (BitVec.ofInt 16 (y : Int)).toNat = y := by
    rw [BitVec.ofInt_natCast, BitVec.toNat_ofNat]; exact Nat.mod_eq_of_lt (by omega)
  show IntKind.u16.wrap ((BitVec.ofInt 16 (x : Int) &&& BitVec.ofInt 16 (y : Int)).toNat : Int) = _
  rw [BitVec.toNat_and, h1, h2, IntKind.wrap_u16]
  omega

set_option maxRecDepth 100000 in
theorem OnesCount16_any (x : Nat) (w : World) (hx : x < 1024) :
    Calls Try.prog 141 #[.int .u16 x] w fun e w' => e = .returned (.int .i64 (pc x)) ∧ Below w.heap.size w w' := by
  have hp := pc_tab ⟨x, hx⟩
  have e1 : bits BinOp.and IntKind.u16 (x : Int) 255 = ((x &&& 255 : Nat) : Int) := bits_and_nat x 255 hx (by decide)
  have e2 : ((x / 256 : Nat) : Int) = (x : Int) / 256 := by omega
  have a0 : (0 : Int) ≤ (x : Int) / 256 := by omega
  have a1 : (x : Int) / 256 ≤ 255 := by omega
  have hn : x &&& 255 ≤ 255 := Nat.and_le_right
  have b0 : 0 ≤ bits BinOp.and IntKind.u16 (x : Int) 255 := by rw [e1]; omega
  have b1 : bits BinOp.and IntKind.u16 (x : Int) 255 ≤ 255 := by rw [e1]; omega
  simp only [e2] at hp
  have c0 : 0 ≤ Lib.pop8 ((x : Int) / 256) := hp.2.1
  have c1 : 0 ≤ Lib.pop8 (bits BinOp.and IntKind.u16 (x : Int) 255) := by rw [e1]; exact hp.2.2.1
  have HS : Hid (Lib.pop8 ((x : Int) / 256) + Lib.pop8 (bits BinOp.and IntKind.u16 (x : Int) 255) = (pc x : Int)) := by show _ = _; rw [e1]; exact hp.1
  have c2 : Lib.pop8 ((x : Int) / 256) + Lib.pop8 (bits BinOp.and IntKind.u16 (x : Int) 255) ≤ 10 := by rw [HS.out]; have := hp.2.2.2; omega
  clear hp e1 e2 hn
  go_enter Try.func141, Try.ntmps141
  go_wp2_with fail
  simp only [fold2]
  go_quiet (fail)
  go_wp2_with fail

  go_ret
  exact ⟨ret_int HS.out, below_drewN (Below.refl _ _) _⟩

theorem pc_le : ∀ n : Fin 1024, pc n.val ≤ 10 := by decide +kernel

theorem setCount_any (x : Nat) (w : World) (hx : x < 1024) :
    Calls Try.prog 129 #[.int .u16 x] w fun e w' => e = .returned (.int .i64 (pc x)) ∧ Below w.heap.size w w' := by
  go_enter Try.func129, Try.ntmps129
  go_wp2_with fail
  refine (OnesCount16_any x w hx).mono ?_
  rintro e w1 ⟨rfl, hb⟩
  go_wp2_with fail
  go_ret
  exact ⟨rfl, hb⟩

def SL (s : Nat → Nat) : List Value := (List.range 10).map fun i => Value.int .u16 (s i)

theorem SL_length (s : Nat → Nat) : (SL s).length = 10 := by simp [SL]

theorem info131 : (Try.prog.info? 131).map (·.size) = some 10 := by kernel_rfl

theorem KA_range {w : World} {b : Nat} {f : Int} {s : Nat → Nat} {t : TypeId} {fr : Nat × Nat} (hb : w.heap[b]? = some (.cells (KA f s) t fr)) : w.rangeAt b 1 (SL s) := by
  intro j v hv
  have hj : j < 10 := by have := (List.getElem?_eq_some_iff.1 hv).1; rwa [SL_length] at this
  rw [cell_of_row w b (1 + j) _ t fr hb, KA_get f s j hj]
  simpa [SL, hj] using hv

theorem index_SL (s : Nat → Nat) (w : World) : ∀ k, k < 10 → (Instr.index 131 (.agg (SL s).toArray) (.int .i64 (k : Nat))).run Try.prog w = .ok (.int .u16 (s k)) w := by
  intro k hk
  obtain rfl | rfl | rfl | rfl | rfl | rfl | rfl | rfl | rfl | rfl : k = 0 ∨ k = 1 ∨ k = 2 ∨ k = 3 ∨ k = 4 ∨ k = 5 ∨ k = 6 ∨ k = 7 ∨ k = 8 ∨ k = 9 := by omega
  all_goals kernel_rfl

def cntTo (s : Nat → Nat) : Nat → Nat | 0 => 0 | k + 1 => cntTo s k + pc (s k)

theorem cntTo_le (s : Nat → Nat) (hs : ∀ i, s i < 1024) : ∀ k, cntTo s k ≤ 10 * k := by
  intro k
  induction k with
  | zero => simp [cntTo]
  | succ k ih => have := pc_le ⟨s k, hs k⟩; simp only at this; simp only [cntTo]; omega

set_option maxRecDepth 20000 in
theorem count_any (f : Int) (s : Nat → Nat) (w : World) (hs : ∀ i, s i < 1024) :
    Calls Try.prog 134 #[.agg (KA f s)] w fun e w' => e = .returned (.int .i64 (cntTo s 10)) ∧ Below w.heap.size w w' := by
  have Hs := Lib.hid hs
  clear hs
  go_enter Try.func134, Try.ntmps134
  go_wp2_with (with_reducible refine wpList_load_mid rfl 131 (.tmp 6) rfl w.heap.size 1 ?q1 (SL s) _ ?q2 Try.underlying131 rfl ?q3 ?_)
  case q1 => rfl
  case q2 => exact KA_range (heap_alloc_new w _)
  case q3 => rw [info131, SL_length]
  have Hb := Lib.hid ((Below.refl w.heap.size w).alloc (Nat.le_refl _) (.cells (KA f s) 133))
  go_loopw [3, 8] (fun t i wr => ∃ k : Nat, k ≤ 10 ∧ i = .int .i64 k ∧ t = .int .i64 (cntTo s k) ∧ Below w.heap.size w wr) (fun _ i _ => 10 - (intOf i).toNat)
  case atStart => exact ⟨0, Nat.zero_le _, rfl, rfl, Hb.out⟩
  case round =>
    obtain ⟨k, hk, rfl, rfl, hbel⟩ := hrel
    by_cases hlt : k < 10
    · have hix := fun W => index_SL s W k hlt
      have hpl := pc_le ⟨s k, Hs.out k⟩
      have hcl := cntTo_le s Hs.out k
      simp only at hpl
      have hsz := hbel.size
      go_wp2_with fail
      refine (setCount_any (s k) _ (Hs.out k)).mono ?_
      rintro e w2 ⟨rfl, hb2⟩
      have hb3 := hbel.trans (hb2.mono hsz)
      clear hb2 hix
      go_wp2_with fail
      go_roundw
      case rel => exact ⟨k + 1, by omega, by go_num, by simp only [cntTo]; go_num, hb3⟩
      case measure => simp [intOf]; omega
    · obtain rfl : k = 10 := by omega
      clear hlt hk
      go_wp2_with fail
      go_ret
      exact ⟨rfl, hbel⟩

end Go.Proofs.Ytmgmkgjefplfdaa
