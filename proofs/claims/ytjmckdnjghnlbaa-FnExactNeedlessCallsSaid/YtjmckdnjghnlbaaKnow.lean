/- The program's struct of who knows what: at first, and behind a call. -/
import Derived.Test.YtjmckdnjghnlbaaAre
import Derived.Deep.Cut
import Derived.Laws.Tables
namespace Go.Proofs.Ytjmckdnjghnlbaa
open Go.ChangeShapes Go.WideShapes Go.ChangeAt Go.RowKit

theorem info67 : (Try.prog.info? 67).map (·.size) = some 11 := by kernel_rfl

/-- The program's struct of who knows what: so many friends, a set for each of ten. -/
def KA (f : Int) (s : Nat → Nat) : Array Value := (Value.int .i64 f :: (List.range 10).map fun i => Value.int .u16 (s i)).toArray
theorem KA_size (f : Int) (s : Nat → Nat) : (KA f s).size = 11 := by simp [KA]
theorem KA_zero (f : Int) (s : Nat → Nat) : (KA f s)[0]? = some (.int .i64 f) := by simp [KA]
theorem KA_get (f : Int) (s : Nat → Nat) (i : Nat) (h : i < 10) : (KA f s)[1 + i]? = some (.int .u16 (s i)) := by
  rw [Nat.add_comm]
  simp [KA, h]
theorem KA_one (f : Int) (s : Nat → Nat) : (KA f s).all (·.oneCell') = true := by
  rw [Array.all_eq_true_iff_forall_mem]
  intro x hx
  simp only [KA, List.mem_toArray, List.mem_cons, List.mem_map] at hx
  rcases hx with rfl | ⟨i, _, rfl⟩ <;> rfl
def upd (s : Nat → Nat) (i v : Nat) : Nat → Nat := fun j => if j = i then v else s j
theorem KA_set (f : Int) (s : Nat → Nat) (i v : Nat) : (KA f s).setIfInBounds (1 + i) (.int .u16 v) = KA f (upd s i v) := by
  apply Array.ext_getElem?
  intro j
  rw [Array.getElem?_setIfInBounds]
  by_cases hj : j < 11
  · rcases Nat.eq_zero_or_pos j with rfl | hp
    · rw [if_neg (by omega), KA_zero, KA_zero]
    · obtain ⟨m, rfl⟩ : ∃ m, j = 1 + m := ⟨j - 1, by omega⟩
      rw [KA_get f (upd s i v) m (by omega), KA_get f s m (by omega), KA_size]
      by_cases hm : m = i
      · subst hm; rw [if_pos rfl, if_pos (by omega)]; simp [upd]
      · rw [if_neg (by omega)]; simp [upd, hm]
  · have h1 : (KA f s)[j]? = none := by rw [Array.getElem?_eq_none_iff, KA_size]; omega
    have h2 : (KA f (upd s i v))[j]? = none := by rw [Array.getElem?_eq_none_iff, KA_size]; omega
    rw [h1, h2, KA_size]
    split
    · rw [if_neg (by omega)]
    · rfl
theorem below_setRow {B : Nat} {a w : World} (h : Below B a w) {g : Nat} (hg : B ≤ g) (cs : Array Value) : Below B a (w.setRow g cs) :=
  h.trans ⟨rfl, rfl, rfl, by simp, fun k hk => setRow_other w g k cs (by omega)⟩

theorem all_set {K : Array Value} {i : Nat} {v : Value} (h : K.all (·.oneCell') = true) (hv : v.oneCell' = true) : (K.setIfInBounds i v).all (·.oneCell') = true := by
  rw [Array.all_eq_true_iff_forall_mem] at h ⊢
  intro x hx
  rcases Array.mem_or_eq_of_mem_setIfInBounds hx with h1 | rfl
  · exact h x h1
  · exact hv

/-- What the two stores leave. -/
theorem two_stores (w : World) (K Z C : Array Value) (a b nq : Nat) (z : Value) :
    (((((w.alloc (.cells K 67)).alloc (.cells C 56)).alloc (.cells Z 67)).drewN nq).setCell ⟨w.heap.size, 1 + a, none⟩ z).setCell ⟨w.heap.size, 1 + b, none⟩ z |>.heap[w.heap.size]? = some (.cells ((K.setIfInBounds (1 + a) z).setIfInBounds (1 + b) z) 67 (0, 0)) := by
  refine heap_setCell_same _ _ _ _ _ _ ?_
  refine heap_setCell_same _ _ _ _ _ _ ?_
  show (((w.alloc (.cells K 67)).alloc (.cells C 56)).alloc (.cells Z 67)).heap[w.heap.size]? = _
  rw [Below.heap_alloc _ _ _ (by simp; omega), Below.heap_alloc _ _ _ (by simp), heap_alloc_new]

theorem two_stores_out (w : World) (K Z C : Array Value) (a b nq : Nat) (z : Value) :
    (((((w.alloc (.cells K 67)).alloc (.cells C 56)).alloc (.cells Z 67)).drewN nq).setCell ⟨w.heap.size, 1 + a, none⟩ z).setCell ⟨w.heap.size, 1 + b, none⟩ z |>.heap[w.heap.size + 1 + 1]? = some (.cells Z 67 (0, 0)) := by
  rw [heap_setCell_other _ _ _ _ (by show _ ≠ w.heap.size; omega), heap_setCell_other _ _ _ _ (by show _ ≠ w.heap.size; omega)]
  show (((w.alloc (.cells K 67)).alloc (.cells C 56)).alloc (.cells Z 67)).heap[w.heap.size + 1 + 1]? = _
  have := heap_alloc_new ((w.alloc (.cells K 67)).alloc (.cells C 56)) (.cells Z 67)
  simpa using this

theorem behind_any (K : Array Value) (a b : Nat) (x y : Int) (w : World) (hK : K.size = 11) (h1 : K.all (·.oneCell') = true) (ha : K[1 + a]? = some (.int .u16 x)) (hb : K[1 + b]? = some (.int .u16 y)) (hab : a < b) (b1 : b < 10) :
    Calls Try.prog 103 #[.agg K, .agg #[.int .i64 a, .int .i64 b]] w fun e w' => e = .returned (.agg ((K.setIfInBounds (1 + a) (.int .u16 (bits BinOp.or IntKind.u16 x y))).setIfInBounds (1 + b) (.int .u16 (bits BinOp.or IntKind.u16 x y)))) ∧ Below w.heap.size w w' := by
  have a2 : (a : Int) < 10 := by omega
  have b2 : (b : Int) < 10 := by omega
  have a0 : (0 : Int) ≤ a := by omega
  have b0 : (0 : Int) ≤ b := by omega
  have HK := Lib.hid hK
  have HK1 := Lib.hid h1
  clear hK h1
  go_enter Try.func103, Try.ntmps103
  go_wp2_with fail
  go_quiet (fail)
  go_upto_region 4 with (fail)
  go_wp2_with (first
    | (with_reducible refine wpList_load_row rfl 67 (.tmp 2) rfl w.heap.size ?q1 67 _ (0, 0) _ (two_stores w K _ _ a b nq _) Try.underlying67 rfl ?q3 ?_)
    | (with_reducible refine wpList_store_row rfl 67 (.tmp 4) (.tmp 27) rfl (w.heap.size + 1 + 1) ((K.setIfInBounds (1 + a) (.int .u16 (bits BinOp.or IntKind.u16 x y))).setIfInBounds (1 + b) (.int .u16 (bits BinOp.or IntKind.u16 x y))) ?r1 ?r2 67 _ (two_stores_out w K _ _ a b nq _) ?r3 ?r4 ?r5 ?_))
  case q1 => rfl
  case q3 => rw [info67, Array.size_setIfInBounds, Array.size_setIfInBounds, HK.out]
  case r3 => rw [info67, Array.size_setIfInBounds, Array.size_setIfInBounds, HK.out]
  case r4 => rw [Array.size_setIfInBounds, Array.size_setIfInBounds, HK.out]; rfl
  case r5 => exact all_set (all_set HK1.out rfl) rfl
  refine bodyPost_ret (results_cell_row rfl _ _ (w.heap.size + 1 + 1) 67 _ (0, 0) _ rfl (setRow_heap _ _ _ _ _ _ (two_stores_out w K _ _ a b nq _)) Try.underlying67 rfl ?_) rfl ⟨rfl, ?_⟩
  · rw [info67, Array.size_setIfInBounds, Array.size_setIfInBounds, HK.out]
  · refine below_setRow (((below_drewN ?_ _).setCell (by show _ ≤ w.heap.size; omega) _).setCell (by show _ ≤ w.heap.size; omega) _) (by omega) _
    exact (((Below.refl _ _).alloc (Nat.le_refl _) _).alloc (by simp) _).alloc (by simp; omega) _
/-- At first each of so many knows the own news. -/
def own0 (k : Nat) : Nat → Nat := fun i => if i < k then 2 ^ i else 0
def ZA : Array Value := KA 0 fun _ => 0
theorem own0_upd (k : Nat) : upd (own0 k) k (2 ^ k) = own0 (k + 1) := by
  funext j
  unfold upd own0
  by_cases h : j = k
  · subst h; simp
  · by_cases h2 : j < k
    · simp [h, h2, show j < k + 1 by omega]
    · simp [h, h2, show ¬ j < k + 1 by omega]

theorem wrap_pow : ∀ k : Nat, k < 10 → IntKind.u16.wrap ((2 : Int) ^ k) = ((2 ^ k : Nat) : Int) := by decide

set_option maxRecDepth 20000 in
theorem ownNews_any (f : Nat) (w : World) (hf : f ≤ 10) :
    Calls Try.prog 98 #[.int .i64 f] w fun e w' => e = .returned (.agg (KA f (own0 f))) ∧ Below w.heap.size w w' := by
  go_enter Try.func98, Try.ntmps98
  go_wp2_with fail
  go_loopw [8] (fun i wr => ∃ k : Nat, k ≤ f ∧ i = .int .i64 k ∧ wr.heap[w.heap.size + 1]? = some (.cells (KA f (own0 k)) 67 (0, 0)) ∧ wr.heap[w.heap.size]? = some (.cells ZA 67 (0, 0)) ∧ Below w.heap.size w wr) (fun i _ => f - (intOf i).toNat)
  case atStart =>
    refine ⟨0, Nat.zero_le _, rfl, ?_, ?_, ((Below.refl _ _).alloc (Nat.le_refl _) _).alloc (by simp) _⟩
    · have e : ((w.alloc (.cells ZA 67)).alloc (.cells (KA f (own0 0)) 67)).heap[w.heap.size + 1]? = some (.cells (KA f (own0 0)) 67 (0, 0)) := by
        have := heap_alloc_new (w.alloc (.cells ZA 67)) (.cells (KA f (own0 0)) 67)
        simpa using this
      exact e
    · rw [Below.heap_alloc _ _ _ (by simp), heap_alloc_new]; rfl
  case round =>
    obtain ⟨k, hk, rfl, hB, hZ, hbel⟩ := hrel
    by_cases hlt : k < f
    · have hc := cell_of_row wr (w.heap.size + 1) (1 + k) _ _ _ hB
      have hfz := frozen_of_row wr (w.heap.size + 1) (1 + k) _ _ hB
      rw [KA_get _ _ k (by omega)] at hc
      have HB := Lib.hid hB
      have HZ := Lib.hid hZ
      have hlt2 : w.heap.size + 1 < wr.heap.size := (Array.getElem?_eq_some_iff.1 hB).1
      clear hB hZ
      go_wp2_with fail
      go_roundw
      case rel =>
        refine ⟨k + 1, by omega, by go_num, ?_, ?_, hbel.setCell (by show _ ≤ w.heap.size + 1; omega) _⟩
        · rw [wrap_pow k (by omega), ← own0_upd, ← KA_set]
          exact heap_setCell_same _ _ _ _ _ _ HB.out
        · rw [heap_setCell_other _ _ _ _ (by show _ ≠ w.heap.size + 1; omega)]
          exact HZ.out
      case measure => simp [intOf]; omega
    · obtain rfl : k = f := by omega
      have HB := Lib.hid hB
      have HZ := Lib.hid hZ
      clear hB hZ hlt hk
      go_upto_region 7 with (fail)
      go_wp2_with (first
        | (with_reducible refine wpList_load_row rfl 67 (.tmp 3) rfl (w.heap.size + 1) ?q1 67 _ (0, 0) _ HB.out Try.underlying67 rfl ?q3 ?_)
        | (with_reducible refine wpList_store_row rfl 67 (.tmp 2) (.tmp 17) rfl w.heap.size (KA k (own0 k)) ?r1 ?r2 67 _ HZ.out ?r3 ?r4 ?r5 ?_))
      case q1 => rfl
      case q3 => rw [info67, KA_size]
      case r3 => rw [info67, KA_size]
      case r4 => rw [KA_size]; rfl
      case r5 => exact KA_one _ _
      refine bodyPost_ret (results_cell_row rfl _ _ w.heap.size 67 _ (0, 0) _ rfl (setRow_heap _ _ _ _ _ _ HZ.out) Try.underlying67 rfl ?_) rfl ⟨rfl, below_setRow hbel (Nat.le_refl _) _⟩
      rw [info67, KA_size]
end Go.Proofs.Ytjmckdnjghnlbaa
