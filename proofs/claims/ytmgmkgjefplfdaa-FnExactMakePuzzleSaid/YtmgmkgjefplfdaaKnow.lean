/- What is known behind calls, in the program. -/
import Derived.Test.YtmgmkgjefplfdaaKnowU
namespace Go.Proofs.Ytmgmkgjefplfdaa
open Go.ChangeShapes Go.WideShapes Go.ChangeAt Go.RowKit
set_option linter.unusedVariables false

theorem fold_succ (s : Nat → Nat) (l : List (Int × Int)) (k : Nat) (h : k < l.length) : (l.take (k + 1)).foldl stp s = stp ((l.take k).foldl stp s) (ca l k, cb l k) := by
  rw [List.take_succ_eq_append_getElem h, ca_cb l k h]
  simp [List.foldl_append]

theorem fold_small {s : Nat → Nat} (h : ∀ i, s i < 1024) (l : List (Int × Int)) : ∀ i, l.foldl stp s i < 1024 := foldl_lt (f := 10) l h

/-- These calls are of two friends each. -/
def twoB (l : List (Int × Int)) : Prop := ∀ i, i < l.length → 0 ≤ ca l i ∧ ca l i < cb l i ∧ cb l i < 10

set_option maxRecDepth 20000 in
theorem behindAll_pos (b off cap : Nat) (f : Int) (s : Nat → Nat) (l : List (Int × Int)) (n : Nat) (w : World) (hs : ∀ i, s i < 1024) (Hn : Hid (n = l.length)) (hl : n ≤ 60) (Hg : Hid (twoB l))
    (Hc : Hid (∀ i, i < n → w.cell? ⟨b, off + i * 2, none⟩ = some (.int .i64 (ca l i)) ∧ w.cell? ⟨b, off + i * 2 + 1, none⟩ = some (.int .i64 (cb l i)))) :
    Calls Try.prog 148 #[.agg (KA f s), .slice (some ⟨b, off, none⟩) n cap] w fun e w' => e = .returned (.agg (KA f (l.foldl stp s))) ∧ Below w.heap.size w w' := by
  have HS := Lib.hid hs
  clear hs
  go_enter Try.func148, Try.ntmps148
  go_upto_region 2 with (fail)
  have HB0 : Hid (((w.alloc (.cells (KA f s) 133)).alloc (.cells ZA 133)).heap[w.heap.size]? = some (.cells (KA f s) 133 (0, 0))) := by
    show _ = _
    rw [Below.heap_alloc _ _ _ (by simp), heap_alloc_new]
  have HZ0 : Hid (((w.alloc (.cells (KA f s) 133)).alloc (.cells ZA 133)).heap[w.heap.size + 1]? = some (.cells ZA 133 (0, 0))) := by
    show _ = _
    have := heap_alloc_new (w.alloc (.cells (KA f s) 133)) (.cells ZA 133)
    simpa using this
  have HH0 : Hid (Below w.heap.size w ((w.alloc (.cells (KA f s) 133)).alloc (.cells ZA 133))) := ((Below.refl _ _).alloc (Nat.le_refl _) _).alloc (by simp) _
  obtain ⟨B, HBd⟩ : ∃ B, Hid (B = w.heap.size) := ⟨_, rfl⟩
  go_loopw [9] (fun i wr => ∃ k : Nat, k ≤ n ∧ i = .int .i64 k ∧ wr.heap[w.heap.size]? = some (.cells (KA f ((l.take k).foldl stp s)) 133 (0, 0)) ∧ wr.heap[w.heap.size + 1]? = some (.cells ZA 133 (0, 0)) ∧ Below w.heap.size w wr) (fun i _ => n - (intOf i).toNat)
  case atStart => exact ⟨0, Nat.zero_le _, rfl, HB0.out, HZ0.out, HH0.out⟩
  case round =>
    obtain ⟨k, hk, rfl, hB, hZ, hbel⟩ := hrel
    have HBk := Lib.hid hB
    have HZk := Lib.hid hZ
    have hsz := hbel.size
    have hB1 : w.heap.size + 1 < wr.heap.size := (Array.getElem?_eq_some_iff.1 hZ).1
    clear hB hZ
    by_cases hlt : k < n
    · have h0 := hbel.cell (p := ⟨b, off + k * 2, none⟩) (World.block_lt_of_cell? w _ (Hc.out k hlt).1)
      have h1 := hbel.cell (p := ⟨b, off + k * 2 + 1, none⟩) (World.block_lt_of_cell? w _ (Hc.out k hlt).2)
      rw [(Hc.out k hlt).1] at h0
      rw [(Hc.out k hlt).2] at h1
      have hgc := Hg.out k (by rw [← Hn.out]; exact hlt)
      have HB2 := Lib.hid ((Below.heap_alloc wr (.cells #[.int .i64 (ca l k), .int .i64 (cb l k)] 83) _ (show w.heap.size < _ by omega)).trans HBk.out)
      go_wp2_with (with_reducible refine wpList_load_row rfl 133 (.tmp 2) rfl w.heap.size ?q1 133 _ (0, 0) _ HB2.out Try.underlying133 rfl ?q3 ?_)
      case q1 => rfl
      case q3 => rw [info133, KA_size]
      go_wp2_with fail
      refine (behind_st f ((l.take k).foldl stp s) _ _ _ (fold_small HS.out _) hgc.1 hgc.2.1 hgc.2.2).mono ?_
      rintro e w3 ⟨rfl, hb3⟩
      have hB3 : w3.heap[w.heap.size]? = some (.cells (KA f ((l.take k).foldl stp s)) 133 (0, 0)) := (hb3.block _ (by simp; omega)).trans HB2.out
      have hZ3 : w3.heap[w.heap.size + 1]? = some (.cells ZA 133 (0, 0)) := (hb3.block _ (by simp; omega)).trans ((Below.heap_alloc wr _ _ (by omega)).trans HZk.out)
      have hbel3 : Below w.heap.size w w3 := (hbel.alloc hsz _).trans (hb3.mono (by simp; omega))
      have HB3 := Lib.hid hB3
      have HZ3 := Lib.hid hZ3
      have HH3 := Lib.hid hbel3
      clear hB3 hZ3 hbel3 hb3 hbel h0 h1
      go_wp2_with (with_reducible refine wpList_store_row rfl 133 (.tmp 2) (.tmp 15) rfl w.heap.size (KA f (stp ((l.take k).foldl stp s) (ca l k, cb l k))) ?s1 ?s2 133 _ HB3.out ?s3 ?s4 ?s5 ?_)
      case s1 => rfl
      case s2 => rfl
      case s3 => rw [info133, KA_size]
      case s4 => rw [KA_size, KA_size]
      case s5 => exact KA_one _ _
      go_roundw
      case rel =>
        refine ⟨k + 1, by omega, by go_num, ?_, ?_, below_setRow HH3.out (Nat.le_refl _) _⟩
        · rw [fold_succ s l k (by rw [← Hn.out]; exact hlt)]
          exact setRow_heap _ _ _ _ _ _ HB3.out
        · rw [setRow_other _ _ _ _ (by omega)]
          exact HZ3.out
      case measure => simp [intOf]; omega
    · obtain rfl : k = n := by omega
      have hp : l.take k = l := List.take_of_length_le (by rw [← Hn.out]; exact Nat.le_refl _)
      rw [hp] at HBk
      have Hbel := Lib.hid hbel
      clear hlt hk hp hbel
      go_wp2_with (first
        | (with_reducible refine wpList_load_row rfl 133 (.tmp 2) rfl w.heap.size ?u1 133 _ (0, 0) _ HBk.out Try.underlying133 rfl ?u3 ?_)
        | (with_reducible refine wpList_store_row rfl 133 (.tmp 4) (.tmp 17) rfl (w.heap.size + 1) (KA f (l.foldl stp s)) ?v1 ?v2 133 _ HZk.out ?v3 ?v4 ?v5 ?_))
      any_goals first | rfl | (rw [info133, KA_size]; done) | (rw [KA_size]; rfl) | exact KA_one _ _
      refine bodyPost_ret (results_cell_row rfl _ _ (w.heap.size + 1) 133 _ (0, 0) _ rfl (setRow_heap _ _ _ _ _ _ HZk.out) Try.underlying133 rfl ?_) rfl ⟨rfl, below_setRow Hbel.out (by omega) _⟩
      rw [info133, KA_size]

set_option maxRecDepth 20000 in
theorem behindAll_zero (ao : Option Addr) (cap : Nat) (f : Int) (s : Nat → Nat) (w : World) :
    Calls Try.prog 148 #[.agg (KA f s), .slice ao 0 cap] w fun e w' => e = .returned (.agg (KA f s)) ∧ Below w.heap.size w w' := by
  go_enter Try.func148, Try.ntmps148
  go_upto_region 2 with (fail)
  have HB0 : Hid (((w.alloc (.cells (KA f s) 133)).alloc (.cells ZA 133)).heap[w.heap.size]? = some (.cells (KA f s) 133 (0, 0))) := by
    show _ = _
    rw [Below.heap_alloc _ _ _ (by simp), heap_alloc_new]
  have HZ0 : Hid (((w.alloc (.cells (KA f s) 133)).alloc (.cells ZA 133)).heap[w.heap.size + 1]? = some (.cells ZA 133 (0, 0))) := by
    show _ = _
    have := heap_alloc_new (w.alloc (.cells (KA f s) 133)) (.cells ZA 133)
    simpa using this
  have HH0 : Hid (Below w.heap.size w ((w.alloc (.cells (KA f s) 133)).alloc (.cells ZA 133))) := ((Below.refl _ _).alloc (Nat.le_refl _) _).alloc (by simp) _
  go_loopw [9] (fun i wr => i = .int .i64 0 ∧ wr.heap[w.heap.size]? = some (.cells (KA f s) 133 (0, 0)) ∧ wr.heap[w.heap.size + 1]? = some (.cells ZA 133 (0, 0)) ∧ Below w.heap.size w wr) (fun _ _ => 0)
  case atStart => exact ⟨rfl, HB0.out, HZ0.out, HH0.out⟩
  case round =>
    obtain ⟨rfl, hB, hZ, hbel⟩ := hrel
    have HBk := Lib.hid hB
    have HZk := Lib.hid hZ
    have Hbel := Lib.hid hbel
    clear hB hZ hbel
    go_wp2_with (first
      | (with_reducible refine wpList_load_row rfl 133 (.tmp 2) rfl w.heap.size ?u1 133 _ (0, 0) _ HBk.out Try.underlying133 rfl ?u3 ?_)
      | (with_reducible refine wpList_store_row rfl 133 (.tmp 4) (.tmp 17) rfl (w.heap.size + 1) (KA f s) ?v1 ?v2 133 _ HZk.out ?v3 ?v4 ?v5 ?_))
    any_goals first | rfl | (rw [info133, KA_size]; done) | (rw [KA_size]; rfl) | exact KA_one _ _
    refine bodyPost_ret (results_cell_row rfl _ _ (w.heap.size + 1) 133 _ (0, 0) _ rfl (setRow_heap _ _ _ _ _ _ HZk.out) Try.underlying133 rfl ?_) rfl ⟨rfl, below_setRow Hbel.out (by omega) _⟩
    rw [info133, KA_size]

theorem behindAll_any (ao : Option Addr) (cap : Nat) (f : Int) (s : Nat → Nat) (l : List (Int × Int)) (n : Nat) (w : World) (hs : ∀ i, s i < 1024) (Hn : Hid (n = l.length)) (hl : n ≤ 60) (Hg : Hid (twoB l)) (hc : CallsAt w ao l) :
    Calls Try.prog 148 #[.agg (KA f s), .slice ao n cap] w fun e w' => e = .returned (.agg (KA f (l.foldl stp s))) ∧ Below w.heap.size w w' := by
  by_cases h0 : n = 0
  · subst h0
    have : l = [] := List.eq_nil_of_length_eq_zero Hn.out.symm
    subst this
    exact behindAll_zero ao cap f s w
  · rcases hc with h | ⟨b, off, rfl, hc⟩
    · subst h; exact absurd Hn.out h0
    · exact behindAll_pos b off cap f s l n w hs Hn hl Hg (by rw [Hn.out]; exact hc)

theorem gd_two {f : Int} {l : List (Int × Int)} (h : gdB f l = true) : twoB l := fun i hi => by
  have h1 := gd_call h hi
  have h2 := gd_fr h
  exact ⟨h1.1, h1.2.1, by omega⟩

set_option maxRecDepth 20000 in
/-- The program's struct behind calls. -/
theorem knowledgeBehind_any (f : Nat) (ao : Option Addr) (cap : Nat) (l : List (Int × Int)) (n : Nat) (w : World) (Hn : Hid (n = l.length)) (hg : gdB (f : Int) l = true) (hc : CallsAt w ao l) :
    Calls Try.prog 140 #[.int .i64 f, .slice ao n cap] w fun e w' => e = .returned (.agg (KA f (play f l))) ∧ Below w.heap.size w w' := by
  have hff := gd_fr hg
  have Hg := Lib.hid (gd_two hg)
  have hl : n ≤ 60 := by rw [Hn.out]; exact gd_len' hg
  have HC := Lib.hid hc
  clear hg hc
  have hZ0 : (w.alloc (.cells ZA 133)).heap[w.heap.size]? = some (.cells ZA 133 (0, 0)) := heap_alloc_new w _
  have HZ0 := Lib.hid hZ0
  have HH0 := Lib.hid ((Below.refl w.heap.size w).alloc (Nat.le_refl _) (.cells ZA 133))
  clear hZ0
  go_enter Try.func140, Try.ntmps140
  go_wp2_with fail
  refine (ownNews_any f _ (by omega)).mono ?_
  rintro e w1 ⟨rfl, hb1⟩
  have HZ1 : Hid (w1.heap[w.heap.size]? = some (.cells ZA 133 (0, 0))) := range_below HZ0.out hb1
  have HH1 : Hid (Below w.heap.size w w1) := HH0.out.trans (hb1.mono (by simp))
  clear hb1
  go_wp2_with fail
  refine (behindAll_any ao cap f (own0 f) l n w1 (fun i => Nat.lt_of_lt_of_le (own0_lt f i) (Nat.pow_le_pow_right (n := 2) (by decide) (show f ≤ 10 by omega))) Hn hl Hg (HC.out.kept HH1.out)).mono ?_
  rintro e w2 ⟨rfl, hb2⟩
  have HZ2 : Hid (w2.heap[w.heap.size]? = some (.cells ZA 133 (0, 0))) := range_below HZ1.out hb2
  have HH2 : Hid (Below w.heap.size w w2) := HH1.out.trans (hb2.mono HH1.out.size)
  clear hb2
  go_wp2_with (with_reducible refine wpList_store_row rfl 133 (.tmp 4) (.tmp 8) rfl w.heap.size (KA f (l.foldl stp (own0 f))) ?v1 ?v2 133 _ HZ2.out ?v3 ?v4 ?v5 ?_)
  any_goals first | rfl | (rw [info133, KA_size]; done) | (rw [KA_size]; rfl) | exact KA_one _ _
  refine bodyPost_ret (results_cell_row rfl _ _ w.heap.size 133 _ (0, 0) _ rfl (setRow_heap _ _ _ _ _ _ HZ2.out) Try.underlying133 rfl ?_) rfl ⟨rfl, below_setRow HH2.out (Nat.le_refl _) _⟩
  rw [info133, KA_size]

end Go.Proofs.Ytmgmkgjefplfdaa
