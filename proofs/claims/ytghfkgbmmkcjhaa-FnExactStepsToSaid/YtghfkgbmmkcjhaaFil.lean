/- The closure that fills. -/
import Derived.Test.YtghfkgbmmkcjhaaAa
import Derived.Test.YtghfkgbmmkcjhaaArC
namespace Go.Proofs.Ytghfkgbmmkcjhaa
open Go.ChangeShapes Go.WideShapes Go.ChangeAt Go.RowKit
set_option linter.unusedVariables false

theorem cell_old {w wr : World} {a : Addr} {v : Value} (hb : Below w.heap.size w wr) (h : w.cell? a = some v) : wr.cell? a = some v := (hb.cell (World.block_lt_of_cell? w _ h)).trans h

/-- Sends whose numbers are small enough. -/
def SmallS (d : Int) (l : List Snd) : Prop := ∀ i, i < l.length → (0 ≤ st l i ∧ st l i < 40) ∧ (0 ≤ sm l i + d ∧ sm l i + d ≤ 1000)

theorem lsn_parts (l : List Snd) (i : Nat) : lsn l i = (sf l i, st l i, sm l i) := rfl

set_option maxHeartbeats 1600000 in
set_option maxRecDepth 20000 in
theorem fill_pos (b off cap q : Nat) (f : Int → Int) (d : Int) (l : List Snd) (n : Nat) (w : World) (Hn : Hid (n = l.length)) (hn : n ≤ 1048576) (hq : w.cell? ⟨q, 0, none⟩ = some (.int .i64 d)) (hS : Hid (SmallS d l)) (Hc : Hid (∀ i, i < n → Sat3 w b off l i)) :
    Calls Try.prog 88 #[.agg (AA f), .slice (some ⟨b, off, none⟩) n cap, .pointer (some ⟨q, 0, none⟩)] w fun e w' => e = .returned (.agg (AA (fillA d f l))) ∧ Below w.heap.size w w' := by
  have Hq := Lib.hid hq
  clear hq
  go_enter Try.func88, Try.ntmps88
  go_upto_region 2 with (fail)
  rw [← ZA_eq]
  have HB0 : Hid (((w.alloc (.cells (AA f) 57)).alloc (.cells ZA 57)).heap[w.heap.size]? = some (.cells (AA f) 57 (0, 0))) := by
    show _ = _
    rw [Below.heap_alloc _ _ _ (by simp), heap_alloc_new]
  have HZ0 : Hid (((w.alloc (.cells (AA f) 57)).alloc (.cells ZA 57)).heap[w.heap.size + 1]? = some (.cells ZA 57 (0, 0))) := by
    show _ = _
    have := heap_alloc_new (w.alloc (.cells (AA f) 57)) (.cells ZA 57)
    simpa using this
  have HH0 : Hid (Below w.heap.size w ((w.alloc (.cells (AA f) 57)).alloc (.cells ZA 57))) := ((Below.refl _ _).alloc (Nat.le_refl _) _).alloc (by simp) _
  obtain ⟨B, hB⟩ : ∃ B, w.heap.size = B := ⟨_, rfl⟩
  rw [hB] at HB0 HZ0 ⊢
  have hBw : w.heap.size ≤ B := by omega
  go_loopw [10] (fun i wr => ∃ k : Nat, k ≤ n ∧ i = .int .i64 k ∧ Hid (wr.heap[B]? = some (.cells (AA (fillA d f (l.take k))) 57 (0, 0))) ∧ Hid (wr.heap[B + 1]? = some (.cells ZA 57 (0, 0))) ∧ Below w.heap.size w wr) (fun i _ => n - (intOf i).toNat)
  case atStart => exact ⟨0, Nat.zero_le _, rfl, HB0, HZ0, HH0.out⟩
  case round =>
    clear HB0 HZ0 HH0
    obtain ⟨k, hk, rfl, HK, HZ, hbel⟩ := hrel
    have hsz := hbel.size
    have hB1 : B + 1 < wr.heap.size := (Array.getElem?_eq_some_iff.1 HZ.out).1
    by_cases hlt : k < n
    · have hkl : k < l.length := by rw [← Hn.out]; exact hlt
      obtain ⟨h0, h1, h2⟩ := (Hc.out k hlt).kept hbel
      obtain ⟨⟨t1, t2⟩, s1, s2⟩ := hS.out k hkl
      have hst := fillA_take d f l k hkl
      rw [lsn_parts] at hst
      obtain ⟨t, ht⟩ := Int.eq_ofNat_of_zero_le t1
      rw [ht] at h1 t1 t2 hst
      obtain ⟨x0, hx0⟩ : ∃ x, sf l k = x := ⟨_, rfl⟩
      obtain ⟨x2, hx2⟩ : ∃ x, sm l k = x := ⟨_, rfl⟩
      rw [hx0] at h0 hst
      rw [hx2] at h2 hst s1 s2
      have bd : Below wr.heap.size wr (wr.alloc (.cells #[.int .i64 x0, .int .i64 (t : Int), .int .i64 x2] 52)) := (Below.refl _ _).alloc (Nat.le_refl _) _
      have hqc := cell_old bd (cell_old hbel Hq.out)
      have ht40 : t < 40 := by omega
      have HK2 : (wr.alloc (.cells #[.int .i64 x0, .int .i64 (t : Int), .int .i64 x2] 52)).heap[B]? = some (.cells (AA (fillA d f (l.take k))) 57 (0, 0)) := (Below.heap_alloc wr _ _ (by omega)).trans HK.out
      have hc := cell_of_row _ B t _ _ _ HK2
      have hfz := frozen_of_row _ B t _ _ HK2
      rw [AA_get _ t ht40] at hc
      have HK3 : Hid (((wr.alloc (.cells #[.int .i64 x0, .int .i64 (t : Int), .int .i64 x2] 52)).setCell ⟨B, t, none⟩ (.int .i64 (x2 + d))).heap[B]? = some (.cells (AA (fillA d f (l.take (k + 1)))) 57 (0, 0))) := Lib.hid (by
        have h := heap_setCell_same _ _ t _ _ (.int .i64 (x2 + d)) HK2
        rw [AA_set] at h
        rw [hst]
        exact h)
      have HZ3 : Hid (((wr.alloc (.cells #[.int .i64 x0, .int .i64 (t : Int), .int .i64 x2] 52)).setCell ⟨B, t, none⟩ (.int .i64 (x2 + d))).heap[B + 1]? = some (.cells ZA 57 (0, 0))) := Lib.hid ((heap_setCell_other _ _ _ _ (by show _ ≠ B; omega)).trans ((Below.heap_alloc wr _ _ hB1).trans HZ.out))
      have Hb3 : Hid (Below w.heap.size w ((wr.alloc (.cells #[.int .i64 x0, .int .i64 (t : Int), .int .i64 x2] 52)).setCell ⟨B, t, none⟩ (.int .i64 (x2 + d)))) := Lib.hid ((hbel.alloc hsz _).setCell (p := ⟨B, t, none⟩) hBw _)
      have hw1 : IntKind.i64.wrap (x2 + d) = x2 + d := IntWalk.i64_in _ (by omega)
      have hk1 : (0 : Int) ≤ k := by omega
      have hk2 : (k : Int) < n := by omega
      have hp1 : (t : Int) < 40 := by omega
      clear HK HZ HK2 hbel hst ht hx0 hx2 bd hB
      go_wp2_with fail
      go_roundw
      case rel => exact ⟨k + 1, by omega, by go_num, HK3, HZ3, Hb3.out⟩
      case measure => simp [intOf]; omega
    · obtain rfl : k = n := by omega
      have hp : l.take k = l := List.take_of_length_le (by rw [← Hn.out]; exact Nat.le_refl _)
      rw [hp] at HK
      have Hbel := Lib.hid hbel
      clear hlt hk hp hbel
      go_wp2_with (first
        | (with_reducible refine wpList_load_row rfl 57 (.tmp 3) rfl B ?u1 57 _ (0, 0) _ HK.out Try.underlying57 rfl ?u3 ?_)
        | (with_reducible refine wpList_store_row rfl 57 (.tmp 5) (.tmp 22) rfl (B + 1) (AA (fillA d f l)) ?v1 ?v2 57 _ HZ.out ?v3 ?v4 ?v5 ?_))
      any_goals first | rfl | (rw [infoA, AA_size]; done) | (rw [AA_size]; rfl) | exact AA_one _
      refine bodyPost_ret (results_cell_row rfl _ _ (B + 1) 57 _ (0, 0) _ rfl (setRow_heap _ _ _ _ _ _ HZ.out) Try.underlying57 rfl ?_) rfl ⟨rfl, below_setRow Hbel.out (by omega) _⟩
      rw [infoA, AA_size]

set_option maxRecDepth 20000 in
theorem fill_zero (ao : Option Addr) (cap q : Nat) (f : Int → Int) (w : World) :
    Calls Try.prog 88 #[.agg (AA f), .slice ao 0 cap, .pointer (some ⟨q, 0, none⟩)] w fun e w' => e = .returned (.agg (AA f)) ∧ Below w.heap.size w w' := by
  go_enter Try.func88, Try.ntmps88
  go_upto_region 2 with (fail)
  rw [← ZA_eq]
  have HB0 : Hid (((w.alloc (.cells (AA f) 57)).alloc (.cells ZA 57)).heap[w.heap.size]? = some (.cells (AA f) 57 (0, 0))) := by
    show _ = _
    rw [Below.heap_alloc _ _ _ (by simp), heap_alloc_new]
  have HZ0 : Hid (((w.alloc (.cells (AA f) 57)).alloc (.cells ZA 57)).heap[w.heap.size + 1]? = some (.cells ZA 57 (0, 0))) := by
    show _ = _
    have := heap_alloc_new (w.alloc (.cells (AA f) 57)) (.cells ZA 57)
    simpa using this
  have HH0 : Hid (Below w.heap.size w ((w.alloc (.cells (AA f) 57)).alloc (.cells ZA 57))) := ((Below.refl _ _).alloc (Nat.le_refl _) _).alloc (by simp) _
  go_loopw [10] (fun i wr => i = .int .i64 0 ∧ Hid (wr.heap[w.heap.size]? = some (.cells (AA f) 57 (0, 0))) ∧ Hid (wr.heap[w.heap.size + 1]? = some (.cells ZA 57 (0, 0))) ∧ Below w.heap.size w wr) (fun _ _ => 0)
  case atStart => exact ⟨rfl, HB0, HZ0, HH0.out⟩
  case round =>
    clear HB0 HZ0 HH0
    obtain ⟨rfl, HK, HZ, hbel⟩ := hrel
    have Hbel := Lib.hid hbel
    clear hbel
    go_wp2_with (first
      | (with_reducible refine wpList_load_row rfl 57 (.tmp 3) rfl w.heap.size ?u1 57 _ (0, 0) _ HK.out Try.underlying57 rfl ?u3 ?_)
      | (with_reducible refine wpList_store_row rfl 57 (.tmp 5) (.tmp 22) rfl (w.heap.size + 1) (AA f) ?v1 ?v2 57 _ HZ.out ?v3 ?v4 ?v5 ?_))
    any_goals first | rfl | (rw [infoA, AA_size]; done) | (rw [AA_size]; rfl) | exact AA_one _
    refine bodyPost_ret (results_cell_row rfl _ _ (w.heap.size + 1) 57 _ (0, 0) _ rfl (setRow_heap _ _ _ _ _ _ HZ.out) Try.underlying57 rfl ?_) rfl ⟨rfl, below_setRow Hbel.out (by omega) _⟩
    rw [infoA, AA_size]

theorem fill_any (ao : Option Addr) (cap q : Nat) (f : Int → Int) (d : Int) (l : List Snd) (n : Nat) (w : World) (Hn : Hid (n = l.length)) (hn : n ≤ 1048576) (hq : w.cell? ⟨q, 0, none⟩ = some (.int .i64 d)) (hS : Hid (SmallS d l)) (Hc : SendsAt w ao l) :
    Calls Try.prog 88 #[.agg (AA f), .slice ao n cap, .pointer (some ⟨q, 0, none⟩)] w fun e w' => e = .returned (.agg (AA (fillA d f l))) ∧ Below w.heap.size w w' := by
  by_cases h0 : n = 0
  · subst h0
    have : l = [] := List.eq_nil_of_length_eq_zero Hn.out.symm
    subst this
    exact fill_zero ao cap q f w
  · rcases Hc with h | ⟨b, off, rfl, hc⟩
    · subst h; exact absurd Hn.out h0
    · exact fill_pos b off cap q f d l n w Hn hn hq hS (by rw [Hn.out]; exact hc)

end Go.Proofs.Ytghfkgbmmkcjhaa
