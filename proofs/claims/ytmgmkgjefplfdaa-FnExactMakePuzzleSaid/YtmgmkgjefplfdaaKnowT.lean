/- What is known behind a call, in the program. -/
import Derived.Test.YtmgmkgjefplfdaaKnow0
namespace Go.Proofs.Ytmgmkgjefplfdaa
open Go.ChangeShapes Go.WideShapes Go.ChangeAt Go.RowKit
set_option linter.unusedVariables false

theorem both_any (a b : Int) (x y : Nat) (w : World) (hx : x < 1024) (hy : y < 1024) :
    Calls Try.prog 152 #[.agg #[.int .i64 a, .int .i64 b, .int .u16 x, .int .u16 y]] w fun e w' => e = .returned (.int .u16 ((x ||| y : Nat) : Int)) ∧ Below w.heap.size w w' := by
  have HO := bits_or_nat x y hx hy
  clear hx hy
  go_enter Try.func152, Try.ntmps152
  go_wp2
  go_ret
  exact ⟨rfl, by go_grown⟩

theorem range_below {w w2 : World} {g : Nat} {K : Array Value} {t : TypeId} (h : w.heap[g]? = some (.cells K t (0, 0))) (hb : Below w.heap.size w w2) : w2.heap[g]? = some (.cells K t (0, 0)) :=
  (hb.block _ (Array.getElem?_eq_some_iff.1 h).1).trans h

theorem cell_belowK {w w2 : World} {a : Addr} {v : Value} (h : w.cell? a = some v) (hb : Below w.heap.size w w2) : w2.cell? a = some v := (hb.cell (World.block_lt_of_cell? w _ h)).trans h

theorem three (w : World) (K C Z : Array Value) (tc : TypeId) : (((w.alloc (.cells K 133)).alloc (.cells C tc)).alloc (.cells Z 133)).heap[w.heap.size]? = some (.cells K 133 (0, 0)) ∧ (((w.alloc (.cells K 133)).alloc (.cells C tc)).alloc (.cells Z 133)).heap[w.heap.size + 1]? = some (.cells C tc (0, 0)) ∧ (((w.alloc (.cells K 133)).alloc (.cells C tc)).alloc (.cells Z 133)).heap[w.heap.size + 1 + 1]? = some (.cells Z 133 (0, 0)) ∧ Below w.heap.size w (((w.alloc (.cells K 133)).alloc (.cells C tc)).alloc (.cells Z 133)) := by
  refine ⟨?_, ?_, ?_, (((Below.refl _ _).alloc (Nat.le_refl _) _).alloc (by simp) _).alloc (by simp; omega) _⟩
  · rw [Below.heap_alloc _ _ _ (by simp; omega), Below.heap_alloc _ _ _ (by simp), heap_alloc_new]
  · rw [Below.heap_alloc _ _ _ (by simp)]
    have := heap_alloc_new (w.alloc (.cells K 133)) (.cells C tc)
    simpa using this
  · have := heap_alloc_new ((w.alloc (.cells K 133)).alloc (.cells C tc)) (.cells Z 133)
    simpa using this

/-- What the callee keeps: the three blocks. -/
structure Three (tc : TypeId) (w : World) (K : Array Value) (C : Array Value) (B : Nat) (w3 : World) : Prop where
  k : w3.heap[B]? = some (.cells K 133 (0, 0))
  c : w3.heap[B + 1]? = some (.cells C tc (0, 0))
  z : w3.heap[B + 1 + 1]? = some (.cells ZA 133 (0, 0))
  b : Below B w w3
  s : B ≤ w3.heap.size

theorem Three.later {w w3 w4 : World} {K C : Array Value} {B tc : Nat} (h : Three tc w K C B w3) (hb : Below w3.heap.size w3 w4) : Three tc w K C B w4 :=
  ⟨range_below h.k hb, range_below h.c hb, range_below h.z hb, h.b.trans (hb.mono h.s), Nat.le_trans h.s hb.size⟩

theorem Three.drew {w w3 : World} {K C : Array Value} {B tc : Nat} (h : Three tc w K C B w3) : Three tc w K C B w3.drew := ⟨h.k, h.c, h.z, h.b.drew, h.s⟩

theorem Three.store {w w3 : World} {K C : Array Value} {B tc : Nat} (h : Three tc w K C B w3) (i : Nat) (v : Value) : Three tc w (K.setIfInBounds i v) C B (w3.setCell ⟨B, i, none⟩ v) :=
  ⟨heap_setCell_same _ _ _ _ _ _ h.k, by rw [heap_setCell_other _ _ _ _ (by show _ ≠ B; omega)]; exact h.c, by rw [heap_setCell_other _ _ _ _ (by show _ ≠ B; omega)]; exact h.z, h.b.setCell (by show B ≤ B; omega) _, by simpa using h.s⟩

theorem Three.cellC {w w3 : World} {K C : Array Value} {B tc : Nat} (h : Three tc w K C B w3) (j : Nat) (v : Value) (hv : C[j]? = some v) : w3.cell? ⟨B + 1, j, none⟩ = some v := (cell_of_row _ _ j _ _ _ h.c).trans hv

theorem Three.cellK {w w3 : World} {K C : Array Value} {B tc : Nat} (h : Three tc w K C B w3) (j : Nat) (v : Value) (hv : K[j]? = some v) : w3.cell? ⟨B, j, none⟩ = some v := (cell_of_row _ _ j _ _ _ h.k).trans hv

theorem Three.free {w w3 : World} {K C : Array Value} {B tc : Nat} (h : Three tc w K C B w3) (j : Nat) : w3.frozen? ⟨B, j, none⟩ = false := frozen_of_row _ _ _ _ _ h.k

set_option maxHeartbeats 1600000 in
set_option maxRecDepth 20000 in
theorem behindCallers_any (K : Array Value) (a b x y : Nat) (w : World) (hK : K.size = 11) (h1 : K.all (·.oneCell') = true) (hab : a < b) (b1 : b < 10) (hx : x < 1024) (hy : y < 1024) :
    Calls Try.prog 151 #[.agg K, .agg #[.int .i64 a, .int .i64 b, .int .u16 x, .int .u16 y]] w fun e w' => e = .returned (.agg ((K.setIfInBounds (1 + a) (.int .u16 ((x ||| y : Nat) : Int))).setIfInBounds (1 + b) (.int .u16 ((x ||| y : Nat) : Int)))) ∧ Below w.heap.size w w' := by
  have a2 : (a : Int) < 10 := by omega
  have b2 : (b : Int) < 10 := by omega
  have a0 : (0 : Int) ≤ a := by omega
  have b0 : (0 : Int) ≤ b := by omega
  obtain ⟨va, hva⟩ : ∃ v, K[1 + a]? = some v := ⟨_, Array.getElem?_eq_getElem (by omega)⟩
  obtain ⟨vb, hvb⟩ : ∃ v, (K.setIfInBounds (1 + a) (.int .u16 ((x ||| y : Nat) : Int)))[1 + b]? = some v := ⟨_, Array.getElem?_eq_getElem (by rw [Array.size_setIfInBounds]; omega)⟩
  have HVA := Lib.hid hva
  have HVB := Lib.hid hvb
  have HK := Lib.hid hK
  have HK1 := Lib.hid h1
  have Hx := Lib.hid hx
  have Hy := Lib.hid hy
  clear hK h1 hx hy hva hvb
  go_enter Try.func151, Try.ntmps151
  go_wp2_with fail
  have hZ : ZA = #[.int .i64 0, .int .u16 0, .int .u16 0, .int .u16 0, .int .u16 0, .int .u16 0, .int .u16 0, .int .u16 0, .int .u16 0, .int .u16 0, .int .u16 0] := rfl
  have h3 := three w K #[.int .i64 a, .int .i64 b, .int .u16 x, .int .u16 y] ZA 148
  have T0 : Hid (Three 148 w K #[.int .i64 a, .int .i64 b, .int .u16 x, .int .u16 y] w.heap.size (((w.alloc (.cells K 133)).alloc (.cells #[.int .i64 a, .int .i64 b, .int .u16 x, .int .u16 y] 148)).alloc (.cells ZA 133))) := ⟨h3.1, h3.2.1, h3.2.2.1, h3.2.2.2, h3.2.2.2.size⟩
  rw [← hZ]
  generalize ((w.alloc (.cells K 133)).alloc (.cells #[.int .i64 a, .int .i64 b, .int .u16 x, .int .u16 y] 148)).alloc (.cells ZA 133) = w3 at T0 ⊢
  generalize hBd : w.heap.size = B at T0 ⊢
  have HBd := Lib.hid hBd
  clear hBd
  clear hZ h3
  go_cut [] from 5 (fun wr => Hid (Three 148 w (K.setIfInBounds (1 + a) (.int .u16 ((x ||| y : Nat) : Int))) #[.int .i64 a, .int .i64 b, .int .u16 x, .int .u16 y] B wr))
  case first =>
    have c0 := T0.out.cellC 0 _ rfl
    have c1 := T0.out.cellC 1 _ rfl
    have c2 := T0.out.cellC 2 _ rfl
    have c3 := T0.out.cellC 3 _ rfl
    have k0 := T0.out.cellK _ _ HVA.out
    have k1 := T0.out.free (1 + a)
    have T1 := Lib.hid T0.out.drew
    go_region_with (go_at_call 152; refine (both_any _ _ x y _ Hx.out Hy.out).mono ?_; rintro e w4 ⟨rfl, hb4⟩; have T4 := Lib.hid (T1.out.later hb4); clear hb4; have d0 := T4.out.cellC 0 _ rfl; have d1 := T4.out.cellK _ _ HVA.out; have d2 := T4.out.free (1 + a))
    all_goals (go_wp2_with fail; go_meet; (case rel => exact T4.out.store (1 + a) _))
  case rest =>
  clear T0
  go_wp2_with fail
  go_cut [] from 12 (fun wr => Hid (Three 148 w ((K.setIfInBounds (1 + a) (.int .u16 ((x ||| y : Nat) : Int))).setIfInBounds (1 + b) (.int .u16 ((x ||| y : Nat) : Int))) #[.int .i64 a, .int .i64 b, .int .u16 x, .int .u16 y] B wr))
  case first =>
    have c0 := hcut.out.cellC 0 _ rfl
    have c1 := hcut.out.cellC 1 _ rfl
    have c2 := hcut.out.cellC 2 _ rfl
    have c3 := hcut.out.cellC 3 _ rfl
    have k0 := hcut.out.cellK _ _ HVB.out
    have k1 := hcut.out.free (1 + b)
    have T1 := Lib.hid hcut.out.drew
    go_region_with (go_at_call 152; refine (both_any _ _ x y _ Hx.out Hy.out).mono ?_; rintro e w4 ⟨rfl, hb4⟩; have T4 := Lib.hid (T1.out.later hb4); clear hb4; have d0 := T4.out.cellC 1 _ rfl; have d1 := T4.out.cellK _ _ HVB.out; have d2 := T4.out.free (1 + b))
    all_goals (go_wp2_with fail; go_meet; (case rel => exact T4.out.store (1 + b) _))
  case rest =>
  go_wp2_with (first
    | (with_reducible refine wpList_load_row rfl 133 (.tmp 2) rfl B ?q1 133 _ (0, 0) _ hcut.out.k Try.underlying133 rfl ?q3 ?_)
    | (with_reducible refine wpList_store_row rfl 133 (.tmp 4) (.tmp 19) rfl (B + 1 + 1) ((K.setIfInBounds (1 + a) (.int .u16 ((x ||| y : Nat) : Int))).setIfInBounds (1 + b) (.int .u16 ((x ||| y : Nat) : Int))) ?r1 ?r2 133 _ hcut.out.z ?r3 ?r4 ?r5 ?_))
  any_goals first | rfl | (rw [info133, Array.size_setIfInBounds, Array.size_setIfInBounds, HK.out]; done) | (rw [Array.size_setIfInBounds, Array.size_setIfInBounds, HK.out]; rfl) | exact all_set (all_set HK1.out rfl) rfl
  refine bodyPost_ret (results_cell_row rfl _ _ (B + 1 + 1) 133 _ (0, 0) _ rfl (setRow_heap _ _ _ _ _ _ hcut.out.z) Try.underlying133 rfl ?_) rfl ⟨rfl, ?_⟩
  · rw [info133, Array.size_setIfInBounds, Array.size_setIfInBounds, HK.out]
  · rw [HBd.out]
    exact below_setRow hcut.out.b (by omega) _

theorem behindCallers_st (f : Int) (s : Nat → Nat) (a b : Nat) (w : World) (hs : ∀ i, s i < 1024) (hab : a < b) (hb : b < 10) :
    Calls Try.prog 151 #[.agg (KA f s), .agg #[.int .i64 a, .int .i64 b, .int .u16 (s a), .int .u16 (s b)]] w fun e w' => e = .returned (.agg (KA f (stp s (a, b)))) ∧ Below w.heap.size w w' := by
  refine (behindCallers_any (KA f s) a b (s a) (s b) w (KA_size f s) (KA_one f s) hab hb (hs a) (hs b)).mono ?_
  rintro e w' ⟨rfl, hb'⟩
  rw [KA_set, KA_set]
  exact ⟨rfl, hb'⟩

end Go.Proofs.Ytmgmkgjefplfdaa
