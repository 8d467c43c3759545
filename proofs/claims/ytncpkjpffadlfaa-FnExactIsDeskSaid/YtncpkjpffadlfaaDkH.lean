/- The laws' own helpers on desks. -/
import Derived.Test.YtncpkjpffadlfaaMarks
namespace Go.Proofs.Ytncpkjpffadlfaa
open Go.ChangeShapes Go.WideShapes Go.ChangeAt Go.RowKit
set_option linter.unusedVariables false

theorem cell_old {w wr : World} {a : Addr} {v : Value} (hb : Below w.heap.size w wr) (h : w.cell? a = some v) : wr.cell? a = some v := (hb.cell (World.block_lt_of_cell? w _ h)).trans h

theorem own_base {w : World} {base b' : Nat} (hb : b' ≤ base) {e : TypeId} {size : Nat} {v : Value} {n : Nat} {xs : List Value} (h : w.ownsRow base e size v n xs) : w.ownsRow b' e size v n xs := by
  refine ⟨h.1, ?_⟩
  rcases h.2 with h2 | ⟨g, cap, cur, h1, h2, h3⟩
  · exact .inl h2
  · exact .inr ⟨g, cap, cur, h1, Nat.le_trans hb h2, h3⟩

theorem own_same {w w' : World} {base : Nat} {e : TypeId} {size : Nat} {v : Value} {n : Nat} {xs : List Value} (h : w.ownsRow base e size v n xs) (he : ∀ k, v.ownBlock = some k → w'.heap[k]? = w.heap[k]?) : w'.ownsRow base e size v n xs := by
  refine ⟨h.1, ?_⟩
  rcases h.2 with hn | ⟨g, cap, cur, rfl, hbg, hgg, rest⟩
  · exact .inl hn
  · exact .inr ⟨g, cap, cur, rfl, hbg, by rw [he g rfl]; exact hgg, rest⟩

theorem box1 (w : World) (c : Array Value) (t : TypeId) : ∃ W0, w.alloc (Obj.cells c t) = W0 ∧ Below w.heap.size w W0 ∧ W0.heap.size = w.heap.size + 1 ∧ W0.heap[w.heap.size]? = some (.cells c t (0, 0)) :=
  ⟨_, rfl, (Below.refl _ _).alloc (Nat.le_refl _) _, by simp, heap_alloc_new _ _⟩
theorem row_later {w w' : World} {b : Nat} {o : Obj} (h : w.heap[b]? = some o) (hb : Below w.heap.size w w') : w'.heap[b]? = some o := (hb.block b (Array.getElem?_eq_some_iff.1 h).1).trans h
theorem box2 (w : World) (c : Array Value) (t : TypeId) (c' : Array Value) (t' : TypeId) : ∃ W0, (w.alloc (Obj.cells c t)).alloc (Obj.cells c' t') = W0 ∧ Below w.heap.size w W0 ∧ W0.heap.size = w.heap.size + 2 ∧ W0.heap[w.heap.size]? = some (.cells c t (0, 0)) ∧ W0.heap[w.heap.size + 1]? = some (.cells c' t' (0, 0)) := by
  obtain ⟨A, hA, hb, hs, hr⟩ := box1 w c t
  refine ⟨_, rfl, by rw [hA]; exact hb.alloc (by omega) _, by rw [hA]; simp [hs], ?_, ?_⟩
  · rw [hA, Below.heap_alloc _ _ _ (by omega)]; exact hr
  · rw [hA]
    have h := heap_alloc_new A (Obj.cells c' t')
    rw [hs] at h; exact h

theorem szDesk_fit (f : Int) (ao : Option Addr) (N cap left : Nat) (w : World) (h : N ≤ left) (hl : left ≤ 1048576) :
    Calls Try.prog 10 #[.agg #[.int .i64 f, .slice ao N cap], .int .i64 (left : Int)] w fun e w' => e = .returned (.int .i64 ((left - N : Nat) : Int)) ∧ Below w.heap.size w w' := by
  have hd : decide (((left - N : Nat) : Int) < 0) = false := by simp
  go_enter Try.func10, Try.ntmps10
  go_wp2_with fail
  refine (szCallS_fit ao N cap left _ h hl).mono ?_
  rintro e w' ⟨rfl, rfl⟩
  go_wp2_with fail
  go_ret
  exact ⟨rfl, by go_grown⟩
theorem szDesk_over (f : Int) (ao : Option Addr) (N cap left : Nat) (w : World) (h : left < N) (hl : left ≤ 1048576) (hm : N ≤ 9223372036854775807) :
    Calls Try.prog 10 #[.agg #[.int .i64 f, .slice ao N cap], .int .i64 (left : Int)] w fun e w' => e = .returned (.int .i64 (-1)) ∧ Below w.heap.size w w' := by
  go_enter Try.func10, Try.ntmps10
  go_wp2_with fail
  refine (szCallS_over ao N cap left _ h hl hm).mono ?_
  rintro e w' ⟨rfl, rfl⟩
  go_wp2_with fail
  go_ret
  exact ⟨rfl, by go_grown⟩
theorem own_far {w : World} {base : Nat} {e : TypeId} {size : Nat} {v : Value} {n : Nat} {xs : List Value} {a : Addr} {u : Value} (h : w.ownsRow base e size v n xs) (hne : ∀ k, v.ownBlock = some k → k ≠ a.block) : (w.setCell a u).ownsRow base e size v n xs := own_same h (fun k hk => Below.heap_setCell _ _ _ _ (hne k hk))
theorem toDesk_any (f : Int) (ao : Option Addr) (cap : Nat) (l : List (Int × Int)) (N : Nat) (w : World) (Hn : Hid (N = l.length)) (hl : N ≤ 1048576) (Hc : CallsAt w ao l) :
    Calls Try.prog 12 #[.agg #[.int .i64 f, .slice ao N cap]] w fun e w' => ∃ g cap', e = .returned (.agg #[.int .i64 f, .slice (some ⟨g, 0, none⟩) N cap']) ∧ w'.ownsRow w.heap.size 37 2 (.slice (some ⟨g, 0, none⟩) N cap') N (cs l) ∧ Below w.heap.size w w' := by
  have HWx : Hid (∃ W, ((w.alloc (Obj.cells #[.int .i64 f, .slice ao N cap] 31)).alloc (Obj.cells #[.int .i64 0, .slice none 0 0] 24)).alloc (Obj.cells #[.int .i64 f, .slice none 0 0] 24) = W ∧ Below w.heap.size w W ∧ W.heap.size = w.heap.size + 3 ∧
      W.heap[w.heap.size + 1]? = some (.cells #[.int .i64 0, .slice none 0 0] 24 (0, 0)) ∧ W.heap[w.heap.size + 2]? = some (.cells #[.int .i64 f, .slice none 0 0] 24 (0, 0))) := by
    obtain ⟨A, hA⟩ : ∃ A, w.alloc (Obj.cells #[.int .i64 f, .slice ao N cap] 31) = A := ⟨_, rfl⟩
    have sA : A.heap.size = w.heap.size + 1 := by rw [← hA]; simp
    have bA : Below w.heap.size w A := by rw [← hA]; exact (Below.refl _ _).alloc (Nat.le_refl _) _
    obtain ⟨B, hB⟩ : ∃ B, A.alloc (Obj.cells #[.int .i64 0, .slice none 0 0] 24) = B := ⟨_, rfl⟩
    have sB : B.heap.size = w.heap.size + 2 := by rw [← hB]; simp [sA]
    have rB := heap_alloc_new A (Obj.cells #[.int .i64 0, .slice none 0 0] 24)
    rw [hB, sA] at rB
    have bB : Below w.heap.size w B := by rw [← hB]; exact bA.alloc (by omega) _
    refine ⟨B.alloc (Obj.cells #[.int .i64 f, .slice none 0 0] 24), by rw [hA, hB], bB.alloc (by omega) _, by simp [sB], ?_, ?_⟩
    · rw [Below.heap_alloc _ _ _ (by omega)]; exact rB
    · have rW := heap_alloc_new B (Obj.cells #[.int .i64 f, .slice none 0 0] 24)
      rw [sB] at rW; exact rW
  obtain ⟨W, hW, hbW, hsW, rY, rX⟩ := HWx.out
  have HT := Lib.hid (toCallS_any ao cap l N W Hn hl (Hc.kept hbW))
  have HW := Lib.hid hW
  clear hW
  go_enter Try.func12, Try.ntmps12
  go_wp2_with fail
  rw [HW.out]
  refine HT.out.mono ?_
  rintro e w2 ⟨cap2, rfl, own2, hb2⟩
  have hs2 := hb2.size
  have rX2 := (hb2.block (w.heap.size + 2) (by omega)).trans rX
  have rY2 := (hb2.block (w.heap.size + 1) (by omega)).trans rY
  have x0 : w2.cell? ⟨w.heap.size + 2, 0, none⟩ = some (.int .i64 f) := cell_of_row _ _ _ _ _ _ rX2
  have x1 : w2.cell? ⟨w.heap.size + 2, 1, none⟩ = some (.slice none 0 0) := cell_of_row _ _ _ _ _ _ rX2
  have y0 : w2.cell? ⟨w.heap.size + 1, 0, none⟩ = some (.int .i64 0) := cell_of_row _ _ _ _ _ _ rY2
  have y1 : w2.cell? ⟨w.heap.size + 1, 1, none⟩ = some (.slice none 0 0) := cell_of_row _ _ _ _ _ _ rY2
  have gx : ∀ j, w2.frozen? ⟨w.heap.size + 2, j, none⟩ = false := fun j => frozen_of_row _ _ _ _ _ rX2
  have gy : ∀ j, w2.frozen? ⟨w.heap.size + 1, j, none⟩ = false := fun j => frozen_of_row _ _ _ _ _ rY2
  have Own2 := Lib.hid own2
  have HB := Lib.hid (hbW.trans (hb2.mono hbW.size))
  have hbWs := hbW.size
  clear own2 hb2 hbW HWx rX rY rX2 rY2
  go_wp2_with fail
  have HR : Hid ((((w2.setCell ⟨w.heap.size + 1 + 1, 1, none⟩ (.slice (some ⟨W.heap.size, 0, none⟩) N cap2)).setCell ⟨w.heap.size + 1, 0, none⟩ (.int .i64 f)).setCell ⟨w.heap.size + 1, 1, none⟩ (.slice (some ⟨W.heap.size, 0, none⟩) N cap2)).ownsRow w.heap.size 37 2 (.slice (some ⟨W.heap.size, 0, none⟩) N cap2) N (cs l)) :=
    own_far (own_far (own_far (own_base hbWs Own2.out) (fun k hk => by simp [Value.ownBlock] at hk; show k ≠ w.heap.size + 1 + 1; omega)) (fun k hk => by simp [Value.ownBlock] at hk; show k ≠ w.heap.size + 1; omega)) (fun k hk => by simp [Value.ownBlock] at hk; show k ≠ w.heap.size + 1; omega)
  have HB4 := Lib.hid (((HB.out.setCell (p := ⟨w.heap.size + 1 + 1, 1, none⟩) (by show w.heap.size ≤ w.heap.size + 1 + 1; omega) (.slice (some ⟨W.heap.size, 0, none⟩) N cap2)).setCell (p := ⟨w.heap.size + 1, 0, none⟩) (by show w.heap.size ≤ w.heap.size + 1; omega) (.int .i64 f)).setCell (p := ⟨w.heap.size + 1, 1, none⟩) (by show w.heap.size ≤ w.heap.size + 1; omega) (.slice (some ⟨W.heap.size, 0, none⟩) N cap2))
  rw [hsW] at HR HB4
  obtain ⟨V, hV⟩ : ∃ V, ((w2.setCell ⟨w.heap.size + 1 + 1, 1, none⟩ (.slice (some ⟨w.heap.size + 3, 0, none⟩) N cap2)).setCell ⟨w.heap.size + 1, 0, none⟩ (.int .i64 f)).setCell ⟨w.heap.size + 1, 1, none⟩ (.slice (some ⟨w.heap.size + 3, 0, none⟩) N cap2) = V := ⟨_, rfl⟩
  have z0 : V.cell? ⟨w.heap.size + 1, 0, none⟩ = some (.int .i64 f) := by rw [← hV]; simp [go_sem, y0]
  have z1 : V.cell? ⟨w.heap.size + 1, 1, none⟩ = some (.slice (some ⟨w.heap.size + 3, 0, none⟩) N cap2) := by rw [← hV]; simp [go_sem, y1]
  rw [hV] at HR HB4 ⊢
  refine bodyPost_ret (v := .agg #[.int .i64 f, .slice (some ⟨w.heap.size + 3, 0, none⟩) N cap2]) ?_ rfl ⟨_, _, rfl, HR.out, HB4.out⟩
  simp [results, Try.results12, go_sem, z0, z1]
theorem eqDesk_own {b1 b2 : Nat} (f : Int) (v1 v2 : Value) (l : List (Int × Int)) (N M : Nat) (w : World) (hn : N = l.length) (hm : M = l.length) (hl : N ≤ 9223372036854775807) (h1 : w.ownsRow b1 37 2 v1 N (cs l)) (h2 : w.ownsRow b2 37 2 v2 M (cs l)) :
    Calls Try.prog 7 #[.agg #[.int .i64 f, v1], .agg #[.int .i64 f, v2]] w fun e w' => e = .returned (.bool true) ∧ Below w.heap.size w w' := by
  have e1 : (f != f) = false := by simp
  obtain ⟨ao, ka, rfl, hc, _⟩ := own_shape h1 hn
  obtain ⟨bo, kb, rfl, hd, _⟩ := own_shape h2 hm
  have HN := Lib.hid hn
  have HM := Lib.hid hm
  clear h1 h2 hn hm
  obtain ⟨W, hW⟩ : ∃ W, (w.alloc (Obj.cells #[.int .i64 f, .slice ao N ka] 24)).alloc (Obj.cells #[.int .i64 f, .slice bo M kb] 24) = W := ⟨_, rfl⟩
  have hbW : Below w.heap.size w W := by rw [← hW]; exact ((Below.refl _ _).alloc (Nat.le_refl _) _).alloc (by simp) _
  have HE := Lib.hid (eqCallS_any ao bo ka kb l N M W HN.out HM.out hl (hc.kept hbW) (hd.kept hbW))
  have HW := Lib.hid hW
  clear hW
  go_enter Try.func7, Try.ntmps7
  go_wp2_with fail
  rw [HW.out]
  refine HE.out.mono ?_
  rintro e w2 ⟨rfl, hb2⟩
  have HB := Lib.hid (hbW.trans (hb2.mono hbW.size))
  clear hb2
  go_wp2_with fail
  go_ret
  exact ⟨rfl, HB.out⟩
set_option maxRecDepth 20000 in
theorem markDesk_any (f : Int) (base : Nat) (v : Value) (l : List (Int × Int)) (N : Nat) (w : World) (c : Int) (hc0 : 0 ≤ c) (hc1 : c ≤ 4000000000000) (hn : N = l.length) (hl : N ≤ 1000000000000) (hown : w.ownsRow base 37 2 v N (cs l)) :
    Calls Try.prog 8 #[.agg #[.int .i64 f, v], .int .i64 c] w fun e w' => e = .returned (.int .i64 (c + 2 * (N : Int))) ∧ w'.ownsRow base 37 2 v N (cs (marks c l N)) ∧ ∃ w1, Below w.heap.size w w1 ∧ w1.grownBy w' v.ownBlock := by
  have hb : Below w.heap.size w (w.alloc (Obj.cells #[.int .i64 f, v] 24)) := (Below.refl _ _).alloc (Nat.le_refl _) _
  have HM := Lib.hid (markCallS_any base v l N _ c hc0 hc1 hn hl (own_later hown hb))
  have Hb := Lib.hid hb
  obtain ⟨ao, ca', rfl, _⟩ := own_shape hown hn
  clear hown hb hn
  go_enter Try.func8, Try.ntmps8
  go_wp2_with fail
  refine HM.out.mono ?_
  rintro e w2 ⟨rfl, own2, gr2⟩
  have HO := Lib.hid own2
  have HG := Lib.hid gr2
  clear own2 gr2
  go_wp2_with fail
  go_ret
  exact ⟨rfl, HO.out, _, Hb.out, HG.out⟩
set_option maxRecDepth 20000 in
theorem heldDesk_any (f : Int) (base : Nat) (v : Value) (l : List (Int × Int)) (N : Nat) (w : World) (c : Int) (hc0 : 0 ≤ c) (hc1 : c ≤ 4000000000000) (hn : N = l.length) (hl : N ≤ 1000000000000) (hown : w.ownsRow base 37 2 v N (cs (marks c l N))) :
    Calls Try.prog 9 #[.agg #[.int .i64 f, v], .int .i64 c] w fun e w' => e = .returned (.int .i64 (c + 2 * (N : Int))) ∧ Below w.heap.size w w' := by
  have hd : decide (c + 2 * (N : Int) < 0) = false := by simp; omega
  have hb : Below w.heap.size w (w.alloc (Obj.cells #[.int .i64 f, v] 24)) := (Below.refl _ _).alloc (Nat.le_refl _) _
  have HM := Lib.hid (heldCallS_any base v l N _ c hc0 hc1 hn hl (own_later hown hb))
  have Hb := Lib.hid hb
  obtain ⟨ao, ca', rfl, _⟩ := own_shape hown (by rw [marks_length]; exact hn)
  clear hown hb hn
  go_enter Try.func9, Try.ntmps9
  go_wp2_with fail
  refine HM.out.mono ?_
  rintro e w2 ⟨rfl, rfl⟩
  go_wp2_with fail
  go_ret
  exact ⟨rfl, Hb.out⟩

end Go.Proofs.Ytncpkjpffadlfaa
