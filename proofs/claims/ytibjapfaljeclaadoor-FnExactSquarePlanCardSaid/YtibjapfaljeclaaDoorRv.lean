/- Calls the other way around: the program. -/
import Derived.Laws.Cover3
import Derived.Shelf.SlGeneric
import Derived.Shelf.SlicesQ.Reverse
import Derived.Sort.OwnSortedInts
import Derived.Test.YtibjapfaljeclaaDoorNt
namespace Go.Proofs.YtibjapfaljeclaaDoor
open Go.ChangeShapes Go.WideShapes Go.ChangeAt Go.RowKit
set_option linter.unusedVariables false

section
open Go.Shelf Go.Lib Go.Sort
def revC_ren : Go.Shelf.Ren := ⟨fun | 35 => 42 | n => n, fun | 22 => 24 | 23 => 35 | 3 => 3 | 4 => 4 | 0 => 0 | n => n, fun | n => n⟩
theorem revC : Go.Proofs.SlLaysE0.n35 Tryd.prog revC_ren := {
  mixed := by kernel_rfl
  f35 := ⟨Tryd.f42.name, by decide, Tryd.func42.trans (congrArg some (by kernel_rfl))⟩
  t0 := Tryd.underlying0
  a0 := Tryd.isAgg0
  z0 := Tryd.sizeOf0
  v0 := Tryd.zeroValue0
  t3 := Tryd.underlying3
  a3 := Tryd.isAgg3
  z3 := Tryd.sizeOf3
  v3 := Tryd.zeroValue3
  t4 := Tryd.underlying4
  a4 := Tryd.isAgg4
  z4 := Tryd.sizeOf4
  v4 := Tryd.zeroValue4
  t22 := Tryd.underlying24
  a22 := Tryd.isAgg24
  z22 := Tryd.sizeOf24
  v22 := Tryd.zeroValue24 }

def encC (x : Int × Int) : List Value := [.int .i64 x.1, .int .i64 x.2]
theorem cs_get (l : List (Int × Int)) (t : Nat) (h : t < l.length * 2) : (cs l)[t]? = some ((encC l.toArray[t / 2]!)[t % 2]!) := by
  have hl : t / 2 < l.length := by omega
  have e : l.toArray[t / 2]! = (ca l (t / 2), cb l (t / 2)) := by
    rw [getElem!_pos l.toArray (t / 2) (by simpa using hl)]
    simpa using ca_cb l (t / 2) hl
  rw [e]
  rcases Nat.mod_two_eq_zero_or_one t with h0 | h0
  · rw [h0]
    have h1 : t = t / 2 * 2 := by omega
    have h2 := cs_even l (t / 2) hl
    rw [← h1] at h2
    rw [h2]; rfl
  · rw [h0]
    have h1 : t = t / 2 * 2 + 1 := by omega
    have h2 := cs_odd l (t / 2) hl
    rw [← h1] at h2
    rw [h2]; rfl
theorem flat_cs (l : List (Int × Int)) : (flatK encC 2 l.toArray).toList = cs l := by
  apply List.ext_getElem?
  intro t
  by_cases h : t < l.length * 2
  · rw [cs_get l t h]
    have h2 := get_flatK encC 2 l.toArray t (by simpa using h)
    rw [getElem!_pos _ t (by simpa using h)] at h2
    rw [Array.getElem?_toList, Array.getElem?_eq_getElem (by simpa using h), h2]
  · rw [List.getElem?_eq_none (by simp; omega), List.getElem?_eq_none (by rw [cs_length]; omega)]
theorem flat_get (l : List (Int × Int)) (j : Nat) (h : j < l.length * 2) : (cs l)[j]? = some ((flatK encC 2 l.toArray)[j]!) := by
  rw [cs_get l j h, get_flatK encC 2 l.toArray j (by simpa using h)]

theorem sort_own {w : World} {base g cap n m : Nat} {e : TypeId} {os : Array Obj} {l t : List (Int × Int)} (h : w.ownsRow base e 2 (.slice (some ⟨g, 0, none⟩) n cap) n (cs l)) (ht : t.length = n) :
    (Sort.grow (putRowK encC 2 (Sort.ahead w m) g 0 t.toArray) os).ownsRow base e 2 (.slice (some ⟨g, 0, none⟩) n cap) n (cs t) ∧ w.grownBy (Sort.grow (putRowK encC 2 (Sort.ahead w m) g 0 t.toArray) os) (some g) := by
  rcases h.2 with ⟨hv, _⟩ | ⟨g', cap', cur, hv, hb, hg, h1, h2, h3, h4⟩
  · cases hv
  · cases hv
    have hgl : g < w.heap.size := (Array.getElem?_eq_some_iff.1 hg).1
    have hheap : (Sort.grow (putRowK encC 2 (Sort.ahead w m) g 0 t.toArray) os).heap[g]? = some (.cells (putCells id 0 (flatK encC 2 t.toArray) cur) e (0, 0)) := by
      rw [Sort.heap_grow_old _ _ (by simpa [putRowK] using hgl)]
      simp [putRowK, putRow, Sort.mapBlock, Sort.ahead, Array.getElem?_modify, hg, Sort.onCells]
    refine ⟨⟨by rw [cs_length, ht], .inr ⟨g, cap, _, rfl, hb, hheap, h1, h2, by simp [putCells, h3], ?_⟩⟩, ?_⟩
    · apply List.ext_getElem?
      intro j
      by_cases hj : j < n * 2
      · rw [List.getElem?_take_of_lt hj, Array.getElem?_toList, flat_get t j (by rw [ht]; exact hj)]
        simp [putCells, hj, ht, show j < cur.size by omega]
      · rw [List.getElem?_take_eq_none (by omega), List.getElem?_eq_none (by rw [cs_length, ht]; omega)]
    · refine ⟨rfl, rfl, rfl, by simp [putRowK], fun k hk hne => ?_⟩
      rw [Sort.heap_grow_old _ _ (by simpa [putRowK] using hk)]
      have : g ≠ k := fun e => hne (by rw [e])
      simp [putRowK, putRow, Sort.mapBlock, Sort.ahead, Array.getElem?_modify, this]


theorem grow_none (w : World) : Sort.grow w #[] = w := by simp [Sort.grow]
theorem reverse_any (base : Nat) (v : Value) (l : List (Int × Int)) (n : Nat) (w : World) (hn : n = l.length) (hl : n ≤ 1000000) (h : w.ownsRow base 35 2 v n (cs l)) :
    Calls Tryd.prog 42 #[v] w fun e w' => e = .returned (.tuple #[]) ∧ w'.ownsRow base 35 2 v n (cs l.reverse) ∧ w.grownBy w' v.ownBlock := by
  have h2 := h.2
  rcases h2 with ⟨rfl, h0⟩ | ⟨g, cap, cur, rfl, hb, hg, _⟩
  · subst h0
    have hl0 : l = [] := List.eq_nil_of_length_eq_zero hn.symm
    subst hl0
    refine (AnyQ.slices_Reverse_empty revC none 0 w).mono ?_
    rintro e w' ⟨he, hw⟩
    subst hw
    exact ⟨he, h, ⟨rfl, rfl, rfl, Nat.le_refl _, fun _ _ _ => rfl⟩⟩
  · have hH : HoldsK encC 2 w g 0 l.toArray := by
      intro j hj
      have hj2 : j < l.length * 2 := by simpa using hj
      refine ⟨?_, by rw [Nat.zero_add]; exact h.frozenAt j⟩
      have := h.cellAt j (by rw [hn]; exact hj2)
      rw [flat_get l j hj2] at this
      rw [Nat.zero_add]; exact this
    have hcon := AnyQ.slices_Reverse revC 2 Tryd.isAgg35 Tryd.sizeOf35 encC (fun _ => rfl) (fun x v hv => by simp [encC] at hv; rcases hv with rfl | rfl <;> rfl) g 0 cap l.toArray w hH (by simp; omega)
    have e1 : l.toArray.size = n := by simp [hn]
    rw [e1] at hcon
    refine Calls.mono (P := Tryd.prog) (f := 42) hcon ?_
    rintro e w' ⟨he, m, hw⟩
    have hso := sort_own (m := m) (os := #[]) (t := l.reverse) h (by rw [List.length_reverse, hn])
    rw [grow_none] at hso
    have e2 : l.toArray.reverse = l.reverse.toArray := by simp
    rw [e2] at hw
    subst hw
    exact ⟨he, hso⟩

theorem eql_nil (a : Option Addr) (n c : Nat) (w : World) : (binOp .eql 24 (.slice a n c) (.slice none 0 0)).run Tryd.prog w = .ok (.bool a.isNone) w := by
  have := run_equal_slice_nil (P := Tryd.prog) (w := w) 24 35 a n c Tryd.underlying24
  simp [binOp, this]

set_option maxRecDepth 20000 in
theorem clone_any (base : Nat) (v : Value) (l : List (Int × Int)) (n : Nat) (w : World) (Hn : Hid (n = l.length)) (hl : n ≤ 1000) (h : w.ownsRow base 35 2 v n (cs l)) :
    Calls Tryd.prog 41 #[v] w fun e w' => ∃ v', e = .returned v' ∧ w'.ownsRow w.heap.size 35 2 v' n (cs l) ∧ Below w.heap.size w w' := by
  obtain ⟨i0, hi, hz0, hz1, hz2⟩ := info_parts info35
  have h2 := h.2
  rcases h2 with ⟨rfl, h0⟩ | ⟨g, cap, cur, rfl, hb, hg, _⟩
  · subst h0
    have hl0 : l = [] := List.eq_nil_of_length_eq_zero Hn.out.symm
    subst hl0
    have hnl := fun w => eql_nil none 0 0 w
    go_enter Tryd.func41, Tryd.ntmps41
    go_wp2_with fail
    go_ret
    exact ⟨_, rfl, World.ownsRow_nil _ _ _ _, Below.refl _ _⟩
  · have hown0 : (w.alloc (.cells #[] 35)).ownsRow w.heap.size 35 2 (.slice (some ⟨w.heap.size, 0, none⟩) 0 0) 0 [] := World.ownsRow_lit w #[] 0 (Nat.le_refl _) (by unfold maxLen; omega) rfl
    have Hown0 := Lib.hid hown0
    have Hbw : Hid (∀ j u, (cs l)[j]? = some u → (w.alloc (.cells #[] 35)).cell? ((⟨g, 0, none⟩ : Addr).add j) = some u) := Lib.hid (fun j u hu => by
      have hj : j < n * 2 := by have := (List.getElem?_eq_some_iff.1 hu).1; rw [cs_length] at this; rw [Hn.out]; exact this
      have hc := h.cellAt j hj
      rw [hu] at hc
      rw [show (⟨g, 0, none⟩ : Addr).add j = ⟨g, j, none⟩ by unfold Addr.add; split <;> simp_all]
      rw [World.cell?_of_block (w := w) (Below.heap_alloc w _ _ (World.block_lt_of_cell? w _ hc)), hc])
    clear hown0 hg h
    have hnl := fun w => eql_nil (some ⟨g, 0, none⟩) n cap w
    go_enter Tryd.func41, Tryd.ntmps41
    go_wp2_with (at_builtin; refine wpList_append_own _ rfl _ _ 24 rfl w.heap.size 35 i0 (.agg #[.int .i64 0, .int .i64 0]) 2 16 Tryd.underlying24 hi hz0 hz1 hz2 rfl (by decide) _ _ _ rfl Hown0.out ⟨g, 0, none⟩ n cap (cs l) rfl ?c0 ?c1 ?c2 ?c3 ?c4 ?c5 ?_)
    case c0 => rw [cs_length, ← Hn.out]
    case c1 => exact Hbw.out
    case c2 => exact cs_one _
    case c3 => unfold maxLen; omega
    case c4 => omega
    case c5 => simp
    intro v' w1 hown' hgr hnil
    have hown2 : w1.ownsRow w.heap.size 35 2 v' n (cs l) := by simpa using hown'
    have Hown := Lib.hid hown2
    have Hbel := Lib.hid (((Below.refl w.heap.size w).alloc (Nat.le_refl _) (.cells #[] 35)).grown hgr (by simp) (fun b hb => (Hown0.out.lt b hb).1))
    clear hown' hgr hnil hown2
    go_wp2_with fail
    go_ret
    exact ⟨_, rfl, Hown.out, Hbel.out⟩

theorem callsIn_any (base : Nat) (v : Value) (l : List (Int × Int)) (n : Nat) (w : World) (Hn : Hid (n = l.length)) (hl : n ≤ 1000) (h : w.ownsRow base 35 2 v n (cs l)) :
    Calls Tryd.prog 22 #[v] w fun e w' => ∃ v', e = .returned v' ∧ w'.ownsRow w.heap.size 35 2 v' n (cs l.reverse) ∧ Below w.heap.size w w' := by
  have H := Lib.hid h
  clear h
  go_enter Tryd.func22, Tryd.ntmps22
  go_wp2_with fail
  refine (clone_any base v l n w Hn hl H.out).mono ?_
  rintro e w1 ⟨v1, rfl, own1, hb1⟩
  have Own1 := Lib.hid own1
  clear own1
  go_wp2_with fail
  refine (reverse_any w.heap.size v1 l n w1 Hn.out (by omega) Own1.out).mono ?_
  rintro e w2 ⟨rfl, own2, hgr⟩
  have Own2 := Lib.hid own2
  have Hb := Lib.hid (hb1.grown hgr hb1.size (fun b hb => (Own1.out.lt b hb).1))
  clear own2 hgr hb1
  go_wp2_with fail
  go_ret
  exact ⟨_, rfl, Own2.out, Hb.out⟩

end

end Go.Proofs.YtibjapfaljeclaaDoor
