/- How sends compare. -/
import Derived.Test.YtghfkgbmmkcjhaaArr
import Derived.Shelf.SlSortCmp.QuietGrown
namespace Go.Proofs.Ytghfkgbmmkcjhaa
open Go.ChangeShapes Go.WideShapes Go.ChangeAt Go.RowKit
set_option linter.unusedVariables false

/-- How two numbers compare. -/
def cmI (x y : Int) : Int := if x < y then -1 else if y < x then 1 else 0

theorem isNaN_any (x : Int) (w : World) : Calls Try.prog 92 #[.int .i64 x] w fun e w' => e = .returned (.bool false) ∧ w = w' := by
  have h : (x != x) = false := by simp
  go_enter Try.func92, Try.ntmps92
  go_wp2
  go_ret
  exact ⟨rfl, rfl⟩

theorem compare_any (x y : Int) (w : World) : Calls Try.prog 85 #[.int .i64 x, .int .i64 y] w fun e w' => e = .returned (.int .i64 (cmI x y)) ∧ w = w' := by
  by_cases h1 : x < y
  · have e : cmI x y = -1 := by simp [cmI, h1]
    rw [e]
    go_enter Try.func85, Try.ntmps85
    go_wp2_with fail
    refine (isNaN_any x w).mono ?_
    rintro e w' ⟨rfl, rfl⟩
    go_wp2_with fail
    refine (isNaN_any y w).mono ?_
    rintro e w' ⟨rfl, rfl⟩
    go_wp2_with fail
    go_ret
    exact ⟨rfl, rfl⟩
  · by_cases h2 : y < x
    · have e : cmI x y = 1 := by simp [cmI, h1, h2]
      rw [e]
      go_enter Try.func85, Try.ntmps85
      go_wp2_with fail
      refine (isNaN_any x w).mono ?_
      rintro e w' ⟨rfl, rfl⟩
      go_wp2_with fail
      refine (isNaN_any y w).mono ?_
      rintro e w' ⟨rfl, rfl⟩
      go_wp2_with fail
      go_ret
      exact ⟨rfl, rfl⟩
    · have e : cmI x y = 0 := by simp [cmI, h1, h2]
      rw [e]
      go_enter Try.func85, Try.ntmps85
      go_wp2_with fail
      refine (isNaN_any x w).mono ?_
      rintro e w' ⟨rfl, rfl⟩
      go_wp2_with fail
      refine (isNaN_any y w).mono ?_
      rintro e w' ⟨rfl, rfl⟩
      go_wp2_with fail
      go_ret
      exact ⟨rfl, rfl⟩

theorem or_any (b cap : Nat) (x y r : Int) (w : World) (hr : r = if x ≠ 0 then x else y) (h0 : w.cell? ⟨b, 0, none⟩ = some (.int .i64 x)) (h1 : w.cell? ⟨b, 1, none⟩ = some (.int .i64 y)) :
    Calls Try.prog 84 #[.slice (some ⟨b, 0, none⟩) 2 cap] w fun e w' => e = .returned (.int .i64 r) ∧ w = w' := by
  rw [hr]
  clear hr
  by_cases hx : x = 0
  · subst hx
    have e : (if (0 : Int) ≠ 0 then (0 : Int) else y) = y := by simp
    rw [e]
    by_cases hy : y = 0
    · subst hy
      go_enter Try.func84, Try.ntmps84
      go_wp2_with fail
      go_rounds 3
      go_ret
      exact ⟨rfl, rfl⟩
    · have ht : (y != 0) = true := by simpa using hy
      clear hy
      go_enter Try.func84, Try.ntmps84
      go_wp2_with fail
      go_rounds 2
      go_ret
      exact ⟨rfl, rfl⟩
  · have ht : (x != 0) = true := by simpa using hx
    have e : (if x ≠ 0 then x else y) = x := by simp [hx]
    rw [e]
    clear hx e
    go_enter Try.func84, Try.ntmps84
    go_wp2_with fail
    go_rounds 1
    go_ret
    exact ⟨rfl, rfl⟩

theorem grown_below {w w' : World} (h : ∃ p : GrownBy, w' = Sort.grow (w.drewN p.n) p.os) : Below w.heap.size w w' := by
  obtain ⟨p, rfl⟩ := h
  refine ⟨rfl, rfl, rfl, by simp [Sort.grow, World.drewN], fun k hk => ?_⟩
  show (w.heap ++ p.os)[k]? = w.heap[k]?
  rw [Array.getElem?_append_left hk]

theorem grown_alloc {W : World} (o : Obj) : ∃ p : GrownBy, (W.alloc o).drew = Sort.grow (W.drewN p.n) p.os := ⟨⟨1, #[o]⟩, by rw [Sort.alloc_eq_grow]; rfl⟩

theorem grown_drew {W : World} : ∃ p : GrownBy, W.drew = Sort.grow (W.drewN p.n) p.os := ⟨⟨1, #[]⟩, by rw [Sort.grow_empty]; rfl⟩

/-- How two sends compare. -/
def cmS (x y : Snd) : Int := if cmI x.at y.at ≠ 0 then cmI x.at y.at else cmI x.fr y.fr

set_option maxRecDepth 20000 in
theorem cmp_grown (a b c d e f : Int) (w : World) : Calls Try.prog 83 #[.agg #[.int .i64 a, .int .i64 b, .int .i64 c], .agg #[.int .i64 d, .int .i64 e, .int .i64 f]] w fun en w' => en = .returned (.int .i64 (cmS (a, b, c) (d, e, f))) ∧ ∃ q os', w' = Sort.grow (w.drewN q) os' := by
  go_enter Try.func83, Try.ntmps83
  go_wp2_with fail
  obtain ⟨W, hW⟩ : ∃ W, (w.alloc (Obj.cells #[Value.int IntKind.i64 a, Value.int IntKind.i64 b, Value.int IntKind.i64 c] 52)).alloc (Obj.cells #[Value.int IntKind.i64 d, Value.int IntKind.i64 e, Value.int IntKind.i64 f] 52) = W := ⟨_, rfl⟩
  have hb : ∃ os, W = Sort.grow w os := ⟨_, by rw [← hW, Sort.alloc_eq_grow, Sort.alloc_eq_grow, Sort.grow_grow]⟩
  have c0 : W.cell? ⟨w.heap.size, 0, none⟩ = some (.int .i64 a) := by rw [← hW]; simp
  have c1 : W.cell? ⟨w.heap.size, 2, none⟩ = some (.int .i64 c) := by rw [← hW]; simp
  have c2 : W.cell? ⟨w.heap.size + 1, 0, none⟩ = some (.int .i64 d) := by rw [← hW]; simp
  have c3 : W.cell? ⟨w.heap.size + 1, 2, none⟩ = some (.int .i64 f) := by rw [← hW]; simp
  have hsW : w.heap.size + 2 ≤ W.heap.size := by rw [← hW]; simp
  rw [hW]
  have Hb := Lib.hid hb
  clear hW hb
  go_region_held3 (fun w' => w'.cell? ⟨w.heap.size, 0, none⟩ = some (.int .i64 a) ∧ w'.cell? ⟨w.heap.size, 2, none⟩ = some (.int .i64 c) ∧ w'.cell? ⟨w.heap.size + 1, 0, none⟩ = some (.int .i64 d) ∧ w'.cell? ⟨w.heap.size + 1, 2, none⟩ = some (.int .i64 f) ∧ Hid (∃ p : GrownBy, w' = Sort.grow (W.drewN p.n) p.os))
    (first
      | exact ⟨c0, c1, c2, c3, grown_drew⟩
      | (refine ⟨?_, ?_, ?_, ?_, ?_⟩ <;> first | assumption | exact grown_drew | exact grown_alloc _ | go_keep))
    (first
      | (go_at_call 85; refine (compare_any _ _ _).mono ?_; rintro en w3 ⟨rfl, rfl⟩)
      | (go_at_call 84; refine (or_any _ _ (cmI c f) (cmI a d) (cmS (a, b, c) (d, e, f)) _ rfl (by simp) (by simp)).mono ?_; rintro en w3 ⟨rfl, rfl⟩)
      | fail)
  rename_i hS
  obtain ⟨os, rfl⟩ := Hb.out
  obtain ⟨p, hp⟩ := hS.2.2.2.2.out
  have Hp := Lib.hid hp
  clear hp hS Hb
  go_wp2_with fail
  go_ret
  exact ⟨ret_int rfl, p.n, os ++ p.os, by rw [Hp.out]; show Sort.grow (Sort.grow (w.drewN p.n) os) p.os = _; rw [Sort.grow_grow]⟩

end Go.Proofs.Ytghfkgbmmkcjhaa
