/- Is a pair one of a network: the model. -/
import Derived.Test.YtibjapfaljeclaaDoorNeA
namespace Go.Proofs.YtibjapfaljeclaaDoor
open Go.ChangeShapes Go.WideShapes Go.ChangeAt Go.RowKit
set_option linter.unusedVariables false

theorem l1Least_any (a b : Int) (w : World) : Calls Tryd.prog 43 #[.int .i64 a, .int .i64 b] w fun e w' => e = .returned (.int .i64 (min a b)) ∧ w = w' := by
  by_cases h : a < b
  · rw [show min a b = a by omega]
    go_enter Tryd.func43, Tryd.ntmps43
    go_wp2_with fail
    go_ret
    exact ⟨rfl, rfl⟩
  · rw [show min a b = b by omega]
    go_enter Tryd.func43, Tryd.ntmps43
    go_wp2_with fail
    go_ret
    exact ⟨rfl, rfl⟩

theorem l1Most_any (a b : Int) (w : World) : Calls Tryd.prog 44 #[.int .i64 a, .int .i64 b] w fun e w' => e = .returned (.int .i64 (max a b)) ∧ w = w' := by
  by_cases h : b < a
  · rw [show max a b = a by omega]
    go_enter Tryd.func44, Tryd.ntmps44
    go_wp2_with fail
    go_ret
    exact ⟨rfl, rfl⟩
  · rw [show max a b = b by omega]
    go_enter Tryd.func44, Tryd.ntmps44
    go_wp2_with fail
    go_ret
    exact ⟨rfl, rfl⟩

set_option maxRecDepth 20000 in
theorem caPair_any (a b : Int) (w : World) : Calls Tryd.prog 25 #[.int .i64 a, .int .i64 b] w fun e w' => e = .returned (.agg #[.int .i64 (min a b), .int .i64 (max a b)]) ∧ w.alloc (.cells #[.int .i64 (min a b), .int .i64 (max a b)] 35) = w' := by
  obtain ⟨x, hx⟩ : ∃ x, x = min a b := ⟨_, rfl⟩
  obtain ⟨y, hy⟩ : ∃ y, y = max a b := ⟨_, rfl⟩
  have Hx := Lib.hid hx.symm
  have Hy := Lib.hid hy.symm
  rw [← hx, ← hy]
  clear hx hy
  go_enter Tryd.func25, Tryd.ntmps25
  go_wp2_with (first
    | (go_at_call 43; refine (l1Least_any a b _).mono ?_; rintro e w' ⟨rfl, rfl⟩; rw [Hx.out])
    | (go_at_call 44; refine (l1Most_any a b _).mono ?_; rintro e w' ⟨rfl, rfl⟩; rw [Hy.out])
    | fail)
  exact bodyPost_ret (v := .agg #[.int .i64 x, .int .i64 y]) (by simp [results, Tryd.results25, go_sem]) rfl ⟨rfl, rfl⟩

/-- Is this pair one of a list. -/
def hasC (l : List (Int × Int)) (x y : Int) : Bool := l.any fun p => p.1 == x && p.2 == y
theorem has_yes {l : List (Int × Int)} {x y : Int} {k : Nat} (hk : k < l.length) (h1 : ca l k = x) (h2 : cb l k = y) : hasC l x y = true := by
  unfold hasC
  rw [List.any_eq_true]
  exact ⟨l[k], List.getElem_mem hk, by rw [ca_cb l k hk, h1, h2]; simp⟩
theorem has_no {l : List (Int × Int)} {x y : Int} (h : ∀ k, k < l.length → ¬ (ca l k = x ∧ cb l k = y)) : hasC l x y = false := by
  unfold hasC
  rw [List.any_eq_false]
  intro p hp
  obtain ⟨k, hk, rfl⟩ := List.getElem_of_mem hp
  rw [ca_cb l k hk]
  simpa using h k hk

theorem caPair_grown (a b : Int) (w : World) : Calls Tryd.prog 25 #[.int .i64 a, .int .i64 b] w fun e w' => e = .returned (.agg #[.int .i64 (min a b), .int .i64 (max a b)]) ∧ ∃ q os', w' = Sort.grow (w.drewN q) os' := by
  refine (caPair_any a b w).mono ?_
  rintro e w' ⟨rfl, rfl⟩
  exact ⟨rfl, 0, _, by rw [Sort.alloc_eq_grow]; rfl⟩

set_option maxRecDepth 20000 in
theorem neIs_pos (b off cap : Nat) (l : List (Int × Int)) (n : Nat) (x y X Y : Int) (w : World) (Hn : Hid (n = l.length)) (hn : n ≤ 1048576) (HX : Hid (min x y = X ∧ max x y = Y))
    (Hc : Hid (∀ i, i < n → w.cell? ⟨b, off + i * 2, none⟩ = some (.int .i64 (ca l i)) ∧ w.cell? ⟨b, off + i * 2 + 1, none⟩ = some (.int .i64 (cb l i)))) :
    Calls Tryd.prog 35 #[.slice (some ⟨b, off, none⟩) n cap, .int .i64 x, .int .i64 y] w fun e w' => e = .returned (.bool (hasC l X Y)) ∧ Below w.heap.size w w' := by
  go_enter Tryd.func35, Tryd.ntmps35
  go_wp2_with fail
  go_loopw [11] (fun i wr => ∃ k : Nat, k ≤ n ∧ i = .int .i64 k ∧ Hid (∀ j, j < k → ¬ (ca l j = X ∧ cb l j = Y)) ∧ Below w.heap.size w wr) (fun i _ => n - (intOf i).toNat)
  case atStart => exact ⟨0, Nat.zero_le _, rfl, Lib.hid (fun j h => absurd h (Nat.not_lt_zero j)), Below.refl _ _⟩
  case round =>
    obtain ⟨k, hk, rfl, hall, hbel⟩ := hrel
    by_cases hlt : k < n
    · have h0 := hbel.cell (p := ⟨b, off + k * 2, none⟩) (World.block_lt_of_cell? w _ (Hc.out k hlt).1)
      have h1 := hbel.cell (p := ⟨b, off + k * 2 + 1, none⟩) (World.block_lt_of_cell? w _ (Hc.out k hlt).2)
      rw [(Hc.out k hlt).1] at h0
      rw [(Hc.out k hlt).2] at h1
      have hs2 := hbel.size
      have hk0 : (0 : Int) ≤ k := by omega
      have hk2 : (k : Int) < n := by omega
      obtain ⟨wr2, hwr2⟩ : ∃ wr2, wr2 = wr := ⟨_, rfl⟩
      subst hwr2
      obtain ⟨P, hP⟩ : ∃ P : Int, ca l k = P := ⟨_, rfl⟩
      obtain ⟨Q, hQ⟩ : ∃ Q : Int, cb l k = Q := ⟨_, rfl⟩
      rw [hP] at h0
      rw [hQ] at h1
      have HPe := Lib.hid hP
      have HQe := Lib.hid hQ
      clear hP hQ
      obtain ⟨W, hW⟩ : ∃ W, wr2.alloc (Obj.cells #[Value.int IntKind.i64 P, Value.int IntKind.i64 Q] 35) = W := ⟨_, rfl⟩
      have c0 : W.cell? ⟨wr2.heap.size, 0, none⟩ = some (.int .i64 P) := by rw [← hW]; simp
      have c1 : W.cell? ⟨wr2.heap.size, 1, none⟩ = some (.int .i64 Q) := by rw [← hW]; simp
      have HbW : Hid (Below w.heap.size w W) := by rw [← hW]; exact hbel.alloc hs2 _
      have hBW : wr2.heap.size < W.heap.size := World.block_lt_of_cell? _ _ c0
      have c0g : ∀ n os, (Sort.grow (W.drewN n) os).cell? ⟨wr2.heap.size, 0, none⟩ = some (.int .i64 P) := cell_grown hBW c0
      have c1g : ∀ n os, (Sort.grow (W.drewN n) os).cell? ⟨wr2.heap.size, 1, none⟩ = some (.int .i64 Q) := cell_grown hBW c1
      have hca : ∀ n os, Calls Tryd.prog 25 #[.int .i64 x, .int .i64 y] (Sort.grow (W.drewN n) os) fun e w' => e = .returned (.agg #[.int .i64 X, .int .i64 Y]) ∧ ∃ q os', w' = Sort.grow ((Sort.grow (W.drewN n) os).drewN q) os' := fun n os => by have := caPair_grown x y (Sort.grow (W.drewN n) os); rw [HX.out.1, HX.out.2] at this; exact this
      by_cases hPX : P = X
      · by_cases hQY : Q = Y
        · have q1 : (P == X) = true := by simpa using hPX
          have q2 : (Q == Y) = true := by simpa using hQY
          have Hyes : Hid (hasC l X Y = true) := Lib.hid (has_yes (k := k) (by rw [← Hn.out]; exact hlt) (by rw [HPe.out, hPX]) (by rw [HQe.out, hQY]))
          clear hPX hQY
          go_wp2_with fail
          try rw [hW]
          clear hW
          refine wp_region_quiet_grown mixedT (by kernel_rfl) ?_
          repeat (go_big_quiet_step (first | refine Calls.grown_of (hca _ _)))
          refine wpQuiet_nil ?_
          intro _ hwz
          obtain ⟨⟨nq, osq⟩, hwz2⟩ := hwz
          subst hwz2
          have hb6 : Below w.heap.size w (Sort.grow (W.drewN nq) osq) := HbW.out.trans ((grown_below ⟨⟨nq, osq⟩, rfl⟩).mono HbW.out.size)
          have HB6 := Lib.hid hb6
          clear hb6 h0 h1 c0 c1 c0g c1g hca
          generalize Sort.grow (W.drewN nq) osq = w3 at *
          go_wp2_with fail
          go_ret
          exact ⟨ret_bool Hyes.out.symm, HB6.out⟩
        · have q1 : (P == X) = true := by simpa using hPX
          have q2 : (Q == Y) = false := by simpa using hQY
          have Hall : Hid (∀ j, j < k + 1 → ¬ (ca l j = X ∧ cb l j = Y)) := Lib.hid (fun i h2 => by
            by_cases hik : i = k
            · subst hik; rw [HQe.out]; exact fun h => hQY h.2
            · exact hall.out i (by omega))
          clear hPX hQY
          go_wp2_with fail
          try rw [hW]
          clear hW
          refine wp_region_quiet_grown mixedT (by kernel_rfl) ?_
          repeat (go_big_quiet_step (first | refine Calls.grown_of (hca _ _)))
          refine wpQuiet_nil ?_
          intro _ hwz
          obtain ⟨⟨nq, osq⟩, hwz2⟩ := hwz
          subst hwz2
          have hb6 : Below w.heap.size w (Sort.grow (W.drewN nq) osq) := HbW.out.trans ((grown_below ⟨⟨nq, osq⟩, rfl⟩).mono HbW.out.size)
          have HB6 := Lib.hid hb6
          clear hb6 h0 h1 c0 c1 c0g c1g hca
          generalize Sort.grow (W.drewN nq) osq = w3 at *
          go_wp2_with fail
          go_roundw
          case rel => exact ⟨k + 1, by omega, by go_num, Hall, HB6.out⟩
          case measure => simp [intOf]; omega
      · have q1 : (P == X) = false := by simpa using hPX
        have Hall : Hid (∀ j, j < k + 1 → ¬ (ca l j = X ∧ cb l j = Y)) := Lib.hid (fun i h2 => by
          by_cases hik : i = k
          · subst hik; rw [HPe.out]; exact fun h => hPX h.1
          · exact hall.out i (by omega))
        clear hPX
        go_wp2_with fail
        try rw [hW]
        clear hW
        refine wp_region_quiet_grown mixedT (by kernel_rfl) ?_
        repeat (go_big_quiet_step (first | refine Calls.grown_of (hca _ _)))
        refine wpQuiet_nil ?_
        intro _ hwz
        obtain ⟨⟨nq, osq⟩, hwz2⟩ := hwz
        subst hwz2
        have hb6 : Below w.heap.size w (Sort.grow (W.drewN nq) osq) := HbW.out.trans ((grown_below ⟨⟨nq, osq⟩, rfl⟩).mono HbW.out.size)
        have HB6 := Lib.hid hb6
        clear hb6 h0 h1 c0 c1 c0g c1g hca
        generalize Sort.grow (W.drewN nq) osq = w3 at *
        go_wp2_with fail
        go_roundw
        case rel => exact ⟨k + 1, by omega, by go_num, Hall, HB6.out⟩
        case measure => simp [intOf]; omega
    · obtain rfl : k = n := by omega
      have Hno : Hid (hasC l X Y = false) := Lib.hid (has_no (fun j hj => hall.out j (by rw [Hn.out]; exact hj)))
      go_wp2_with fail
      go_ret
      exact ⟨ret_bool Hno.out.symm, hbel⟩

theorem neIs_zero (ao : Option Addr) (cap : Nat) (x y : Int) (w : World) : Calls Tryd.prog 35 #[.slice ao 0 cap, .int .i64 x, .int .i64 y] w fun e w' => e = .returned (.bool false) ∧ w = w' := by
  go_enter Tryd.func35, Tryd.ntmps35
  go_wp2_with fail
  go_rounds 1
  go_ret
  exact ⟨rfl, rfl⟩

theorem neIs_any (ao : Option Addr) (cap : Nat) (l : List (Int × Int)) (n : Nat) (x y : Int) (w : World) (Hn : Hid (n = l.length)) (hn : n ≤ 1048576) (Hc : CallsAt w ao l) :
    Calls Tryd.prog 35 #[.slice ao n cap, .int .i64 x, .int .i64 y] w fun e w' => e = .returned (.bool (hasC l (min x y) (max x y))) ∧ Below w.heap.size w w' := by
  rcases Hc with h | ⟨b, off, rfl, hc⟩
  · subst h
    have h0 : n = 0 := Hn.out
    subst h0
    refine (neIs_zero ao cap x y w).mono ?_
    rintro e w' ⟨rfl, rfl⟩
    exact ⟨rfl, Below.refl _ _⟩
  · exact neIs_pos b off cap l n x y _ _ w Hn hn ⟨rfl, rfl⟩ (by rw [Hn.out]; exact hc)


end Go.Proofs.YtibjapfaljeclaaDoor
