/- Searching for a pair's place in a network. -/
import Derived.Test.YtbddhjpofijmpaaDropA
namespace Go.Proofs.Ytbddhjpofijmpaa
open Go.ChangeShapes Go.WideShapes Go.ChangeAt Go.RowKit
set_option linter.unusedVariables false


theorem cmC_neg (a b c d : Int) : cmC (a, b) (c, d) < 0 ↔ befC (a, b) (c, d) := by
  unfold befC
  rcases Int.lt_trichotomy a c with h | h | h
  · have e : cmC (a, b) (c, d) = -1 := by simp [cmC, cmI, h]
    rw [e]; simp only; omega
  · rcases Int.lt_trichotomy b d with h' | h' | h'
    · have e : cmC (a, b) (c, d) = -1 := by simp [cmC, cmI, h, h']
      rw [e]; simp only; omega
    · have e : cmC (a, b) (c, d) = 0 := by simp [cmC, cmI, h, h']
      rw [e]; simp only; omega
    · have e : cmC (a, b) (c, d) = 1 := by
        have h1 : ¬ b < d := by omega
        simp [cmC, cmI, h, h', h1]
      rw [e]; simp only; omega
  · have e : cmC (a, b) (c, d) = 1 := by
      have h1 : ¬ a < c := by omega
      simp [cmC, cmI, h, h1]
    rw [e]; simp only; omega
theorem cmC_eq (a b c d : Int) : (cmC (a, b) (c, d) == 0) = decide (a = c ∧ b = d) := by
  rcases Int.lt_trichotomy a c with h | h | h
  · have e : cmC (a, b) (c, d) = -1 := by simp [cmC, cmI, h]
    rw [e]; simp; omega
  · rcases Int.lt_trichotomy b d with h' | h' | h'
    · have e : cmC (a, b) (c, d) = -1 := by simp [cmC, cmI, h, h']
      rw [e]; simp; omega
    · have e : cmC (a, b) (c, d) = 0 := by simp [cmC, cmI, h, h']
      rw [e]; simp; omega
    · have e : cmC (a, b) (c, d) = 1 := by
        have h1 : ¬ b < d := by omega
        simp [cmC, cmI, h, h', h1]
      rw [e]; simp; omega
  · have e : cmC (a, b) (c, d) = 1 := by
      have h1 : ¬ a < c := by omega
      simp [cmC, cmI, h, h1]
    rw [e]; simp; omega
theorem has_at {l : List (Int × Int)} (hinc : incB l = true) {X Y : Int} {k : Nat} (h1 : ∀ j, j < k → befC (ca l j, cb l j) (X, Y)) (h2 : ∀ j, k ≤ j → j < l.length → ¬ befC (ca l j, cb l j) (X, Y)) (hk : k < l.length) :
    hasC l X Y = decide (ca l k = X ∧ cb l k = Y) := by
  by_cases h : ca l k = X ∧ cb l k = Y
  · rw [has_yes hk h.1 h.2]; simp [h]
  · rw [has_no (fun j hj hh => by
      rcases Nat.lt_trichotomy j k with hl | rfl | hl
      · have := h1 j hl; rw [hh.1, hh.2] at this; unfold befC at this; omega
      · exact h hh
      · have h3 := inc_lt hinc j hl hj
        rw [hh.1, hh.2] at h3
        exact h2 k (Nat.le_refl _) hk h3)]
    simp [h]
theorem has_end {l : List (Int × Int)} {X Y : Int} (h1 : ∀ j, j < l.length → befC (ca l j, cb l j) (X, Y)) : hasC l X Y = false :=
  has_no (fun j hj hh => by have := h1 j hj; rw [hh.1, hh.2] at this; unfold befC at this; omega)

set_option maxRecDepth 20000 in
theorem bsearch_pos (b off cap : Nat) (l : List (Int × Int)) (n : Nat) (X Y : Int) (w : World) (Hn : Hid (n = l.length)) (hn : n ≤ 60) (Hinc : Hid (incB l = true))
    (Hc : Hid (∀ i, i < n → w.cell? ⟨b, off + i * 2, none⟩ = some (.int .i64 (ca l i)) ∧ w.cell? ⟨b, off + i * 2 + 1, none⟩ = some (.int .i64 (cb l i)))) :
    Calls Try.prog 58 #[.slice (some ⟨b, off, none⟩) n cap, .agg #[.int .i64 X, .int .i64 Y], .func (.func 59) #[] #[]] w fun e w' => ∃ k : Nat, e = .returned (.tuple #[.int .i64 k, .bool (hasC l X Y)]) ∧ k ≤ n ∧ (∀ j, j < k → befC (ca l j, cb l j) (X, Y)) ∧ (∀ j, k ≤ j → j < n → ¬ befC (ca l j, cb l j) (X, Y)) ∧ Below w.heap.size w w' := by
  go_enter Try.func58, Try.ntmps58
  go_wp2_with fail
  obtain ⟨W0, hW0⟩ : ∃ W0, w.alloc (Obj.cells #[Value.int IntKind.i64 X, Value.int IntKind.i64 Y] 46) = W0 := ⟨_, rfl⟩
  have c0 : W0.cell? ⟨w.heap.size, 0, none⟩ = some (.int .i64 X) := by rw [← hW0]; simp
  have c1 : W0.cell? ⟨w.heap.size, 1, none⟩ = some (.int .i64 Y) := by rw [← hW0]; simp
  have hbW : Below w.heap.size w W0 := by rw [← hW0]; exact (Below.refl _ _).alloc (Nat.le_refl _) _
  rw [hW0]
  clear hW0
  have C0 := Lib.hid c0
  have C1 := Lib.hid c1
  clear c0 c1
  go_loopw [9, 10] (fun i j wr => ∃ lo hi : Nat, i = .int .i64 lo ∧ j = .int .i64 hi ∧ lo ≤ hi ∧ hi ≤ n ∧ Hid ((∀ j, j < lo → befC (ca l j, cb l j) (X, Y)) ∧ (∀ j, hi ≤ j → j < n → ¬ befC (ca l j, cb l j) (X, Y))) ∧ Below w.heap.size w wr ∧ Below W0.heap.size W0 wr) (fun i j _ => (intOf j - intOf i).toNat)
  case atStart => exact ⟨0, n, rfl, rfl, Nat.zero_le _, Nat.le_refl _, Lib.hid ⟨fun j h => absurd h (Nat.not_lt_zero j), fun j h1 h2 => by omega⟩, hbW, Below.refl _ _⟩
  case round =>
    obtain ⟨lo, hi, rfl, rfl, hle, hhn, hI, hbel, hbel2⟩ := hrel
    have c0 := cell_old hbel2 C0.out
    have c1 := cell_old hbel2 C1.out
    by_cases hlt : lo < hi
    · obtain ⟨k, hk⟩ : ∃ k, (lo + hi) / 2 = k := ⟨_, rfl⟩
      have hm : ((lo : Int) + (hi : Int)) / 2 = (k : Int) := by omega
      have hk1 : lo ≤ k := by omega
      have hk2 : k < hi := by omega
      have h0 := cell_old hbel (Hc.out k (by omega)).1
      have h1 := cell_old hbel (Hc.out k (by omega)).2
      obtain ⟨P, hP⟩ : ∃ P : Int, ca l k = P := ⟨_, rfl⟩
      obtain ⟨Q, hQ⟩ : ∃ Q : Int, cb l k = Q := ⟨_, rfl⟩
      rw [hP] at h0
      rw [hQ] at h1
      have HPe := Lib.hid hP
      have HQe := Lib.hid hQ
      clear hP hQ
      obtain ⟨r, hr⟩ : ∃ r : Int, cmC (P, Q) (X, Y) = r := ⟨_, rfl⟩
      have hcc : ∀ n os, Calls Try.prog 59 #[.agg #[.int .i64 P, .int .i64 Q], .agg #[.int .i64 X, .int .i64 Y]] (Sort.grow (wr.drewN n) os) fun e w' => e = .returned (.int .i64 r) ∧ ∃ q os', w' = Sort.grow ((Sort.grow (wr.drewN n) os).drewN q) os' := fun n os => by have := compareCalls_grown P Q X Y (Sort.grow (wr.drewN n) os); rw [hr] at this; exact this
      have h0g : ∀ n os, (Sort.grow (wr.drewN n) os).cell? ⟨b, off + k * 2, none⟩ = some (.int .i64 P) := cell_grown (World.block_lt_of_cell? _ _ h0) h0
      have h1g : ∀ n os, (Sort.grow (wr.drewN n) os).cell? ⟨b, off + k * 2 + 1, none⟩ = some (.int .i64 Q) := cell_grown (World.block_lt_of_cell? _ _ h1) h1
      have c0g : ∀ n os, (Sort.grow (wr.drewN n) os).cell? ⟨w.heap.size, 0, none⟩ = some (.int .i64 X) := cell_grown (World.block_lt_of_cell? _ _ c0) c0
      have c1g : ∀ n os, (Sort.grow (wr.drewN n) os).cell? ⟨w.heap.size, 1, none⟩ = some (.int .i64 Y) := cell_grown (World.block_lt_of_cell? _ _ c1) c1
      by_cases hbf : befC (P, Q) (X, Y)
      · have hd : decide (r < 0) = true := by rw [← hr]; simpa using (cmC_neg P Q X Y).2 hbf
        have HI : Hid ((∀ j, j < k + 1 → befC (ca l j, cb l j) (X, Y)) ∧ (∀ j, hi ≤ j → j < n → ¬ befC (ca l j, cb l j) (X, Y))) := Lib.hid ⟨fun j hj => by
          by_cases hjk : j = k
          · rw [hjk, HPe.out, HQe.out]; exact hbf
          · have h3 := inc_lt Hinc.out (i := j) k (by omega) (by rw [← Hn.out]; omega)
            rw [HPe.out, HQe.out] at h3
            exact befC_trans h3 hbf, hI.out.2⟩
        clear hbf hr
        go_wp2_with fail
        refine wp_region_quiet_grown mixedT (by kernel_rfl) ?_
        repeat (go_big_quiet_step (first | refine Calls.grown_of (hcc _ _)))
        refine wpQuiet_nil ?_
        intro _ hwz
        obtain ⟨⟨nq, osq⟩, hwz2⟩ := hwz
        subst hwz2
        have HB6 : Hid (Below w.heap.size w (Sort.grow (wr.drewN nq) osq)) := Lib.hid (hbel.trans ((grown_below ⟨⟨nq, osq⟩, rfl⟩).mono hbel.size))
        have HB7 : Hid (Below W0.heap.size W0 (Sort.grow (wr.drewN nq) osq)) := Lib.hid (hbel2.trans ((grown_below ⟨⟨nq, osq⟩, rfl⟩).mono hbel2.size))
        clear h0 h1 h0g h1g c0 c1 c0g c1g hcc hbel hbel2
        generalize Sort.grow (wr.drewN nq) osq = w3 at *
        go_wp2_with fail
        go_roundw
        case rel => exact ⟨k + 1, hi, by go_num, rfl, by omega, by omega, HI, HB6.out, HB7.out⟩
        case measure => simp [intOf]; omega
      · have hd : decide (r < 0) = false := by rw [← hr]; simp only [decide_eq_false_iff_not]; exact fun h => hbf ((cmC_neg P Q X Y).1 h)
        have HI : Hid ((∀ j, j < lo → befC (ca l j, cb l j) (X, Y)) ∧ (∀ j, k ≤ j → j < n → ¬ befC (ca l j, cb l j) (X, Y))) := Lib.hid ⟨hI.out.1, fun j hj hjn => by
          by_cases hjk : j = k
          · rw [hjk, HPe.out, HQe.out]; exact hbf
          · have h3 := inc_lt Hinc.out (i := k) j (by omega) (by rw [← Hn.out]; omega)
            rw [HPe.out, HQe.out] at h3
            exact fun h4 => hbf (befC_trans h3 h4)⟩
        clear hbf hr
        go_wp2_with fail
        refine wp_region_quiet_grown mixedT (by kernel_rfl) ?_
        repeat (go_big_quiet_step (first | refine Calls.grown_of (hcc _ _)))
        refine wpQuiet_nil ?_
        intro _ hwz
        obtain ⟨⟨nq, osq⟩, hwz2⟩ := hwz
        subst hwz2
        have HB6 : Hid (Below w.heap.size w (Sort.grow (wr.drewN nq) osq)) := Lib.hid (hbel.trans ((grown_below ⟨⟨nq, osq⟩, rfl⟩).mono hbel.size))
        have HB7 : Hid (Below W0.heap.size W0 (Sort.grow (wr.drewN nq) osq)) := Lib.hid (hbel2.trans ((grown_below ⟨⟨nq, osq⟩, rfl⟩).mono hbel2.size))
        clear h0 h1 h0g h1g c0 c1 c0g c1g hcc hbel hbel2
        generalize Sort.grow (wr.drewN nq) osq = w3 at *
        go_wp2_with fail
        go_roundw
        case rel => exact ⟨lo, k, rfl, by go_num, by omega, by omega, HI, HB6.out, HB7.out⟩
        case measure => simp [intOf]; omega
    · obtain rfl : lo = hi := by omega
      clear hlt
      by_cases hln : lo < n
      · have hln2 : (lo : Int) < n := by omega
        have hlo0 : (0 : Int) ≤ lo := by omega
        have h0 := cell_old hbel (Hc.out lo (by omega)).1
        have h1 := cell_old hbel (Hc.out lo (by omega)).2
        obtain ⟨P, hP⟩ : ∃ P : Int, ca l lo = P := ⟨_, rfl⟩
        obtain ⟨Q, hQ⟩ : ∃ Q : Int, cb l lo = Q := ⟨_, rfl⟩
        rw [hP] at h0
        rw [hQ] at h1
        have HPe := Lib.hid hP
        have HQe := Lib.hid hQ
        clear hP hQ
        obtain ⟨r, hr⟩ : ∃ r : Int, cmC (P, Q) (X, Y) = r := ⟨_, rfl⟩
        have hcc : ∀ n os, Calls Try.prog 59 #[.agg #[.int .i64 P, .int .i64 Q], .agg #[.int .i64 X, .int .i64 Y]] (Sort.grow (wr.drewN n) os) fun e w' => e = .returned (.int .i64 r) ∧ ∃ q os', w' = Sort.grow ((Sort.grow (wr.drewN n) os).drewN q) os' := fun n os => by have := compareCalls_grown P Q X Y (Sort.grow (wr.drewN n) os); rw [hr] at this; exact this
        have h0g : ∀ n os, (Sort.grow (wr.drewN n) os).cell? ⟨b, off + lo * 2, none⟩ = some (.int .i64 P) := cell_grown (World.block_lt_of_cell? _ _ h0) h0
        have h1g : ∀ n os, (Sort.grow (wr.drewN n) os).cell? ⟨b, off + lo * 2 + 1, none⟩ = some (.int .i64 Q) := cell_grown (World.block_lt_of_cell? _ _ h1) h1
        have c0g : ∀ n os, (Sort.grow (wr.drewN n) os).cell? ⟨w.heap.size, 0, none⟩ = some (.int .i64 X) := cell_grown (World.block_lt_of_cell? _ _ c0) c0
        have c1g : ∀ n os, (Sort.grow (wr.drewN n) os).cell? ⟨w.heap.size, 1, none⟩ = some (.int .i64 Y) := cell_grown (World.block_lt_of_cell? _ _ c1) c1
        obtain ⟨t, ht⟩ : ∃ t, (r == 0) = t := ⟨_, rfl⟩
        have Ht : Hid (t = hasC l X Y) := Lib.hid (by
          rw [has_at Hinc.out hI.out.1 (fun j h1 h2 => hI.out.2 j h1 (by rw [Hn.out]; exact h2)) (by rw [← Hn.out]; exact hln), ← ht, ← hr, cmC_eq, HPe.out, HQe.out])
        have HI : Hid ((∀ j, j < lo → befC (ca l j, cb l j) (X, Y)) ∧ (∀ j, lo ≤ j → j < n → ¬ befC (ca l j, cb l j) (X, Y))) := hI
        clear hr
        go_wp2_with fail
        refine wp_region_quiet_grown mixedT (by kernel_rfl) ?_
        repeat (go_big_quiet_step (first | refine Calls.grown_of (hcc _ _)))
        refine wpQuiet_nil ?_
        intro _ hwz
        obtain ⟨⟨nq, osq⟩, hwz2⟩ := hwz
        subst hwz2
        have HB6 : Hid (Below w.heap.size w (Sort.grow (wr.drewN nq) osq)) := Lib.hid (hbel.trans ((grown_below ⟨⟨nq, osq⟩, rfl⟩).mono hbel.size))
        have HB7 : Hid (Below W0.heap.size W0 (Sort.grow (wr.drewN nq) osq)) := Lib.hid (hbel2.trans ((grown_below ⟨⟨nq, osq⟩, rfl⟩).mono hbel2.size))
        clear h0 h1 h0g h1g c0 c1 c0g c1g hcc hbel hbel2
        generalize Sort.grow (wr.drewN nq) osq = w3 at *
        go_wp2_with fail
        go_ret2
        exact ⟨lo, by rw [← Ht.out]; rfl, hhn, HI.out.1, HI.out.2, HB6.out⟩
      · have hln2 : decide ((lo : Int) < n) = false := by simp only [decide_eq_false_iff_not]; omega
        have Hend : Hid (hasC l X Y = false) := Lib.hid (has_end (fun j hj => hI.out.1 j (by rw [← Hn.out] at hj; omega)))
        go_wp2_with fail
        refine wp_region_quiet_grown mixedT (by kernel_rfl) ?_
        repeat (go_big_quiet_step (fail))
        refine wpQuiet_nil ?_
        intro _ hwz
        obtain ⟨⟨nq, osq⟩, hwz2⟩ := hwz
        subst hwz2
        have HB6 : Hid (Below w.heap.size w (Sort.grow (wr.drewN nq) osq)) := Lib.hid (hbel.trans ((grown_below ⟨⟨nq, osq⟩, rfl⟩).mono hbel.size))
        clear c0 c1 hbel hbel2
        generalize Sort.grow (wr.drewN nq) osq = w3 at *
        go_wp2_with fail
        go_ret2
        exact ⟨lo, by rw [Hend.out]; rfl, hhn, hI.out.1, hI.out.2, HB6.out⟩

theorem bsearch_zero (ao : Option Addr) (cap : Nat) (X Y : Int) (w : World) : Calls Try.prog 58 #[.slice ao 0 cap, .agg #[.int .i64 X, .int .i64 Y], .func (.func 59) #[] #[]] w fun e w' => e = .returned (.tuple #[.int .i64 0, .bool false]) ∧ Below w.heap.size w w' := by
  go_enter Try.func58, Try.ntmps58
  go_wp2_with fail
  obtain ⟨wr, hW0⟩ : ∃ W0, w.alloc (Obj.cells #[Value.int IntKind.i64 X, Value.int IntKind.i64 Y] 46) = W0 := ⟨_, rfl⟩
  have hbel : Below w.heap.size w wr := by rw [← hW0]; exact (Below.refl _ _).alloc (Nat.le_refl _) _
  rw [hW0]
  clear hW0
  go_rounds 1
  refine wp_region_quiet_grown mixedT (by kernel_rfl) ?_
  repeat (go_big_quiet_step (fail))
  refine wpQuiet_nil ?_
  intro _ hwz
  obtain ⟨⟨nq, osq⟩, hwz2⟩ := hwz
  subst hwz2
  have HB6 : Hid (Below w.heap.size w (Sort.grow (wr.drewN nq) osq)) := Lib.hid (hbel.trans ((grown_below ⟨⟨nq, osq⟩, rfl⟩).mono hbel.size))
  clear hbel
  generalize Sort.grow (wr.drewN nq) osq = w3 at *
  go_wp2_with fail
  go_ret2
  exact ⟨rfl, HB6.out⟩

theorem bsearch_any (ao : Option Addr) (cap : Nat) (l : List (Int × Int)) (n : Nat) (X Y : Int) (w : World) (Hn : Hid (n = l.length)) (hn : n ≤ 60) (Hinc : Hid (incB l = true)) (Hc : CallsAt w ao l) :
    Calls Try.prog 58 #[.slice ao n cap, .agg #[.int .i64 X, .int .i64 Y], .func (.func 59) #[] #[]] w fun e w' => ∃ k : Nat, e = .returned (.tuple #[.int .i64 k, .bool (hasC l X Y)]) ∧ k ≤ n ∧ (∀ j, j < k → befC (ca l j, cb l j) (X, Y)) ∧ (∀ j, k ≤ j → j < n → ¬ befC (ca l j, cb l j) (X, Y)) ∧ Below w.heap.size w w' := by
  rcases Hc with h | ⟨b, off, rfl, hc⟩
  · subst h
    have h0 : n = 0 := Hn.out
    subst h0
    refine (bsearch_zero ao cap X Y w).mono ?_
    rintro e w' ⟨rfl, hb⟩
    exact ⟨0, rfl, Nat.le_refl _, fun j h => absurd h (Nat.not_lt_zero j), fun j _ h => absurd h (Nat.not_lt_zero j), hb⟩
  · exact bsearch_pos b off cap l n X Y w Hn hn Hinc (by rw [Hn.out]; exact hc)

end Go.Proofs.Ytbddhjpofijmpaa
