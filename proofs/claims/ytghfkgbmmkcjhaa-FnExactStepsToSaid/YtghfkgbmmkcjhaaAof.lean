/- The arrivals of sends. -/
import Derived.Test.YtghfkgbmmkcjhaaAofL
namespace Go.Proofs.Ytghfkgbmmkcjhaa
open Go.ChangeShapes Go.WideShapes Go.ChangeAt Go.RowKit
set_option linter.unusedVariables false


set_option maxHeartbeats 2000000 in
set_option maxRecDepth 20000 in
theorem aof_pos (w : World) (d P : Int) (b off cap : Nat) (l : List Snd) (n : Nat) (Hn : Hid (n = l.length)) (hn : n ≤ 1048576) (hcap : n ≤ cap) (Hcc : Hid (∀ i, i < n → Sat3 w b off l i)) :
    Calls Try.prog 65 #[.int .i64 d, .int .i64 P, .slice (some ⟨b, off, none⟩) n cap] w fun e w' => ∃ F : Int → Int, e = .returned (.tuple #[.agg (AA F), .bool (arsB d P l)]) ∧ (arsB d P l = true → ∀ x, F x = fillA d befA l x) ∧ Below w.heap.size w w' := by
  have HC : Hid (SendsAt w (some ⟨b, off, none⟩) l) := Lib.hid (.inr ⟨b, off, rfl, by rw [← Hn.out]; exact Hcc.out⟩)
  have HZ0 : Hid ((w.alloc (.cells ZA 57)).heap[w.heap.size]? = some (.cells ZA 57 (0, 0))) := heap_alloc_new w _
  have HB0 : Hid (Below w.heap.size w (w.alloc (.cells ZA 57))) := (Below.refl _ _).alloc (Nat.le_refl _) _
  rw [ZA_eq] at HZ0 HB0
  cases hA : deB d
  · have hR : arsB d P l = false := by simp [arsB, hA]
    rw [hR]
    have HA := Lib.hid hA
    clear hA hR
    go_enter Try.func65, Try.ntmps65
    go_wp2_with fail
    refine (isDelay_any _ _).mono ?_
    rintro e w' ⟨rfl, rfl⟩
    rw [HA.out]
    go_upto_region 2 with (fail)
    go_wp2_with (with_reducible refine wpList_store_row rfl 57 (.tmp 6) (.tmp 23) rfl w.heap.size #[.int .i64 0, .int .i64 0, .int .i64 0, .int .i64 0, .int .i64 0, .int .i64 0, .int .i64 0, .int .i64 0, .int .i64 0, .int .i64 0, .int .i64 0, .int .i64 0, .int .i64 0, .int .i64 0, .int .i64 0, .int .i64 0, .int .i64 0, .int .i64 0, .int .i64 0, .int .i64 0, .int .i64 0, .int .i64 0, .int .i64 0, .int .i64 0, .int .i64 0, .int .i64 0, .int .i64 0, .int .i64 0, .int .i64 0, .int .i64 0, .int .i64 0, .int .i64 0, .int .i64 0, .int .i64 0, .int .i64 0, .int .i64 0, .int .i64 0, .int .i64 0, .int .i64 0, .int .i64 0] ?_ ?_ 57 _ HZ0.out ?_ ?_ ?_ ?_)
    try any_goals first | exact zero_one | exact infoA2 | (show (AA fun _ => 0).size = _; rw [AA_size]; rfl) | rfl
    first
      | (refine bodyPost_ret (results_row_tmp rfl _ _ w.heap.size 57 _ (0, 0) _ rfl (setRow_heap _ _ _ _ _ _ HZ0.out) Try.underlying57 ⟨_, _, rfl⟩ (by rw [infoA]; rfl)) rfl ?_; exact ⟨fun _ => 0, by rw [← ZA_eq]; rfl, (fun h => by cases h), below_setRow HB0.out (Nat.le_refl _) _⟩)
      | (refine bodyPost_ret (results_row_tmp rfl _ _ w.heap.size 57 _ (0, 0) _ rfl HZ0.out Try.underlying57 ⟨_, _, rfl⟩ (by rw [infoA]; rfl)) rfl ?_; exact ⟨fun _ => 0, by rw [← ZA_eq]; rfl, (fun h => by cases h), HB0.out⟩)
  · cases hB : peB P
    · have hR : arsB d P l = false := by simp [arsB, hB]
      rw [hR]
      have HA := Lib.hid hA
      have HB := Lib.hid hB
      clear hA hB hR
      go_enter Try.func65, Try.ntmps65
      go_wp2_with fail
      refine (isDelay_any _ _).mono ?_
      rintro e w' ⟨rfl, rfl⟩
      rw [HA.out]
      go_wp2_with fail
      refine (canBePeople_any _ _).mono ?_
      rintro e w' ⟨rfl, rfl⟩
      rw [HB.out]
      go_upto_region 2 with (fail)
      go_wp2_with (with_reducible refine wpList_store_row rfl 57 (.tmp 6) (.tmp 23) rfl w.heap.size #[.int .i64 0, .int .i64 0, .int .i64 0, .int .i64 0, .int .i64 0, .int .i64 0, .int .i64 0, .int .i64 0, .int .i64 0, .int .i64 0, .int .i64 0, .int .i64 0, .int .i64 0, .int .i64 0, .int .i64 0, .int .i64 0, .int .i64 0, .int .i64 0, .int .i64 0, .int .i64 0, .int .i64 0, .int .i64 0, .int .i64 0, .int .i64 0, .int .i64 0, .int .i64 0, .int .i64 0, .int .i64 0, .int .i64 0, .int .i64 0, .int .i64 0, .int .i64 0, .int .i64 0, .int .i64 0, .int .i64 0, .int .i64 0, .int .i64 0, .int .i64 0, .int .i64 0, .int .i64 0] ?_ ?_ 57 _ HZ0.out ?_ ?_ ?_ ?_)
      try any_goals first | exact zero_one | exact infoA2 | (show (AA fun _ => 0).size = _; rw [AA_size]; rfl) | rfl
      first
        | (refine bodyPost_ret (results_row_tmp rfl _ _ w.heap.size 57 _ (0, 0) _ rfl (setRow_heap _ _ _ _ _ _ HZ0.out) Try.underlying57 ⟨_, _, rfl⟩ (by rw [infoA]; rfl)) rfl ?_; exact ⟨fun _ => 0, by rw [← ZA_eq]; rfl, (fun h => by cases h), below_setRow HB0.out (Nat.le_refl _) _⟩)
        | (refine bodyPost_ret (results_row_tmp rfl _ _ w.heap.size 57 _ (0, 0) _ rfl HZ0.out Try.underlying57 ⟨_, _, rfl⟩ (by rw [infoA]; rfl)) rfl ?_; exact ⟨fun _ => 0, by rw [← ZA_eq]; rfl, (fun h => by cases h), HB0.out⟩)
    · by_cases h40 : n ≤ 40
      · have hRR : arsB d P l = arB d P l := by simp [arsB, hA, hB]
        rw [hRR]
        have HA := Lib.hid hA
        have HB := Lib.hid hB
        obtain ⟨D, hD, hD1, hD10⟩ := de_in hA
        obtain ⟨N, hN, hN1, hN40⟩ := pe_in hB
        have hdd : 1 ≤ d ∧ d ≤ 10 := by omega
        have hP40 : P ≤ 40 := by omega
        have hgt : decide ((n : Int) > 40) = false := by simp; omega
        have h40l : l.length ≤ 40 := by rw [← Hn.out]; exact h40
        clear hA hB hRR hD hN hD1 hD10 hN1 hN40
        obtain ⟨r, Hr⟩ : ∃ r : Bool, Hid (r = arB d P l) := ⟨_, Lib.hid rfl⟩
        rw [← Hr.out]
        go_enter Try.func65, Try.ntmps65
        go_wp2_with fail
        refine (isDelay_any _ _).mono ?_
        rintro e w' ⟨rfl, rfl⟩
        rw [HA.out]
        go_wp2_with fail
        refine (canBePeople_any _ _).mono ?_
        rintro e w' ⟨rfl, rfl⟩
        rw [HB.out]
        go_wp2_with fail
        go_loopw [26] (fun i wr => ∃ k : Nat, k ≤ n ∧ i = .int .i64 k ∧ Hid (∀ q, q < k → okB P l q = true) ∧ Hid (wr.heap[w.heap.size]? = some (.cells ZA 57 (0, 0))) ∧ Below w.heap.size w wr) (fun i _ => n - (intOf i).toNat)
        case atStart => exact ⟨0, Nat.zero_le _, rfl, (fun q hq => absurd hq (by omega)), by rw [ZA_eq]; exact HZ0, HB0.out⟩
        case round =>
          clear HZ0 HB0
          obtain ⟨k, hk, rfl, hall, HZ, hbel⟩ := hrel
          have hsz := hbel.size
          have hgl := (Array.getElem?_eq_some_iff.1 HZ.out).1
          by_cases hlt : k < n
          · have hkl : k < l.length := by rw [← Hn.out]; exact hlt
            obtain ⟨h0, h1, h2⟩ := (Hcc.out k hlt).kept hbel
            have hst := lsn_eta l k
            obtain ⟨x0, hx0⟩ : ∃ x, sf l k = x := ⟨_, rfl⟩
            obtain ⟨x1, hx1⟩ : ∃ x, st l k = x := ⟨_, rfl⟩
            obtain ⟨x2, hx2⟩ : ∃ x, sm l k = x := ⟨_, rfl⟩
            rw [hx0] at h0 hst
            rw [hx1] at h1 hst
            rw [hx2] at h2 hst
            have bd : Below wr.heap.size wr (wr.alloc (.cells #[.int .i64 x0, .int .i64 x1, .int .i64 x2] 52)) := (Below.refl _ _).alloc (Nat.le_refl _) _
            have hrow := heap_alloc_new wr (.cells #[.int .i64 x0, .int .i64 x1, .int .i64 x2] 52)
            have a0 : (wr.alloc (.cells #[.int .i64 x0, .int .i64 x1, .int .i64 x2] 52)).cell? ⟨wr.heap.size, 0, none⟩ = some (.int .i64 x0) := by rw [cell_of_row _ _ _ _ _ _ hrow]; rfl
            have a1 : (wr.alloc (.cells #[.int .i64 x0, .int .i64 x1, .int .i64 x2] 52)).cell? ⟨wr.heap.size, 1, none⟩ = some (.int .i64 x1) := by rw [cell_of_row _ _ _ _ _ _ hrow]; rfl
            have a2 : (wr.alloc (.cells #[.int .i64 x0, .int .i64 x1, .int .i64 x2] 52)).cell? ⟨wr.heap.size, 2, none⟩ = some (.int .i64 x2) := by rw [cell_of_row _ _ _ _ _ _ hrow]; rfl
            have HZ1 : Hid ((wr.alloc (.cells #[.int .i64 x0, .int .i64 x1, .int .i64 x2] 52)).heap[w.heap.size]? = some (.cells ZA 57 (0, 0))) := (bd.block _ hgl).trans HZ.out
            have HB1 : Hid (Below w.heap.size w (wr.alloc (.cells #[.int .i64 x0, .int .i64 x1, .int .i64 x2] 52))) := hbel.alloc hsz _
            have HA3 : Hid (At3 (wr.alloc (.cells #[.int .i64 x0, .int .i64 x1, .int .i64 x2] 52)) wr.heap.size (x0, x1, x2)) := ⟨a0, a1, a2⟩
            have hok : okB P l k = (sdB P (x0, x1, x2) && !((l.take k).any (meetB (x0, x1, x2)))) := by unfold okB; rw [hst]
            have HT : Hid (∀ W : World, Below wr.heap.size wr W → SendsAt W (some ⟨b, off, none⟩) (l.take k)) := fun W hW => by
              by_cases hk0 : k = 0
              · subst hk0; exact .inl rfl
              · exact .inr ⟨b, off, rfl, fun i hi => (take_at (by omega) (fun i hi => (Hcc.out i (by rw [Hn.out]; exact hi)).kept hbel) i hi).kept hW⟩
            have Hkt : Hid (k = (l.take k).length) := by show _ = _; rw [List.length_take]; omega
            have hk1 : (0 : Int) ≤ k := by omega
            have hk2 : (k : Int) < n := by omega
            have hk3 : (k : Int) ≤ (cap : Int) := by omega
            have hs1 : (wr.alloc (.cells #[.int .i64 x0, .int .i64 x1, .int .i64 x2] 52)).heap.size = wr.heap.size + 1 := by simp
            have Hbd := Lib.hid bd
            clear hx0 hx1 hx2 hst hrow hbel HZ hgl bd
            cases s1 : sdB P (x0, x1, x2)
            · have Hno : Hid (r = false) := by show _ = _; rw [Hr.out]; exact arB_no (ok1_no hkl (by rw [hok, s1]; rfl))
              have HS1 := Lib.hid s1
              have hI := fun W => isSend_any P x0 x1 x2 W
              rw [s1] at hI
              obtain ⟨W, hW⟩ : ∃ W, wr.alloc (.cells #[.int .i64 x0, .int .i64 x1, .int .i64 x2] 52) = W := ⟨_, rfl⟩
              rw [hW] at a0 a1 a2 HZ1 HB1
              have hbl := World.block_lt_of_cell? W _ a0
              have c0g := cell_grown hbl a0
              have c1g := cell_grown (p := ⟨wr.heap.size, 1, none⟩) hbl a1
              have c2g := cell_grown (p := ⟨wr.heap.size, 2, none⟩) hbl a2
              have hca : ∀ n os, Calls Try.prog 75 #[.int .i64 P, .agg #[.int .i64 x0, .int .i64 x1, .int .i64 x2]] (Sort.grow (W.drewN n) os) fun e w' => e = .returned (.bool false) ∧ ∃ q os', w' = Sort.grow ((Sort.grow (W.drewN n) os).drewN q) os' := fun n os => by have := isSend_grown P x0 x1 x2 (Sort.grow (W.drewN n) os); rw [s1] at this; exact this
              clear s1 hok hI
              go_upto_region 6 with (fail)
              try rw [hW]
              clear h0 h1 h2 hW
              refine wp_region_quiet_grown mixedT (by kernel_rfl) ?_
              repeat (go_big_quiet_step (first | refine Calls.grown_of (hca _ _)))
              refine wpQuiet_nil ?_
              intro _ hwz
              obtain ⟨⟨nq, osq⟩, hwz2⟩ := hwz
              subst hwz2
              have hb6 : Below W.heap.size W (Sort.grow (W.drewN nq) osq) := grown_below ⟨⟨nq, osq⟩, rfl⟩
              have HZ4 := Lib.hid ((hb6.block _ (Array.getElem?_eq_some_iff.1 HZ1.out).1).trans HZ1.out)
              have HB4 := Lib.hid (HB1.out.trans (hb6.mono HB1.out.size))
              clear hb6 a0 a1 a2 c0g c1g c2g hca
              generalize Sort.grow (W.drewN nq) osq = w4 at *
              go_upto_region 7 with (fail)
              try simp only [List.getElem_toArray]
              try simp only [List.getElem_cons_succ]
              try simp only [List.getElem_cons_zero]
              try simp only [Act.put]
              try simp only [List.setIfInBounds_toArray]
              try simp only [List.set_cons_succ]
              try simp only [List.set_cons_zero]
              go_wp2_with (refine wpList_store_row rfl 57 (.tmp 6) (.tmp 42) rfl w.heap.size #[.int .i64 0, .int .i64 0, .int .i64 0, .int .i64 0, .int .i64 0, .int .i64 0, .int .i64 0, .int .i64 0, .int .i64 0, .int .i64 0, .int .i64 0, .int .i64 0, .int .i64 0, .int .i64 0, .int .i64 0, .int .i64 0, .int .i64 0, .int .i64 0, .int .i64 0, .int .i64 0, .int .i64 0, .int .i64 0, .int .i64 0, .int .i64 0, .int .i64 0, .int .i64 0, .int .i64 0, .int .i64 0, .int .i64 0, .int .i64 0, .int .i64 0, .int .i64 0, .int .i64 0, .int .i64 0, .int .i64 0, .int .i64 0, .int .i64 0, .int .i64 0, .int .i64 0, .int .i64 0] ?_ ?_ 57 _ HZ4.out ?_ ?_ ?_ ?_)
              try any_goals first | exact zero_one | exact infoA2 | (show (AA fun _ => 0).size = _; rw [AA_size]; rfl) | rfl
              first
                | (refine bodyPost_ret (results_row_tmp rfl _ _ w.heap.size 57 _ (0, 0) _ rfl (setRow_heap _ _ _ _ _ _ HZ4.out) Try.underlying57 ⟨_, _, rfl⟩ (by rw [infoA]; rfl)) rfl ?_; exact ⟨fun _ => 0, by rw [Hno.out, ← ZA_eq]; rfl, (fun h => by rw [Hno.out] at h; cases h), below_setRow HB4.out (Nat.le_refl _) _⟩)
                | (refine bodyPost_ret (results_row_tmp rfl _ _ w.heap.size 57 _ (0, 0) _ rfl HZ4.out Try.underlying57 ⟨_, _, rfl⟩ (by rw [infoA]; rfl)) rfl ?_; exact ⟨fun _ => 0, by rw [Hno.out, ← ZA_eq]; rfl, (fun h => by rw [Hno.out] at h; cases h), HB4.out⟩)
            · have hI := fun W => isSend_any P x0 x1 x2 W
              rw [s1] at hI
              cases s2 : (l.take k).any (meetB (x0, x1, x2))
              · have Hyes : Hid (∀ q, q < k + 1 → okB P l q = true) := fun q hq => by
                  by_cases hqk : q = k
                  · subst hqk; rw [hok, s1, s2]; rfl
                  · exact hall.out q (by omega)
                have hK := fun (W : World) (hW : Below wr.heap.size wr W) => clashes_any W x0 x1 x2 (some ⟨b, off, none⟩) cap (l.take k) k Hkt (by omega) (Lib.hid (HT.out W hW))
                rw [s2] at hK
                clear s1 s2 hok
                go_upto_region 6 with (fail)
                clear h0 h1 h2
                go_region_with (first
                  | (go_at_call 75; refine (hI _).mono ?_; rintro e w4 ⟨rfl, hb4⟩; have HZ4 := Lib.hid ((hb4.block _ (Array.getElem?_eq_some_iff.1 (show (wr.alloc (.cells #[.int .i64 x0, .int .i64 x1, .int .i64 x2] 52)).drew.heap[w.heap.size]? = _ from HZ1.out)).1).trans (show (wr.alloc (.cells #[.int .i64 x0, .int .i64 x1, .int .i64 x2] 52)).drew.heap[w.heap.size]? = _ from HZ1.out)); have HB4 := Lib.hid (HB1.out.drew.trans (hb4.mono HB1.out.drew.size)); have HD4 := Lib.hid (Hbd.out.drew.trans (hb4.mono Hbd.out.drew.size)); obtain ⟨d0, d1, d2⟩ := (HA3.out.kept (Below.refl _ _).drew).kept hb4; simp only at d0 d1 d2; clear hb4)
                  | (go_at_call 76; refine (hK _ HD4.out).mono ?_; rintro e w5 ⟨rfl, hb5⟩; have HZ5 := Lib.hid ((hb5.block _ (Array.getElem?_eq_some_iff.1 HZ4.out).1).trans HZ4.out); have HB5 := Lib.hid (HB4.out.trans (hb5.mono HB4.out.size)); clear hb5)
                  | fail)
                all_goals
                  go_wp2_with fail
                  go_roundw
                  case rel => exact ⟨k + 1, by omega, by go_num, Hyes, HZ5, HB5.out⟩
                  case measure => simp [intOf]; omega
              · have Hno : Hid (r = false) := by show _ = _; rw [Hr.out]; exact arB_no (ok1_no hkl (by rw [hok, s1, s2]; rfl))
                have hK := fun (W : World) (hW : Below wr.heap.size wr W) => clashes_any W x0 x1 x2 (some ⟨b, off, none⟩) cap (l.take k) k Hkt (by omega) (Lib.hid (HT.out W hW))
                rw [s2] at hK
                clear s1 s2 hok
                go_upto_region 6 with (fail)
                clear h0 h1 h2
                go_region_with (first
                  | (go_at_call 75; refine (hI _).mono ?_; rintro e w4 ⟨rfl, hb4⟩; have HZ4 := Lib.hid ((hb4.block _ (Array.getElem?_eq_some_iff.1 (show (wr.alloc (.cells #[.int .i64 x0, .int .i64 x1, .int .i64 x2] 52)).drew.heap[w.heap.size]? = _ from HZ1.out)).1).trans (show (wr.alloc (.cells #[.int .i64 x0, .int .i64 x1, .int .i64 x2] 52)).drew.heap[w.heap.size]? = _ from HZ1.out)); have HB4 := Lib.hid (HB1.out.drew.trans (hb4.mono HB1.out.drew.size)); have HD4 := Lib.hid (Hbd.out.drew.trans (hb4.mono Hbd.out.drew.size)); obtain ⟨d0, d1, d2⟩ := (HA3.out.kept (Below.refl _ _).drew).kept hb4; simp only at d0 d1 d2; clear hb4)
                  | (go_at_call 76; refine (hK _ HD4.out).mono ?_; rintro e w5 ⟨rfl, hb5⟩; have HZ5 := Lib.hid ((hb5.block _ (Array.getElem?_eq_some_iff.1 HZ4.out).1).trans HZ4.out); have HB5 := Lib.hid (HB4.out.trans (hb5.mono HB4.out.size)); clear hb5)
                  | fail)
                all_goals
                  go_upto_region 7 with (fail)
                  try simp only [List.getElem_toArray]
                  try simp only [List.getElem_cons_succ]
                  try simp only [List.getElem_cons_zero]
                  try simp only [Act.put]
                  try simp only [List.setIfInBounds_toArray]
                  try simp only [List.set_cons_succ]
                  try simp only [List.set_cons_zero]
                  go_wp2_with (refine wpList_store_row rfl 57 (.tmp 6) (.tmp 42) rfl w.heap.size #[.int .i64 0, .int .i64 0, .int .i64 0, .int .i64 0, .int .i64 0, .int .i64 0, .int .i64 0, .int .i64 0, .int .i64 0, .int .i64 0, .int .i64 0, .int .i64 0, .int .i64 0, .int .i64 0, .int .i64 0, .int .i64 0, .int .i64 0, .int .i64 0, .int .i64 0, .int .i64 0, .int .i64 0, .int .i64 0, .int .i64 0, .int .i64 0, .int .i64 0, .int .i64 0, .int .i64 0, .int .i64 0, .int .i64 0, .int .i64 0, .int .i64 0, .int .i64 0, .int .i64 0, .int .i64 0, .int .i64 0, .int .i64 0, .int .i64 0, .int .i64 0, .int .i64 0, .int .i64 0] ?_ ?_ 57 _ HZ5.out ?_ ?_ ?_ ?_)
                  try any_goals first | exact zero_one | exact infoA2 | (show (AA fun _ => 0).size = _; rw [AA_size]; rfl) | rfl
                  first
                    | (refine bodyPost_ret (results_row_tmp rfl _ _ w.heap.size 57 _ (0, 0) _ rfl (setRow_heap _ _ _ _ _ _ HZ5.out) Try.underlying57 ⟨_, _, rfl⟩ (by rw [infoA]; rfl)) rfl ?_; exact ⟨fun _ => 0, by rw [Hno.out, ← ZA_eq]; rfl, (fun h => by rw [Hno.out] at h; cases h), below_setRow HB5.out (Nat.le_refl _) _⟩)
                    | (refine bodyPost_ret (results_row_tmp rfl _ _ w.heap.size 57 _ (0, 0) _ rfl HZ5.out Try.underlying57 ⟨_, _, rfl⟩ (by rw [infoA]; rfl)) rfl ?_; exact ⟨fun _ => 0, by rw [Hno.out, ← ZA_eq]; rfl, (fun h => by rw [Hno.out] at h; cases h), HB5.out⟩)
          · obtain rfl : k = n := by omega
            have hv : ok1B P l = true := ok1_yes (fun q hq => hall.out q (by rw [Hn.out]; exact hq))
            have Hv := Lib.hid hv
            clear hlt hk hgl hv
            have HB1 := Lib.hid hbel
            have Hsa := Lib.hid (HC.out.kept hbel)
            clear hbel
            go_wp2_with fail
            refine (inOrder_any wr (some ⟨b, off, none⟩) cap l k P Hv.out Hn (by omega) Hsa).mono ?_
            rintro e w2 ⟨v, rfl, own2, hb2⟩
            obtain ⟨a2, c2, rfl, hsa2, _⟩ := sown_shape own2 (by rw [ordS_length]; exact Hn.out)
            have hc2 := own_cap3 own2
            have HZ2 : Hid (w2.heap[w.heap.size]? = some (.cells ZA 57 (0, 0))) := (hb2.block _ (Array.getElem?_eq_some_iff.1 HZ.out).1).trans HZ.out
            have HB2 := Lib.hid (HB1.out.trans (hb2.mono HB1.out.size))
            have hsm := small_of hdd hP40 Hv.out
            have HBy := Lib.hid (by_any w2 a2 c2 d (ordS l) k (Lib.hid (by rw [ordS_length]; exact Hn.out)) (by omega) hc2 hdd (Lib.hid hsm.1) (Lib.hid hsm.2) hsa2)
            clear own2 hb2 hsa2 hsm
            go_wp2_with fail
            refine HBy.out.mono ?_
            rintro e w3 ⟨rfl, hb3⟩
            have HZ3 : Hid (w3.heap[w.heap.size]? = some (.cells ZA 57 (0, 0))) := (hb3.block _ (Array.getElem?_eq_some_iff.1 HZ2.out).1).trans HZ2.out
            have HB3 := Lib.hid (HB2.out.trans (hb3.mono HB2.out.size))
            have Hall : Hid (((List.range 40).all fun (i : Nat) => mkA d befA (ordS l) i == fillA d befA (ordS l) i) = r) := by show _ = _; rw [all_ok2 hdd hP40 Hv.out, Hr.out, arB_yes h40l Hv.out]
            rw [Hall.out]
            clear hb3 HBy
            go_wp2_with (refine wpList_store_row rfl 57 (.tmp 6) (.tmp 48) rfl w.heap.size (AA (mkA d befA (ordS l))) ?_ ?_ 57 _ HZ3.out ?_ ?_ ?_ ?_)
            try any_goals first | exact AA_one _ | exact infoA2 | (rw [infoA, AA_size]; done) | (rw [AA_size]; rfl) | (show (AA fun _ => 0).size = _; rw [AA_size, AA_size]; done) | rfl
            refine bodyPost_ret (results_row_tmp rfl _ _ w.heap.size 57 (AA (mkA d befA (ordS l))) (0, 0) _ rfl (setRow_heap _ _ _ _ _ _ HZ3.out) Try.underlying57 ⟨_, _, rfl⟩ (by rw [infoA, AA_size])) rfl ?_
            refine ⟨mkA d befA (ordS l), rfl, (fun h => ?_), below_setRow HB3.out (Nat.le_refl _) _⟩
            rw [Hr.out, arB_yes h40l Hv.out] at h
            exact made_is hdd.1 Hv.out (ordS_perm l) (ordS_at l) h
      · have hR : arsB d P l = false := by
          have : ¬ l.length ≤ 40 := by rw [← Hn.out]; exact h40
          simp [arsB, arB, this]
        rw [hR]
        have HA := Lib.hid hA
        have HB := Lib.hid hB
        have hgt : decide ((n : Int) > 40) = true := by simp; omega
        clear hA hB hR
        go_enter Try.func65, Try.ntmps65
        go_wp2_with fail
        refine (isDelay_any _ _).mono ?_
        rintro e w' ⟨rfl, rfl⟩
        rw [HA.out]
        go_wp2_with fail
        refine (canBePeople_any _ _).mono ?_
        rintro e w' ⟨rfl, rfl⟩
        rw [HB.out]
        go_upto_region 2 with (fail)
        go_wp2_with (with_reducible refine wpList_store_row rfl 57 (.tmp 6) (.tmp 23) rfl w.heap.size #[.int .i64 0, .int .i64 0, .int .i64 0, .int .i64 0, .int .i64 0, .int .i64 0, .int .i64 0, .int .i64 0, .int .i64 0, .int .i64 0, .int .i64 0, .int .i64 0, .int .i64 0, .int .i64 0, .int .i64 0, .int .i64 0, .int .i64 0, .int .i64 0, .int .i64 0, .int .i64 0, .int .i64 0, .int .i64 0, .int .i64 0, .int .i64 0, .int .i64 0, .int .i64 0, .int .i64 0, .int .i64 0, .int .i64 0, .int .i64 0, .int .i64 0, .int .i64 0, .int .i64 0, .int .i64 0, .int .i64 0, .int .i64 0, .int .i64 0, .int .i64 0, .int .i64 0, .int .i64 0] ?_ ?_ 57 _ HZ0.out ?_ ?_ ?_ ?_)
        try any_goals first | exact zero_one | exact infoA2 | (show (AA fun _ => 0).size = _; rw [AA_size]; rfl) | rfl
        first
          | (refine bodyPost_ret (results_row_tmp rfl _ _ w.heap.size 57 _ (0, 0) _ rfl (setRow_heap _ _ _ _ _ _ HZ0.out) Try.underlying57 ⟨_, _, rfl⟩ (by rw [infoA]; rfl)) rfl ?_; exact ⟨fun _ => 0, by rw [← ZA_eq]; rfl, (fun h => by cases h), below_setRow HB0.out (Nat.le_refl _) _⟩)
          | (refine bodyPost_ret (results_row_tmp rfl _ _ w.heap.size 57 _ (0, 0) _ rfl HZ0.out Try.underlying57 ⟨_, _, rfl⟩ (by rw [infoA]; rfl)) rfl ?_; exact ⟨fun _ => 0, by rw [← ZA_eq]; rfl, (fun h => by cases h), HB0.out⟩)

end Go.Proofs.Ytghfkgbmmkcjhaa
