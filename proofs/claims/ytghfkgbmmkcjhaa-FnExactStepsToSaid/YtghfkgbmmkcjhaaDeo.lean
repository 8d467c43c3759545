/- deOrdered. -/
import Derived.Test.YtghfkgbmmkcjhaaDeoL
namespace Go.Proofs.Ytghfkgbmmkcjhaa
open Go.ChangeShapes Go.WideShapes Go.ChangeAt Go.RowKit
set_option linter.unusedVariables false


set_option maxRecDepth 20000 in
set_option maxHeartbeats 4000000 in
theorem deOrd_pos (b0 off0 cap0 : Nat) (l : List Snd) (n : Nat) (w : World) (Hn : Hid (n = l.length)) (hn : n ≤ 1000) (hcap : n ≤ cap0) (Hc : Hid (∀ i, i < n → Sat3 w b0 off0 l i)) :
    Calls Try.prog 70 #[.slice (some ⟨b0, off0, none⟩) n cap0] w fun e w' => ∃ v, e = .returned v ∧ w'.ownsRow w.heap.size 52 3 v n (ss (ordS l)) ∧ Below w.heap.size w w' := by
  obtain ⟨i0, hi, hz0, hz1, hz2⟩ := info_parts infoSE
  go_enter Try.func70, Try.ntmps70
  go_wp2_with fail
  go_loopw [3, 10] (fun v i wr => ∃ m : Nat, m ≤ n ∧ i = .int .i64 m ∧ wr.ownsRow w.heap.size 52 3 v m (ss (ordK l m)) ∧ Below w.heap.size w wr) (fun _ i _ => n - (intOf i).toNat)
  case atStart => exact ⟨0, Nat.zero_le _, rfl, World.ownsRow_nil _ _ _ _, Below.refl _ _⟩
  case round =>
    obtain ⟨m, hm, rfl, hor, hbel0⟩ := hrel
    by_cases hlt : m < n
    · obtain ⟨h0, h1, h2⟩ := (Hc.out m hlt).kept hbel0
      have hKn : ordK l (m + 1) = putS (ordK l m) (sf l m, st l m, sm l m) := by rw [← lsn_eta]; rfl
      have hKl := ordK_length l m
      obtain ⟨x, hx⟩ : ∃ x, sf l m = x := ⟨_, rfl⟩
      obtain ⟨y, hy⟩ : ∃ x, st l m = x := ⟨_, rfl⟩
      obtain ⟨z, hz⟩ : ∃ x, sm l m = x := ⟨_, rfl⟩
      rw [hx] at h0 hKn
      rw [hy] at h1 hKn
      rw [hz] at h2 hKn
      have hk1 : (0 : Int) ≤ m := by omega
      have hk2 : (m : Int) < n := by omega
      rcases hor.2 with ⟨rfl, hm0⟩ | ⟨g, cap, cur, rfl, hbg, hgr, hcp, _⟩
      ·
        have Hm0 := Lib.hid hm0
        have hKn0 : ordK l (m + 1) = [(x, y, z)] := by
          rw [hKn, hm0]; rfl
        have HKn := Lib.hid hKn0
        obtain ⟨B, hB⟩ : ∃ B, wr.heap.size = B := ⟨_, rfl⟩
        obtain ⟨W, hW⟩ : ∃ W, wr.alloc (.cells #[.int .i64 x, .int .i64 y, .int .i64 z] 52) = W := ⟨_, rfl⟩
        have hc0 : W.cell? ⟨B, 0, none⟩ = some (.int .i64 x) := by rw [← hW, ← hB]; simp
        have hc1 : W.cell? ⟨B, 1, none⟩ = some (.int .i64 y) := by rw [← hW, ← hB]; simp
        have hc2 : W.cell? ⟨B, 2, none⟩ = some (.int .i64 z) := by rw [← hW, ← hB]; simp
        have HbW : Hid (Below w.heap.size w W) := by rw [← hW]; exact hbel0.alloc hbel0.size _
        clear hor hbel0 hx hy hz hKn hKn0 hKl hm0
        have HC0 := Lib.hid hc0
        have HC1 := Lib.hid hc1
        have HC2 := Lib.hid hc2
        clear hc0 hc1 hc2
        go_wp2_with fail
        try rw [hW]
        try rw [hB]
        clear hW hB h0 h1 h2 hk1 hk2
        go_loopw [6] (fun i wq => i = .int .i64 0 ∧ Below W.heap.size W wq) (fun _ _ => 0)
        case atStart => exact ⟨rfl, Below.refl _ _⟩
        case round =>
          obtain ⟨rfl, hbel⟩ := hrel
          have C0 := cell_old hbel HC0.out
          have C2 := cell_old hbel HC2.out
          have c0g : ∀ m os, (Sort.grow (wr.drewN m) os).cell? ⟨B, 0, none⟩ = some (.int .i64 x) := cell_grown (World.block_lt_of_cell? _ _ C0) C0
          have c2g : ∀ m os, (Sort.grow (wr.drewN m) os).cell? ⟨B, 2, none⟩ = some (.int .i64 z) := cell_grown (World.block_lt_of_cell? _ _ C2) C2
          go_wp2_with fail
          refine wp_region_quiet_grown mixedT (by kernel_rfl) ?_
          repeat (go_big_quiet_step (first | fail))
          refine wpQuiet_nil ?_
          intro _ hwz
          obtain ⟨⟨nq, osq⟩, hwz2⟩ := hwz
          subst hwz2
          have hb3 : Below W.heap.size W (Sort.grow (wr.drewN nq) osq) := hbel.trans ((grown_below ⟨⟨nq, osq⟩, rfl⟩).mono hbel.size)
          clear c0g c2g hbel C0 C2
          generalize Sort.grow (wr.drewN nq) osq = w3 at *
          have hs3 := hb3.size
          have Hw3 := Lib.hid (HbW.out.trans (hb3.mono HbW.out.size))
          have d0 := cell_old hb3 HC0.out
          have d1 := cell_old hb3 HC1.out
          have d2 := cell_old hb3 HC2.out
          have HB1 : Hid (∀ o, Below w3.heap.size w3 (w3.alloc o).drew) := fun o => ((Below.refl _ _).alloc (Nat.le_refl _) _).drew
          have HB2 : Hid (∀ o o', Below w3.heap.size w3 ((w3.alloc o).alloc o').drew) := fun o o' => (((Below.refl _ _).alloc (Nat.le_refl _) _).alloc (by simp) _).drew
          have HE1 : Hid ((w3.alloc (.cells #[] 52)).drew.ownsRow w3.heap.size 52 3 (.slice (some ⟨w3.heap.size, 0, none⟩) 0 0) 0 []) := (World.ownsRow_lit w3 #[] 0 (Nat.le_refl _) (by unfold maxLen; omega) rfl).drew
          have HE2 : Hid (((w3.alloc (.cells #[] 52)).alloc (.cells #[.int .i64 x, .int .i64 y, .int .i64 z] 52)).drew.ownsRow w3.heap.size 52 3 (.slice (some ⟨w3.heap.size, 0, none⟩) 0 0) 0 []) := ((World.ownsRow_lit w3 #[] 0 (Nat.le_refl _) (by unfold maxLen; omega) rfl).alloc _).drew
          have HE3 : Hid (((w3.alloc (.cells #[.int .i64 x, .int .i64 y, .int .i64 z] 52)).alloc (.cells #[] 52)).drew.ownsRow w3.heap.size 52 3 (.slice (some ⟨w3.heap.size + 1, 0, none⟩) 0 0) 0 []) := by
            have h := (World.ownsRow_lit (base := w3.heap.size) (w3.alloc (.cells #[.int .i64 x, .int .i64 y, .int .i64 z] 52)) #[] 0 (e := 52) (size := 3) (by simp) (by unfold maxLen; omega) rfl).drew
            exact Lib.hid (by simpa using h)
          have HNE2 : Hid (∀ (j : Nat) u, [Value.int .i64 x, .int .i64 y, .int .i64 z][j]? = some u → (((w3.alloc (.cells #[] 52)).alloc (.cells #[.int .i64 x, .int .i64 y, .int .i64 z] 52)).drew).cell? ((⟨w3.heap.size + 1, 0, none⟩ : Addr).add j) = some u) := by
            have h := World.news_of_block (cs := #[.int .i64 x, .int .i64 y, .int .i64 z]) (t := 52) (fr := (0, 0)) (heap_alloc_new (w3.alloc (.cells #[] 52)) (.cells #[.int .i64 x, .int .i64 y, .int .i64 z] 52))
            exact Lib.hid (by simpa using h)
          have HNE3 : Hid (∀ (j : Nat) u, [Value.int .i64 x, .int .i64 y, .int .i64 z][j]? = some u → (((w3.alloc (.cells #[.int .i64 x, .int .i64 y, .int .i64 z] 52)).alloc (.cells #[] 52)).drew).cell? ((⟨w3.heap.size, 0, none⟩ : Addr).add j) = some u) := by
            intro j u hu
            have h := World.news_of_block (cs := #[.int .i64 x, .int .i64 y, .int .i64 z]) (t := 52) (fr := (0, 0)) (heap_alloc_new w3 (.cells #[.int .i64 x, .int .i64 y, .int .i64 z] 52)) j u hu
            rw [add_at] at h ⊢
            have := cell_old ((Below.refl _ (w3.alloc (.cells #[.int .i64 x, .int .i64 y, .int .i64 z] 52))).alloc (Nat.le_refl _) (.cells #[] 52)) h
            exact this
          have HONE : Hid (∀ u ∈ [Value.int .i64 x, .int .i64 y, .int .i64 z], u.oneCell' = true) := by intro u hu; simp at hu; rcases hu with rfl | rfl | rfl <;> rfl
          have H0 := Lib.hid d0
          have H1 := Lib.hid d1
          have H2 := Lib.hid d2
          clear d0 d1 d2
          go_wp2_with fail
          go_region_held3 (fun w' => w'.cell? ⟨B, 0, none⟩ = some (.int .i64 x) ∧ w'.cell? ⟨B, 1, none⟩ = some (.int .i64 y) ∧ w'.cell? ⟨B, 2, none⟩ = some (.int .i64 z) ∧ Hid (Below w3.heap.size w3 w'))
            (first | exact keepT H0.out H1.out H2.out (Below.refl _ _).drew | exact keepT H0.out H1.out H2.out (HB1.out _) | exact keepT H0.out H1.out H2.out (HB2.out _ _) | assumption | exact keepT H0.out H1.out H2.out hb29)
            (first
              | (refine step_append_nil _ (by rfl) _ _ _ (by rfl) w3.heap.size 52 i0 3 Try.underlying25 hi _ 0 [] (by rfl) HE1.out (by rfl) ?_)
              | (refine step_append_nil _ (by rfl) _ _ _ (by rfl) w3.heap.size 52 i0 3 Try.underlying25 hi _ 0 [] (by rfl) HE2.out (by rfl) ?_)
              | (refine step_append_nil _ (by rfl) _ _ _ (by rfl) w3.heap.size 52 i0 3 Try.underlying25 hi _ 0 [] (by rfl) HE3.out (by rfl) ?_)
              | (refine step_append_mine _ (by rfl) _ _ _ (by rfl) w3.heap.size 52 i0 _ 3 24 Try.underlying25 hi hz0 hz1 hz2 rfl (by omega) _ _ _ (by rfl) HE2.out ⟨w3.heap.size + 1, 0, none⟩ 1 _ [.int .i64 x, .int .i64 y, .int .i64 z] (by rfl) (by rfl) HNE2.out HONE.out (by unfold maxLen; omega) (by omega) (HB2.out _ _).size ?_
                 intro v29 w29 own29 gr29
                 have hb29 : Below w3.heap.size w3 w29 := (HB2.out _ _).grown gr29 (HB2.out _ _).size (fun b hb => by cases hb; exact Nat.le_refl _))
              | (refine step_append_mine _ (by rfl) _ _ _ (by rfl) w3.heap.size 52 i0 _ 3 24 Try.underlying25 hi hz0 hz1 hz2 rfl (by omega) _ _ _ (by rfl) HE3.out ⟨w3.heap.size, 0, none⟩ 1 _ [.int .i64 x, .int .i64 y, .int .i64 z] (by rfl) (by rfl) HNE3.out HONE.out (by unfold maxLen; omega) (by omega) (HB2.out _ _).size ?_
                 intro v29 w29 own29 gr29
                 have hb29 : Below w3.heap.size w3 w29 := (HB2.out _ _).grown gr29 (HB2.out _ _).size (fun b hb => by cases hb; exact Nat.le_succ _))
              | fail)
          all_goals
            have Own29 := Lib.hid own29
            have Hb29 := Lib.hid hb29
            clear own29 hb29
            go_wp2_with (at_builtin; refine wpList_append_own_none rfl _ _ 25 rfl w3.heap.size 52 i0 3 Try.underlying25 hi _ _ _ rfl Own29.out rfl ?_)
            have Own5 : Hid (w29.ownsRow w.heap.size 52 3 v29 (m + 1) (ss (ordK l (m + 1)))) := Lib.hid (by
              rw [HKn.out, Hm0.out, show ss [(x, y, z)] = [Value.int .i64 x, .int .i64 y, .int .i64 z] from rfl]
              have := own_base Hw3.out.size Own29.out
              simpa using this)
            have Hb5 : Hid (Below w.heap.size w w29) := Lib.hid (Hw3.out.trans (Hb29.out.mono Hw3.out.size))
            clear hs3 hb3
            go_wp2_with fail
            go_roundw
            case rel => exact ⟨m + 1, by omega, by go_num, Own5.out, Hb5.out⟩
            case measure => simp [intOf]; omega
      · obtain ⟨K, hK⟩ : ∃ K, ordK l m = K := ⟨_, rfl⟩
        rw [hK] at hor hKn hKl
        have HKn := Lib.hid hKn
        have hgs := (Array.getElem?_eq_some_iff.1 hgr).1
        obtain ⟨B, hB⟩ : ∃ B, wr.heap.size = B := ⟨_, rfl⟩
        obtain ⟨W, hW⟩ : ∃ W, wr.alloc (.cells #[.int .i64 x, .int .i64 y, .int .i64 z] 52) = W := ⟨_, rfl⟩
        have hc0 : W.cell? ⟨B, 0, none⟩ = some (.int .i64 x) := by rw [← hW, ← hB]; simp
        have hc1 : W.cell? ⟨B, 1, none⟩ = some (.int .i64 y) := by rw [← hW, ← hB]; simp
        have hc2 : W.cell? ⟨B, 2, none⟩ = some (.int .i64 z) := by rw [← hW, ← hB]; simp
        have HorW : Hid (W.ownsRow w.heap.size 52 3 (.slice (some ⟨g, 0, none⟩) m cap) m (ss K)) := by rw [← hW]; exact hor.alloc _
        have HbW : Hid (Below w.heap.size w W) := by rw [← hW]; exact hbel0.alloc hbel0.size _
        have hWs : W.heap.size = B + 1 := by rw [← hW, ← hB]; simp
        have hgB : g < B := by omega
        clear hor hbel0 hx hy hz hKn hgr hK hgs
        have HC0 := Lib.hid hc0
        have HC1 := Lib.hid hc1
        have HC2 := Lib.hid hc2
        have HWs := Lib.hid hWs
        clear hc0 hc1 hc2 hWs
        go_wp2_with fail
        try rw [hW]
        try rw [hB]
        clear hW hB h0 h1 h2 hk1 hk2
        go_loopw [6] (fun i wq => ∃ k : Nat, k ≤ m ∧ i = .int .i64 k ∧ Hid (posS K (x, y, z) m = posS K (x, y, z) k) ∧ Below W.heap.size W wq) (fun i _ => (intOf i).toNat)
        case atStart => exact ⟨m, Nat.le_refl _, rfl, Lib.hid rfl, Below.refl _ _⟩
        case round =>
          obtain ⟨k, hk, rfl, hpos, hbel⟩ := hrel
          have C0 := cell_old hbel HC0.out
          have C2 := cell_old hbel HC2.out
          by_cases hz0k : k = 0
          · have hgt : decide ((0 : Int) < (k : Int)) = false := by simp; omega
            have hgtN : decide (0 < k) = false := by simp; omega
            have Hpos : Hid (posS K (x, y, z) m = k) := Lib.hid (by rw [hpos.out, hz0k]; rfl)
            clear hz0k hpos
            have c0g : ∀ m os, (Sort.grow (wr.drewN m) os).cell? ⟨B, 0, none⟩ = some (.int .i64 x) := cell_grown (World.block_lt_of_cell? _ _ C0) C0
            have c2g : ∀ m os, (Sort.grow (wr.drewN m) os).cell? ⟨B, 2, none⟩ = some (.int .i64 z) := cell_grown (World.block_lt_of_cell? _ _ C2) C2
            go_wp2_with fail
            refine wp_region_quiet_grown mixedT (by kernel_rfl) ?_
            repeat (go_big_quiet_step (first | fail))
            refine wpQuiet_nil ?_
            intro _ hwz
            obtain ⟨⟨nq, osq⟩, hwz2⟩ := hwz
            subst hwz2
            have hb3 : Below W.heap.size W (Sort.grow (wr.drewN nq) osq) := hbel.trans ((grown_below ⟨⟨nq, osq⟩, rfl⟩).mono hbel.size)
            clear c0g c2g hbel C0 C2
            generalize Sort.grow (wr.drewN nq) osq = w3 at *
            clear hgt hgtN
            have hs3 := hb3.size
            have Hw3 := Lib.hid (HbW.out.trans (hb3.mono HbW.out.size))
            have d0 := cell_old hb3 HC0.out
            have d1 := cell_old hb3 HC1.out
            have d2 := cell_old hb3 HC2.out
            have HN1 : Hid (∀ w', Below w3.heap.size w3 w' → ∀ j u, (ss (K.take k))[j]? = some u → w'.cell? ((⟨g, 0, none⟩ : Addr).add j) = some u) := Lib.hid (fun w' hbb => news_take HorW.out hKl.symm (hb3.trans (hbb.mono hs3)) k)
            have HL1 : Hid ((ss (K.take k)).length = k * 3) := by show _ = _; rw [ss_length, List.length_take, hKl]; omega
            have HL2 : Hid ((ss (K.drop k)).length = (m - k) * 3) := by show _ = _; rw [ss_length, List.length_drop, hKl]
            obtain ⟨off2, hif, HN2q⟩ : ∃ off2, (if cap = k then (some ⟨g, 0, none⟩ : Option Addr) else some ⟨g, k * 3, none⟩) = some ⟨g, off2, none⟩ ∧ (∀ w', Below W.heap.size W w' → ∀ j u, (ss (K.drop k))[j]? = some u → w'.cell? ((⟨g, off2, none⟩ : Addr).add j) = some u) := by
              by_cases hck : cap = k
              · have hd : K.drop k = [] := List.drop_eq_nil_of_le (by rw [hKl]; omega)
                refine ⟨0, by rw [if_pos hck], fun w' _ j u hu => ?_⟩
                rw [hd] at hu
                simp [ss] at hu
              · exact ⟨k * 3, by rw [if_neg hck], fun w' hb => news_drop HorW.out hKl.symm hb k (by omega)⟩
            have HN2 := Lib.hid HN2q
            have Hif := Lib.hid hif
            clear HN2q hif
            have HB1 : Hid (∀ o, Below w3.heap.size w3 (w3.alloc o).drew) := fun o => ((Below.refl _ _).alloc (Nat.le_refl _) _).drew
            have HB2 : Hid (∀ o o', Below w3.heap.size w3 ((w3.alloc o).alloc o').drew) := fun o o' => (((Below.refl _ _).alloc (Nat.le_refl _) _).alloc (by simp) _).drew
            have HE1 : Hid ((w3.alloc (.cells #[] 52)).drew.ownsRow w3.heap.size 52 3 (.slice (some ⟨w3.heap.size, 0, none⟩) 0 0) 0 []) := (World.ownsRow_lit w3 #[] 0 (Nat.le_refl _) (by unfold maxLen; omega) rfl).drew
            have HE2 : Hid (((w3.alloc (.cells #[] 52)).alloc (.cells #[.int .i64 x, .int .i64 y, .int .i64 z] 52)).drew.ownsRow w3.heap.size 52 3 (.slice (some ⟨w3.heap.size, 0, none⟩) 0 0) 0 []) := ((World.ownsRow_lit w3 #[] 0 (Nat.le_refl _) (by unfold maxLen; omega) rfl).alloc _).drew
            have HE3 : Hid (((w3.alloc (.cells #[.int .i64 x, .int .i64 y, .int .i64 z] 52)).alloc (.cells #[] 52)).drew.ownsRow w3.heap.size 52 3 (.slice (some ⟨w3.heap.size + 1, 0, none⟩) 0 0) 0 []) := by
              have h := (World.ownsRow_lit (base := w3.heap.size) (w3.alloc (.cells #[.int .i64 x, .int .i64 y, .int .i64 z] 52)) #[] 0 (e := 52) (size := 3) (by simp) (by unfold maxLen; omega) rfl).drew
              exact Lib.hid (by simpa using h)
            have HNE2 : Hid (∀ (j : Nat) u, [Value.int .i64 x, .int .i64 y, .int .i64 z][j]? = some u → (((w3.alloc (.cells #[] 52)).alloc (.cells #[.int .i64 x, .int .i64 y, .int .i64 z] 52)).drew).cell? ((⟨w3.heap.size + 1, 0, none⟩ : Addr).add j) = some u) := by
              have h := World.news_of_block (cs := #[.int .i64 x, .int .i64 y, .int .i64 z]) (t := 52) (fr := (0, 0)) (heap_alloc_new (w3.alloc (.cells #[] 52)) (.cells #[.int .i64 x, .int .i64 y, .int .i64 z] 52))
              exact Lib.hid (by simpa using h)
            have HNE3 : Hid (∀ (j : Nat) u, [Value.int .i64 x, .int .i64 y, .int .i64 z][j]? = some u → (((w3.alloc (.cells #[.int .i64 x, .int .i64 y, .int .i64 z] 52)).alloc (.cells #[] 52)).drew).cell? ((⟨w3.heap.size, 0, none⟩ : Addr).add j) = some u) := by
              intro j u hu
              have h := World.news_of_block (cs := #[.int .i64 x, .int .i64 y, .int .i64 z]) (t := 52) (fr := (0, 0)) (heap_alloc_new w3 (.cells #[.int .i64 x, .int .i64 y, .int .i64 z] 52)) j u hu
              rw [add_at] at h ⊢
              have := cell_old ((Below.refl _ (w3.alloc (.cells #[.int .i64 x, .int .i64 y, .int .i64 z] 52))).alloc (Nat.le_refl _) (.cells #[] 52)) h
              exact this
            have HONE : Hid (∀ u ∈ [Value.int .i64 x, .int .i64 y, .int .i64 z], u.oneCell' = true) := by intro u hu; simp at hu; rcases hu with rfl | rfl | rfl <;> rfl
            have hk0 : (0 : Int) ≤ ((k : Nat) : Int) := by omega
            have hk1 : ((k : Nat) : Int) ≤ (m : Int) := by omega
            have hk2 : ((k : Nat) : Int) ≤ (cap : Int) := by omega
            have hk5 : (m : Int) ≤ (cap : Int) := by omega
            have H0 := Lib.hid d0
            have H1 := Lib.hid d1
            have H2 := Lib.hid d2
            clear d0 d1 d2
            go_wp2_with fail
            go_region_held3 (fun w' => w'.cell? ⟨B, 0, none⟩ = some (.int .i64 x) ∧ w'.cell? ⟨B, 1, none⟩ = some (.int .i64 y) ∧ w'.cell? ⟨B, 2, none⟩ = some (.int .i64 z) ∧ Hid (Below w3.heap.size w3 w'))
              (first | exact keepT H0.out H1.out H2.out (Below.refl _ _).drew | exact keepT H0.out H1.out H2.out (HB1.out _) | exact keepT H0.out H1.out H2.out (HB2.out _ _) | assumption | exact keepT H0.out H1.out H2.out hb26 | exact keepT H0.out H1.out H2.out (hb26.alloc hb26.size _) | exact keepT H0.out H1.out H2.out hb29)
              (first
                | (refine step_append_mine _ (by rfl) _ _ _ (by rfl) w3.heap.size 52 i0 _ 3 24 Try.underlying25 hi hz0 hz1 hz2 rfl (by omega) _ 0 [] (by rfl) HE1.out ⟨g, 0, none⟩ k _ (ss (K.take k)) (by rfl) HL1.out (HN1.out _ (HB1.out _)) (ss_one _) (by unfold maxLen; omega) (by omega) (by simp) ?_
                   intro v26 w26 own26 gr26
                   have hb26 : Below w3.heap.size w3 w26 := (HB1.out _).grown gr26 (by simp) (by intro b hb; cases hb; exact Nat.le_refl _))
                | (refine step_append_mine _ (by rfl) _ _ _ (by rfl) w3.heap.size 52 i0 _ 3 24 Try.underlying25 hi hz0 hz1 hz2 rfl (by omega) _ 0 [] (by rfl) HE2.out ⟨g, 0, none⟩ k _ (ss (K.take k)) (by rfl) HL1.out (HN1.out _ (HB2.out _ _)) (ss_one _) (by unfold maxLen; omega) (by omega) (HB2.out _ _).size ?_
                   intro v26 w26 own26 gr26
                   have hb26 : Below w3.heap.size w3 w26 := (HB2.out _ _).grown gr26 (HB2.out _ _).size (by intro b hb; cases hb; exact Nat.le_refl _)
                   have gr26q : World.grownBy (((w3.alloc (.cells #[] 52)).alloc (.cells #[.int .i64 x, .int .i64 y, .int .i64 z] 52)).drew) w26 (some w3.heap.size) := gr26
                   have HN26 := Lib.hid (news_far gr26q (show w3.heap.size + 1 ≠ w3.heap.size by omega) HNE2.out))
                | (refine step_append_mine _ (by rfl) _ _ _ (by rfl) w3.heap.size 52 i0 _ 3 24 Try.underlying25 hi hz0 hz1 hz2 rfl (by omega) _ 0 [] (by rfl) HE3.out ⟨g, 0, none⟩ k _ (ss (K.take k)) (by rfl) HL1.out (HN1.out _ (HB2.out _ _)) (ss_one _) (by unfold maxLen; omega) (by omega) (HB2.out _ _).size ?_
                   intro v26 w26 own26 gr26
                   have hb26 : Below w3.heap.size w3 w26 := (HB2.out _ _).grown gr26 (HB2.out _ _).size (by intro b hb; cases hb; exact Nat.le_succ _)
                   have gr26q : World.grownBy (((w3.alloc (.cells #[.int .i64 x, .int .i64 y, .int .i64 z] 52)).alloc (.cells #[] 52)).drew) w26 (some (w3.heap.size + 1)) := gr26
                   have HN26 := Lib.hid (news_far gr26q (show w3.heap.size ≠ w3.heap.size + 1 by omega) HNE3.out))
                | (refine step_append_mine _ (by rfl) _ _ _ (by rfl) w3.heap.size 52 i0 _ 3 24 Try.underlying25 hi hz0 hz1 hz2 rfl (by omega) _ _ _ (by rfl) (own26.alloc _) ⟨w26.heap.size, 0, none⟩ 1 _ [.int .i64 x, .int .i64 y, .int .i64 z] (by rfl) (by rfl) (World.news_of_block (cs := #[.int .i64 x, .int .i64 y, .int .i64 z]) (t := 52) (fr := (0, 0)) (heap_alloc_new _ _)) HONE.out (by unfold maxLen; omega) (by omega) (by have := hb26.size; simp; omega) ?_
                   intro v29 w29 own29 gr29
                   have hb29 : Below w3.heap.size w3 w29 := (hb26.alloc hb26.size _).grown gr29 (by have := hb26.size; simp; omega) (fun b hb => (own26.lt b hb).1))
                | (refine step_append_mine _ (by rfl) _ _ _ (by rfl) w3.heap.size 52 i0 _ 3 24 Try.underlying25 hi hz0 hz1 hz2 rfl (by omega) _ _ _ (by rfl) own26 ⟨_, 0, none⟩ 1 _ [.int .i64 x, .int .i64 y, .int .i64 z] (by rfl) (by rfl) HN26.out HONE.out (by unfold maxLen; omega) (by omega) hb26.size ?_
                   intro v29 w29 own29 gr29
                   have hb29 : Below w3.heap.size w3 w29 := hb26.grown gr29 hb26.size (fun b hb => (own26.lt b hb).1))
                | fail)
            all_goals
              have Own29 := Lib.hid own29
              have Hb29 := Lib.hid hb29
              have hs29 := hb29.size
              have hif := Hif.out
              clear own29 hb29
              go_wp2_with (at_builtin; refine wpList_append_own _ rfl _ _ 25 rfl w3.heap.size 52 i0 (.agg #[.int .i64 0, .int .i64 0, .int .i64 0]) 3 24 Try.underlying25 hi hz0 hz1 hz2 rfl (by decide) _ _ _ rfl Own29.out ⟨g, off2, none⟩ (m - k) _ (ss (K.drop k)) rfl HL2.out (HN2.out _ (hb3.trans (Hb29.out.mono hs3))) (ss_one _) (by unfold maxLen; omega) (by omega) hs29 ?_)
              intro v5 w5 own5 gr5 _
              have Own5 : Hid (w5.ownsRow w.heap.size 52 3 v5 (m + 1) (ss (ordK l (m + 1)))) := Lib.hid (by
                have e1 : k + 1 + (m - k) = m + 1 := by omega
                have e2 : ss (ordK l (m + 1)) = ss (K.take k) ++ .int .i64 x :: .int .i64 y :: .int .i64 z :: ss (K.drop k) := by
                  rw [HKn.out]
                  unfold putS
                  rw [hKl, Hpos.out, ss_append]
                  rfl
                rw [e2, ← e1]
                have := own_base Hw3.out.size own5
                simpa using this)
              have Hb5 : Hid (Below w.heap.size w w5) := Lib.hid (Hw3.out.trans ((Hb29.out.grown gr5 hs29 (fun b hb => (Own29.out.lt b hb).1)).mono Hw3.out.size))
              clear own5 gr5 hif hs29 hs3 hb3
              go_wp2_with fail
              go_roundw
              case rel => exact ⟨m + 1, by omega, by go_num, Own5.out, Hb5.out⟩
              case measure => simp [intOf]; omega
          · obtain ⟨q, hq⟩ : ∃ q, k = q + 1 := ⟨k - 1, by omega⟩
            have hqm : q < m := by omega
            have hsub : (k : Int) - 1 = (q : Int) := by omega
            have Hq := Lib.hid hq
            rw [hq] at hpos
            obtain ⟨P0, _, P2⟩ := (sown_cells HorW.out hKl.symm q hqm).kept hbel
            rw [Nat.zero_add] at P0 P2
            obtain ⟨a, ha⟩ : ∃ x, sf K q = x := ⟨_, rfl⟩
            obtain ⟨b, hb⟩ : ∃ x, sm K q = x := ⟨_, rfl⟩
            have hla : (lsn K q).fr = a := ha
            have hlb : (lsn K q).at = b := hb
            rw [ha] at P0
            rw [hb] at P2
            clear ha hb
            have hq0 : (0 : Int) ≤ q := by omega
            have hq2 : (q : Int) < m := by omega
            have hgt : (0 : Int) < (k : Int) := by omega
            have hgtN : 0 < k := by omega
            clear hq hz0k
            by_cases hzb : z < b
            · have Hpos : Hid (posS K (x, y, z) m = posS K (x, y, z) q) := Lib.hid (by rw [hpos.out]; exact posS_yes (ltS_le1 (by rw [hlb]; exact hzb)))
              clear hpos hla hlb
              have c0g : ∀ m os, (Sort.grow (wr.drewN m) os).cell? ⟨B, 0, none⟩ = some (.int .i64 x) := cell_grown (World.block_lt_of_cell? _ _ C0) C0
              have c2g : ∀ m os, (Sort.grow (wr.drewN m) os).cell? ⟨B, 2, none⟩ = some (.int .i64 z) := cell_grown (World.block_lt_of_cell? _ _ C2) C2
              have p0g : ∀ m os, (Sort.grow (wr.drewN m) os).cell? ⟨g, q * 3, none⟩ = some (.int .i64 a) := cell_grown (World.block_lt_of_cell? _ _ P0) P0
              have p2g : ∀ m os, (Sort.grow (wr.drewN m) os).cell? ⟨g, q * 3 + 2, none⟩ = some (.int .i64 b) := cell_grown (World.block_lt_of_cell? _ _ P2) P2
              go_wp2_with fail
              refine wp_region_quiet_grown mixedT (by kernel_rfl) ?_
              repeat (go_big_quiet_step (first | fail))
              refine wpQuiet_nil ?_
              intro _ hwz
              obtain ⟨⟨nq, osq⟩, hwz2⟩ := hwz
              subst hwz2
              have hb3 : Below W.heap.size W (Sort.grow (wr.drewN nq) osq) := hbel.trans ((grown_below ⟨⟨nq, osq⟩, rfl⟩).mono hbel.size)
              clear c0g c2g hbel C0 C2 p0g p2g P0 P2
              generalize Sort.grow (wr.drewN nq) osq = w3 at *
              clear hgt hgtN hq0 hq2
              go_wp2_with fail
              go_roundw
              case rel => exact ⟨q, by omega, by go_num, Hpos, hb3⟩
              case measure => have := Hq.out; simp [intOf]; omega
            · by_cases hzb2 : z = b
              · by_cases hxa : x < a
                · have Hpos : Hid (posS K (x, y, z) m = posS K (x, y, z) q) := Lib.hid (by rw [hpos.out]; exact posS_yes (ltS_le2 (by rw [hlb]; exact hzb2) (by rw [hla]; exact hxa)))
                  subst hzb2
                  clear hpos hla hlb
                  have c0g : ∀ m os, (Sort.grow (wr.drewN m) os).cell? ⟨B, 0, none⟩ = some (.int .i64 x) := cell_grown (World.block_lt_of_cell? _ _ C0) C0
                  have c2g : ∀ m os, (Sort.grow (wr.drewN m) os).cell? ⟨B, 2, none⟩ = some (.int .i64 z) := cell_grown (World.block_lt_of_cell? _ _ C2) C2
                  have p0g : ∀ m os, (Sort.grow (wr.drewN m) os).cell? ⟨g, q * 3, none⟩ = some (.int .i64 a) := cell_grown (World.block_lt_of_cell? _ _ P0) P0
                  have p2g : ∀ m os, (Sort.grow (wr.drewN m) os).cell? ⟨g, q * 3 + 2, none⟩ = some (.int .i64 z) := cell_grown (World.block_lt_of_cell? _ _ P2) P2
                  go_wp2_with fail
                  refine wp_region_quiet_grown mixedT (by kernel_rfl) ?_
                  repeat (go_big_quiet_step (first | fail))
                  refine wpQuiet_nil ?_
                  intro _ hwz
                  obtain ⟨⟨nq, osq⟩, hwz2⟩ := hwz
                  subst hwz2
                  have hb3 : Below W.heap.size W (Sort.grow (wr.drewN nq) osq) := hbel.trans ((grown_below ⟨⟨nq, osq⟩, rfl⟩).mono hbel.size)
                  clear c0g c2g hbel C0 C2 p0g p2g P0 P2
                  generalize Sort.grow (wr.drewN nq) osq = w3 at *
                  clear hgt hgtN hq0 hq2
                  go_wp2_with fail
                  go_roundw
                  case rel => exact ⟨q, by omega, by go_num, Hpos, hb3⟩
                  case measure => have := Hq.out; simp [intOf]; omega
                · have Hpos : Hid (posS K (x, y, z) m = k) := Lib.hid (by rw [hpos.out, Hq.out]; exact posS_no (ltS_no (by rw [hlb]; exact hzb) (fun h => hxa (by have := h.2; rw [hla] at this; exact this))))
                  subst hzb2
                  clear hpos hla hlb
                  have c0g : ∀ m os, (Sort.grow (wr.drewN m) os).cell? ⟨B, 0, none⟩ = some (.int .i64 x) := cell_grown (World.block_lt_of_cell? _ _ C0) C0
                  have c2g : ∀ m os, (Sort.grow (wr.drewN m) os).cell? ⟨B, 2, none⟩ = some (.int .i64 z) := cell_grown (World.block_lt_of_cell? _ _ C2) C2
                  have p0g : ∀ m os, (Sort.grow (wr.drewN m) os).cell? ⟨g, q * 3, none⟩ = some (.int .i64 a) := cell_grown (World.block_lt_of_cell? _ _ P0) P0
                  have p2g : ∀ m os, (Sort.grow (wr.drewN m) os).cell? ⟨g, q * 3 + 2, none⟩ = some (.int .i64 z) := cell_grown (World.block_lt_of_cell? _ _ P2) P2
                  go_wp2_with fail
                  refine wp_region_quiet_grown mixedT (by kernel_rfl) ?_
                  repeat (go_big_quiet_step (first | fail))
                  refine wpQuiet_nil ?_
                  intro _ hwz
                  obtain ⟨⟨nq, osq⟩, hwz2⟩ := hwz
                  subst hwz2
                  have hb3 : Below W.heap.size W (Sort.grow (wr.drewN nq) osq) := hbel.trans ((grown_below ⟨⟨nq, osq⟩, rfl⟩).mono hbel.size)
                  clear c0g c2g hbel C0 C2 p0g p2g P0 P2
                  generalize Sort.grow (wr.drewN nq) osq = w3 at *
                  clear hgt hgtN hq0 hq2 hsub
                  have hs3 := hb3.size
                  have Hw3 := Lib.hid (HbW.out.trans (hb3.mono HbW.out.size))
                  have d0 := cell_old hb3 HC0.out
                  have d1 := cell_old hb3 HC1.out
                  have d2 := cell_old hb3 HC2.out
                  have HN1 : Hid (∀ w', Below w3.heap.size w3 w' → ∀ j u, (ss (K.take k))[j]? = some u → w'.cell? ((⟨g, 0, none⟩ : Addr).add j) = some u) := Lib.hid (fun w' hbb => news_take HorW.out hKl.symm (hb3.trans (hbb.mono hs3)) k)
                  have HL1 : Hid ((ss (K.take k)).length = k * 3) := by show _ = _; rw [ss_length, List.length_take, hKl]; omega
                  have HL2 : Hid ((ss (K.drop k)).length = (m - k) * 3) := by show _ = _; rw [ss_length, List.length_drop, hKl]
                  obtain ⟨off2, hif, HN2q⟩ : ∃ off2, (if cap = k then (some ⟨g, 0, none⟩ : Option Addr) else some ⟨g, k * 3, none⟩) = some ⟨g, off2, none⟩ ∧ (∀ w', Below W.heap.size W w' → ∀ j u, (ss (K.drop k))[j]? = some u → w'.cell? ((⟨g, off2, none⟩ : Addr).add j) = some u) := by
                    by_cases hck : cap = k
                    · have hd : K.drop k = [] := List.drop_eq_nil_of_le (by rw [hKl]; omega)
                      refine ⟨0, by rw [if_pos hck], fun w' _ j u hu => ?_⟩
                      rw [hd] at hu
                      simp [ss] at hu
                    · exact ⟨k * 3, by rw [if_neg hck], fun w' hb => news_drop HorW.out hKl.symm hb k (by omega)⟩
                  have HN2 := Lib.hid HN2q
                  have Hif := Lib.hid hif
                  clear HN2q hif
                  have HB1 : Hid (∀ o, Below w3.heap.size w3 (w3.alloc o).drew) := fun o => ((Below.refl _ _).alloc (Nat.le_refl _) _).drew
                  have HB2 : Hid (∀ o o', Below w3.heap.size w3 ((w3.alloc o).alloc o').drew) := fun o o' => (((Below.refl _ _).alloc (Nat.le_refl _) _).alloc (by simp) _).drew
                  have HE1 : Hid ((w3.alloc (.cells #[] 52)).drew.ownsRow w3.heap.size 52 3 (.slice (some ⟨w3.heap.size, 0, none⟩) 0 0) 0 []) := (World.ownsRow_lit w3 #[] 0 (Nat.le_refl _) (by unfold maxLen; omega) rfl).drew
                  have HE2 : Hid (((w3.alloc (.cells #[] 52)).alloc (.cells #[.int .i64 x, .int .i64 y, .int .i64 z] 52)).drew.ownsRow w3.heap.size 52 3 (.slice (some ⟨w3.heap.size, 0, none⟩) 0 0) 0 []) := ((World.ownsRow_lit w3 #[] 0 (Nat.le_refl _) (by unfold maxLen; omega) rfl).alloc _).drew
                  have HE3 : Hid (((w3.alloc (.cells #[.int .i64 x, .int .i64 y, .int .i64 z] 52)).alloc (.cells #[] 52)).drew.ownsRow w3.heap.size 52 3 (.slice (some ⟨w3.heap.size + 1, 0, none⟩) 0 0) 0 []) := by
                    have h := (World.ownsRow_lit (base := w3.heap.size) (w3.alloc (.cells #[.int .i64 x, .int .i64 y, .int .i64 z] 52)) #[] 0 (e := 52) (size := 3) (by simp) (by unfold maxLen; omega) rfl).drew
                    exact Lib.hid (by simpa using h)
                  have HNE2 : Hid (∀ (j : Nat) u, [Value.int .i64 x, .int .i64 y, .int .i64 z][j]? = some u → (((w3.alloc (.cells #[] 52)).alloc (.cells #[.int .i64 x, .int .i64 y, .int .i64 z] 52)).drew).cell? ((⟨w3.heap.size + 1, 0, none⟩ : Addr).add j) = some u) := by
                    have h := World.news_of_block (cs := #[.int .i64 x, .int .i64 y, .int .i64 z]) (t := 52) (fr := (0, 0)) (heap_alloc_new (w3.alloc (.cells #[] 52)) (.cells #[.int .i64 x, .int .i64 y, .int .i64 z] 52))
                    exact Lib.hid (by simpa using h)
                  have HNE3 : Hid (∀ (j : Nat) u, [Value.int .i64 x, .int .i64 y, .int .i64 z][j]? = some u → (((w3.alloc (.cells #[.int .i64 x, .int .i64 y, .int .i64 z] 52)).alloc (.cells #[] 52)).drew).cell? ((⟨w3.heap.size, 0, none⟩ : Addr).add j) = some u) := by
                    intro j u hu
                    have h := World.news_of_block (cs := #[.int .i64 x, .int .i64 y, .int .i64 z]) (t := 52) (fr := (0, 0)) (heap_alloc_new w3 (.cells #[.int .i64 x, .int .i64 y, .int .i64 z] 52)) j u hu
                    rw [add_at] at h ⊢
                    have := cell_old ((Below.refl _ (w3.alloc (.cells #[.int .i64 x, .int .i64 y, .int .i64 z] 52))).alloc (Nat.le_refl _) (.cells #[] 52)) h
                    exact this
                  have HONE : Hid (∀ u ∈ [Value.int .i64 x, .int .i64 y, .int .i64 z], u.oneCell' = true) := by intro u hu; simp at hu; rcases hu with rfl | rfl | rfl <;> rfl
                  have hk0 : (0 : Int) ≤ ((k : Nat) : Int) := by omega
                  have hk1 : ((k : Nat) : Int) ≤ (m : Int) := by omega
                  have hk2 : ((k : Nat) : Int) ≤ (cap : Int) := by omega
                  have hk5 : (m : Int) ≤ (cap : Int) := by omega
                  have H0 := Lib.hid d0
                  have H1 := Lib.hid d1
                  have H2 := Lib.hid d2
                  clear d0 d1 d2
                  go_wp2_with fail
                  go_region_held3 (fun w' => w'.cell? ⟨B, 0, none⟩ = some (.int .i64 x) ∧ w'.cell? ⟨B, 1, none⟩ = some (.int .i64 y) ∧ w'.cell? ⟨B, 2, none⟩ = some (.int .i64 z) ∧ Hid (Below w3.heap.size w3 w'))
                    (first | exact keepT H0.out H1.out H2.out (Below.refl _ _).drew | exact keepT H0.out H1.out H2.out (HB1.out _) | exact keepT H0.out H1.out H2.out (HB2.out _ _) | assumption | exact keepT H0.out H1.out H2.out hb26 | exact keepT H0.out H1.out H2.out (hb26.alloc hb26.size _) | exact keepT H0.out H1.out H2.out hb29)
                    (first
                      | (refine step_append_mine _ (by rfl) _ _ _ (by rfl) w3.heap.size 52 i0 _ 3 24 Try.underlying25 hi hz0 hz1 hz2 rfl (by omega) _ 0 [] (by rfl) HE1.out ⟨g, 0, none⟩ k _ (ss (K.take k)) (by rfl) HL1.out (HN1.out _ (HB1.out _)) (ss_one _) (by unfold maxLen; omega) (by omega) (by simp) ?_
                         intro v26 w26 own26 gr26
                         have hb26 : Below w3.heap.size w3 w26 := (HB1.out _).grown gr26 (by simp) (by intro b hb; cases hb; exact Nat.le_refl _))
                      | (refine step_append_mine _ (by rfl) _ _ _ (by rfl) w3.heap.size 52 i0 _ 3 24 Try.underlying25 hi hz0 hz1 hz2 rfl (by omega) _ 0 [] (by rfl) HE2.out ⟨g, 0, none⟩ k _ (ss (K.take k)) (by rfl) HL1.out (HN1.out _ (HB2.out _ _)) (ss_one _) (by unfold maxLen; omega) (by omega) (HB2.out _ _).size ?_
                         intro v26 w26 own26 gr26
                         have hb26 : Below w3.heap.size w3 w26 := (HB2.out _ _).grown gr26 (HB2.out _ _).size (by intro b hb; cases hb; exact Nat.le_refl _)
                         have gr26q : World.grownBy (((w3.alloc (.cells #[] 52)).alloc (.cells #[.int .i64 x, .int .i64 y, .int .i64 z] 52)).drew) w26 (some w3.heap.size) := gr26
                         have HN26 := Lib.hid (news_far gr26q (show w3.heap.size + 1 ≠ w3.heap.size by omega) HNE2.out))
                      | (refine step_append_mine _ (by rfl) _ _ _ (by rfl) w3.heap.size 52 i0 _ 3 24 Try.underlying25 hi hz0 hz1 hz2 rfl (by omega) _ 0 [] (by rfl) HE3.out ⟨g, 0, none⟩ k _ (ss (K.take k)) (by rfl) HL1.out (HN1.out _ (HB2.out _ _)) (ss_one _) (by unfold maxLen; omega) (by omega) (HB2.out _ _).size ?_
                         intro v26 w26 own26 gr26
                         have hb26 : Below w3.heap.size w3 w26 := (HB2.out _ _).grown gr26 (HB2.out _ _).size (by intro b hb; cases hb; exact Nat.le_succ _)
                         have gr26q : World.grownBy (((w3.alloc (.cells #[.int .i64 x, .int .i64 y, .int .i64 z] 52)).alloc (.cells #[] 52)).drew) w26 (some (w3.heap.size + 1)) := gr26
                         have HN26 := Lib.hid (news_far gr26q (show w3.heap.size ≠ w3.heap.size + 1 by omega) HNE3.out))
                      | (refine step_append_mine _ (by rfl) _ _ _ (by rfl) w3.heap.size 52 i0 _ 3 24 Try.underlying25 hi hz0 hz1 hz2 rfl (by omega) _ _ _ (by rfl) (own26.alloc _) ⟨w26.heap.size, 0, none⟩ 1 _ [.int .i64 x, .int .i64 y, .int .i64 z] (by rfl) (by rfl) (World.news_of_block (cs := #[.int .i64 x, .int .i64 y, .int .i64 z]) (t := 52) (fr := (0, 0)) (heap_alloc_new _ _)) HONE.out (by unfold maxLen; omega) (by omega) (by have := hb26.size; simp; omega) ?_
                         intro v29 w29 own29 gr29
                         have hb29 : Below w3.heap.size w3 w29 := (hb26.alloc hb26.size _).grown gr29 (by have := hb26.size; simp; omega) (fun b hb => (own26.lt b hb).1))
                      | (refine step_append_mine _ (by rfl) _ _ _ (by rfl) w3.heap.size 52 i0 _ 3 24 Try.underlying25 hi hz0 hz1 hz2 rfl (by omega) _ _ _ (by rfl) own26 ⟨_, 0, none⟩ 1 _ [.int .i64 x, .int .i64 y, .int .i64 z] (by rfl) (by rfl) HN26.out HONE.out (by unfold maxLen; omega) (by omega) hb26.size ?_
                         intro v29 w29 own29 gr29
                         have hb29 : Below w3.heap.size w3 w29 := hb26.grown gr29 hb26.size (fun b hb => (own26.lt b hb).1))
                      | fail)
                  all_goals
                    have Own29 := Lib.hid own29
                    have Hb29 := Lib.hid hb29
                    have hs29 := hb29.size
                    have hif := Hif.out
                    clear own29 hb29
                    go_wp2_with (at_builtin; refine wpList_append_own _ rfl _ _ 25 rfl w3.heap.size 52 i0 (.agg #[.int .i64 0, .int .i64 0, .int .i64 0]) 3 24 Try.underlying25 hi hz0 hz1 hz2 rfl (by decide) _ _ _ rfl Own29.out ⟨g, off2, none⟩ (m - k) _ (ss (K.drop k)) rfl HL2.out (HN2.out _ (hb3.trans (Hb29.out.mono hs3))) (ss_one _) (by unfold maxLen; omega) (by omega) hs29 ?_)
                    intro v5 w5 own5 gr5 _
                    have Own5 : Hid (w5.ownsRow w.heap.size 52 3 v5 (m + 1) (ss (ordK l (m + 1)))) := Lib.hid (by
                      have e1 : k + 1 + (m - k) = m + 1 := by omega
                      have e2 : ss (ordK l (m + 1)) = ss (K.take k) ++ .int .i64 x :: .int .i64 y :: .int .i64 z :: ss (K.drop k) := by
                        rw [HKn.out]
                        unfold putS
                        rw [hKl, Hpos.out, ss_append]
                        rfl
                      rw [e2, ← e1]
                      have := own_base Hw3.out.size own5
                      simpa using this)
                    have Hb5 : Hid (Below w.heap.size w w5) := Lib.hid (Hw3.out.trans ((Hb29.out.grown gr5 hs29 (fun b hb => (Own29.out.lt b hb).1)).mono Hw3.out.size))
                    clear own5 gr5 hif hs29 hs3 hb3
                    go_wp2_with fail
                    go_roundw
                    case rel => exact ⟨m + 1, by omega, by go_num, Own5.out, Hb5.out⟩
                    case measure => simp [intOf]; omega
              · have Hpos : Hid (posS K (x, y, z) m = k) := Lib.hid (by rw [hpos.out, Hq.out]; exact posS_no (ltS_no (by rw [hlb]; exact hzb) (fun h => hzb2 (by have := h.1; rw [hlb] at this; exact this))))
                have hzb3 : (z == b) = false := by simpa using hzb2
                have hzb4 : decide (z < b) = false := by simpa using hzb
                clear hpos hla hlb
                have c0g : ∀ m os, (Sort.grow (wr.drewN m) os).cell? ⟨B, 0, none⟩ = some (.int .i64 x) := cell_grown (World.block_lt_of_cell? _ _ C0) C0
                have c2g : ∀ m os, (Sort.grow (wr.drewN m) os).cell? ⟨B, 2, none⟩ = some (.int .i64 z) := cell_grown (World.block_lt_of_cell? _ _ C2) C2
                have p0g : ∀ m os, (Sort.grow (wr.drewN m) os).cell? ⟨g, q * 3, none⟩ = some (.int .i64 a) := cell_grown (World.block_lt_of_cell? _ _ P0) P0
                have p2g : ∀ m os, (Sort.grow (wr.drewN m) os).cell? ⟨g, q * 3 + 2, none⟩ = some (.int .i64 b) := cell_grown (World.block_lt_of_cell? _ _ P2) P2
                go_wp2_with fail
                refine wp_region_quiet_grown mixedT (by kernel_rfl) ?_
                repeat (go_big_quiet_step (first | fail))
                refine wpQuiet_nil ?_
                intro _ hwz
                obtain ⟨⟨nq, osq⟩, hwz2⟩ := hwz
                subst hwz2
                have hb3 : Below W.heap.size W (Sort.grow (wr.drewN nq) osq) := hbel.trans ((grown_below ⟨⟨nq, osq⟩, rfl⟩).mono hbel.size)
                clear c0g c2g hbel C0 C2 p0g p2g P0 P2
                generalize Sort.grow (wr.drewN nq) osq = w3 at *
                clear hgt hgtN hq0 hq2 hsub
                have hs3 := hb3.size
                have Hw3 := Lib.hid (HbW.out.trans (hb3.mono HbW.out.size))
                have d0 := cell_old hb3 HC0.out
                have d1 := cell_old hb3 HC1.out
                have d2 := cell_old hb3 HC2.out
                have HN1 : Hid (∀ w', Below w3.heap.size w3 w' → ∀ j u, (ss (K.take k))[j]? = some u → w'.cell? ((⟨g, 0, none⟩ : Addr).add j) = some u) := Lib.hid (fun w' hbb => news_take HorW.out hKl.symm (hb3.trans (hbb.mono hs3)) k)
                have HL1 : Hid ((ss (K.take k)).length = k * 3) := by show _ = _; rw [ss_length, List.length_take, hKl]; omega
                have HL2 : Hid ((ss (K.drop k)).length = (m - k) * 3) := by show _ = _; rw [ss_length, List.length_drop, hKl]
                obtain ⟨off2, hif, HN2q⟩ : ∃ off2, (if cap = k then (some ⟨g, 0, none⟩ : Option Addr) else some ⟨g, k * 3, none⟩) = some ⟨g, off2, none⟩ ∧ (∀ w', Below W.heap.size W w' → ∀ j u, (ss (K.drop k))[j]? = some u → w'.cell? ((⟨g, off2, none⟩ : Addr).add j) = some u) := by
                  by_cases hck : cap = k
                  · have hd : K.drop k = [] := List.drop_eq_nil_of_le (by rw [hKl]; omega)
                    refine ⟨0, by rw [if_pos hck], fun w' _ j u hu => ?_⟩
                    rw [hd] at hu
                    simp [ss] at hu
                  · exact ⟨k * 3, by rw [if_neg hck], fun w' hb => news_drop HorW.out hKl.symm hb k (by omega)⟩
                have HN2 := Lib.hid HN2q
                have Hif := Lib.hid hif
                clear HN2q hif
                have HB1 : Hid (∀ o, Below w3.heap.size w3 (w3.alloc o).drew) := fun o => ((Below.refl _ _).alloc (Nat.le_refl _) _).drew
                have HB2 : Hid (∀ o o', Below w3.heap.size w3 ((w3.alloc o).alloc o').drew) := fun o o' => (((Below.refl _ _).alloc (Nat.le_refl _) _).alloc (by simp) _).drew
                have HE1 : Hid ((w3.alloc (.cells #[] 52)).drew.ownsRow w3.heap.size 52 3 (.slice (some ⟨w3.heap.size, 0, none⟩) 0 0) 0 []) := (World.ownsRow_lit w3 #[] 0 (Nat.le_refl _) (by unfold maxLen; omega) rfl).drew
                have HE2 : Hid (((w3.alloc (.cells #[] 52)).alloc (.cells #[.int .i64 x, .int .i64 y, .int .i64 z] 52)).drew.ownsRow w3.heap.size 52 3 (.slice (some ⟨w3.heap.size, 0, none⟩) 0 0) 0 []) := ((World.ownsRow_lit w3 #[] 0 (Nat.le_refl _) (by unfold maxLen; omega) rfl).alloc _).drew
                have HE3 : Hid (((w3.alloc (.cells #[.int .i64 x, .int .i64 y, .int .i64 z] 52)).alloc (.cells #[] 52)).drew.ownsRow w3.heap.size 52 3 (.slice (some ⟨w3.heap.size + 1, 0, none⟩) 0 0) 0 []) := by
                  have h := (World.ownsRow_lit (base := w3.heap.size) (w3.alloc (.cells #[.int .i64 x, .int .i64 y, .int .i64 z] 52)) #[] 0 (e := 52) (size := 3) (by simp) (by unfold maxLen; omega) rfl).drew
                  exact Lib.hid (by simpa using h)
                have HNE2 : Hid (∀ (j : Nat) u, [Value.int .i64 x, .int .i64 y, .int .i64 z][j]? = some u → (((w3.alloc (.cells #[] 52)).alloc (.cells #[.int .i64 x, .int .i64 y, .int .i64 z] 52)).drew).cell? ((⟨w3.heap.size + 1, 0, none⟩ : Addr).add j) = some u) := by
                  have h := World.news_of_block (cs := #[.int .i64 x, .int .i64 y, .int .i64 z]) (t := 52) (fr := (0, 0)) (heap_alloc_new (w3.alloc (.cells #[] 52)) (.cells #[.int .i64 x, .int .i64 y, .int .i64 z] 52))
                  exact Lib.hid (by simpa using h)
                have HNE3 : Hid (∀ (j : Nat) u, [Value.int .i64 x, .int .i64 y, .int .i64 z][j]? = some u → (((w3.alloc (.cells #[.int .i64 x, .int .i64 y, .int .i64 z] 52)).alloc (.cells #[] 52)).drew).cell? ((⟨w3.heap.size, 0, none⟩ : Addr).add j) = some u) := by
                  intro j u hu
                  have h := World.news_of_block (cs := #[.int .i64 x, .int .i64 y, .int .i64 z]) (t := 52) (fr := (0, 0)) (heap_alloc_new w3 (.cells #[.int .i64 x, .int .i64 y, .int .i64 z] 52)) j u hu
                  rw [add_at] at h ⊢
                  have := cell_old ((Below.refl _ (w3.alloc (.cells #[.int .i64 x, .int .i64 y, .int .i64 z] 52))).alloc (Nat.le_refl _) (.cells #[] 52)) h
                  exact this
                have HONE : Hid (∀ u ∈ [Value.int .i64 x, .int .i64 y, .int .i64 z], u.oneCell' = true) := by intro u hu; simp at hu; rcases hu with rfl | rfl | rfl <;> rfl
                have hk0 : (0 : Int) ≤ ((k : Nat) : Int) := by omega
                have hk1 : ((k : Nat) : Int) ≤ (m : Int) := by omega
                have hk2 : ((k : Nat) : Int) ≤ (cap : Int) := by omega
                have hk5 : (m : Int) ≤ (cap : Int) := by omega
                have H0 := Lib.hid d0
                have H1 := Lib.hid d1
                have H2 := Lib.hid d2
                clear d0 d1 d2
                go_wp2_with fail
                go_region_held3 (fun w' => w'.cell? ⟨B, 0, none⟩ = some (.int .i64 x) ∧ w'.cell? ⟨B, 1, none⟩ = some (.int .i64 y) ∧ w'.cell? ⟨B, 2, none⟩ = some (.int .i64 z) ∧ Hid (Below w3.heap.size w3 w'))
                  (first | exact keepT H0.out H1.out H2.out (Below.refl _ _).drew | exact keepT H0.out H1.out H2.out (HB1.out _) | exact keepT H0.out H1.out H2.out (HB2.out _ _) | assumption | exact keepT H0.out H1.out H2.out hb26 | exact keepT H0.out H1.out H2.out (hb26.alloc hb26.size _) | exact keepT H0.out H1.out H2.out hb29)
                  (first
                    | (refine step_append_mine _ (by rfl) _ _ _ (by rfl) w3.heap.size 52 i0 _ 3 24 Try.underlying25 hi hz0 hz1 hz2 rfl (by omega) _ 0 [] (by rfl) HE1.out ⟨g, 0, none⟩ k _ (ss (K.take k)) (by rfl) HL1.out (HN1.out _ (HB1.out _)) (ss_one _) (by unfold maxLen; omega) (by omega) (by simp) ?_
                       intro v26 w26 own26 gr26
                       have hb26 : Below w3.heap.size w3 w26 := (HB1.out _).grown gr26 (by simp) (by intro b hb; cases hb; exact Nat.le_refl _))
                    | (refine step_append_mine _ (by rfl) _ _ _ (by rfl) w3.heap.size 52 i0 _ 3 24 Try.underlying25 hi hz0 hz1 hz2 rfl (by omega) _ 0 [] (by rfl) HE2.out ⟨g, 0, none⟩ k _ (ss (K.take k)) (by rfl) HL1.out (HN1.out _ (HB2.out _ _)) (ss_one _) (by unfold maxLen; omega) (by omega) (HB2.out _ _).size ?_
                       intro v26 w26 own26 gr26
                       have hb26 : Below w3.heap.size w3 w26 := (HB2.out _ _).grown gr26 (HB2.out _ _).size (by intro b hb; cases hb; exact Nat.le_refl _)
                       have gr26q : World.grownBy (((w3.alloc (.cells #[] 52)).alloc (.cells #[.int .i64 x, .int .i64 y, .int .i64 z] 52)).drew) w26 (some w3.heap.size) := gr26
                       have HN26 := Lib.hid (news_far gr26q (show w3.heap.size + 1 ≠ w3.heap.size by omega) HNE2.out))
                    | (refine step_append_mine _ (by rfl) _ _ _ (by rfl) w3.heap.size 52 i0 _ 3 24 Try.underlying25 hi hz0 hz1 hz2 rfl (by omega) _ 0 [] (by rfl) HE3.out ⟨g, 0, none⟩ k _ (ss (K.take k)) (by rfl) HL1.out (HN1.out _ (HB2.out _ _)) (ss_one _) (by unfold maxLen; omega) (by omega) (HB2.out _ _).size ?_
                       intro v26 w26 own26 gr26
                       have hb26 : Below w3.heap.size w3 w26 := (HB2.out _ _).grown gr26 (HB2.out _ _).size (by intro b hb; cases hb; exact Nat.le_succ _)
                       have gr26q : World.grownBy (((w3.alloc (.cells #[.int .i64 x, .int .i64 y, .int .i64 z] 52)).alloc (.cells #[] 52)).drew) w26 (some (w3.heap.size + 1)) := gr26
                       have HN26 := Lib.hid (news_far gr26q (show w3.heap.size ≠ w3.heap.size + 1 by omega) HNE3.out))
                    | (refine step_append_mine _ (by rfl) _ _ _ (by rfl) w3.heap.size 52 i0 _ 3 24 Try.underlying25 hi hz0 hz1 hz2 rfl (by omega) _ _ _ (by rfl) (own26.alloc _) ⟨w26.heap.size, 0, none⟩ 1 _ [.int .i64 x, .int .i64 y, .int .i64 z] (by rfl) (by rfl) (World.news_of_block (cs := #[.int .i64 x, .int .i64 y, .int .i64 z]) (t := 52) (fr := (0, 0)) (heap_alloc_new _ _)) HONE.out (by unfold maxLen; omega) (by omega) (by have := hb26.size; simp; omega) ?_
                       intro v29 w29 own29 gr29
                       have hb29 : Below w3.heap.size w3 w29 := (hb26.alloc hb26.size _).grown gr29 (by have := hb26.size; simp; omega) (fun b hb => (own26.lt b hb).1))
                    | (refine step_append_mine _ (by rfl) _ _ _ (by rfl) w3.heap.size 52 i0 _ 3 24 Try.underlying25 hi hz0 hz1 hz2 rfl (by omega) _ _ _ (by rfl) own26 ⟨_, 0, none⟩ 1 _ [.int .i64 x, .int .i64 y, .int .i64 z] (by rfl) (by rfl) HN26.out HONE.out (by unfold maxLen; omega) (by omega) hb26.size ?_
                       intro v29 w29 own29 gr29
                       have hb29 : Below w3.heap.size w3 w29 := hb26.grown gr29 hb26.size (fun b hb => (own26.lt b hb).1))
                    | fail)
                all_goals
                  have Own29 := Lib.hid own29
                  have Hb29 := Lib.hid hb29
                  have hs29 := hb29.size
                  have hif := Hif.out
                  clear own29 hb29
                  go_wp2_with (at_builtin; refine wpList_append_own _ rfl _ _ 25 rfl w3.heap.size 52 i0 (.agg #[.int .i64 0, .int .i64 0, .int .i64 0]) 3 24 Try.underlying25 hi hz0 hz1 hz2 rfl (by decide) _ _ _ rfl Own29.out ⟨g, off2, none⟩ (m - k) _ (ss (K.drop k)) rfl HL2.out (HN2.out _ (hb3.trans (Hb29.out.mono hs3))) (ss_one _) (by unfold maxLen; omega) (by omega) hs29 ?_)
                  intro v5 w5 own5 gr5 _
                  have Own5 : Hid (w5.ownsRow w.heap.size 52 3 v5 (m + 1) (ss (ordK l (m + 1)))) := Lib.hid (by
                    have e1 : k + 1 + (m - k) = m + 1 := by omega
                    have e2 : ss (ordK l (m + 1)) = ss (K.take k) ++ .int .i64 x :: .int .i64 y :: .int .i64 z :: ss (K.drop k) := by
                      rw [HKn.out]
                      unfold putS
                      rw [hKl, Hpos.out, ss_append]
                      rfl
                    rw [e2, ← e1]
                    have := own_base Hw3.out.size own5
                    simpa using this)
                  have Hb5 : Hid (Below w.heap.size w w5) := Lib.hid (Hw3.out.trans ((Hb29.out.grown gr5 hs29 (fun b hb => (Own29.out.lt b hb).1)).mono Hw3.out.size))
                  clear own5 gr5 hif hs29 hs3 hb3
                  go_wp2_with fail
                  go_roundw
                  case rel => exact ⟨m + 1, by omega, by go_num, Own5.out, Hb5.out⟩
                  case measure => simp [intOf]; omega
    · obtain rfl : m = n := by omega
      have Hor := Lib.hid hor
      have Hbel := Lib.hid hbel0
      clear hor hbel0
      go_wp2_with fail
      go_ret
      exact ⟨_, rfl, by have := Hor.out; rwa [Hn.out] at this ⊢, Hbel.out⟩

end Go.Proofs.Ytghfkgbmmkcjhaa
