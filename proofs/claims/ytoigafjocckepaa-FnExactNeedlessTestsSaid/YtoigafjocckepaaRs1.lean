/- Results of tests: the program. -/
import Derived.Test.YtoigafjocckepaaRs0
import Derived.Test.YtoigafjocckepaaOpen
namespace Go.Proofs.Ytoigafjocckepaa
open Go.ChangeShapes Go.WideShapes Go.ChangeAt Go.RowKit
set_option linter.unusedVariables false


set_option maxRecDepth 20000 in
theorem meets_any (a b : Nat) (ha : a < 1024) (hb : b < 1024) (w : World) :
    Calls Try.prog 68 #[wv a, wv b] w fun e w' => e = .returned (.bool (mtB a b)) ∧ Below w.heap.size w w' := by
  have hq := eqWL (a : Int) ((clr a b : Nat) : Int)
  have hce : (((a : Nat) : Int) == ((clr a b : Nat) : Int)) = !mtB a b := by rw [← clr_eq a b ha hb, Bool.eq_iff_iff]; simp; omega
  obtain ⟨r, hr⟩ : ∃ r, mtB a b = r := ⟨_, rfl⟩
  rw [hr] at hce ⊢
  rw [hce] at hq
  have hW := fun W => without_any a b ha hb W
  obtain ⟨C, hC⟩ : ∃ C : Int, ((clr a b : Nat) : Int) = C := ⟨_, rfl⟩
  simp only [wv] at hW
  rw [hC] at hq
  simp only [hC] at hW
  clear hr hce hC
  go_enter Try.func68, Try.ntmps68
  go_wp2_with fail
  obtain ⟨W, hWd⟩ : ∃ W, (w.alloc (Obj.cells #[Value.int IntKind.u16 a] 52)).alloc (Obj.cells #[Value.int IntKind.u16 b] 52) = W := ⟨_, rfl⟩
  have hb2 : Below w.heap.size w W := by rw [← hWd]; go_grown
  have c0 : W.cell? ⟨w.heap.size, 0, none⟩ = some (.int .u16 a) := by rw [← hWd]; simp
  have c1 : W.cell? ⟨w.heap.size + 1, 0, none⟩ = some (.int .u16 b) := by rw [← hWd]; simp
  rw [hWd]
  have Hb := Lib.hid hb2
  have H0 := Lib.hid c0
  have H1 := Lib.hid c1
  clear hWd hb2
  go_region_held3 (fun w' => w'.cell? ⟨w.heap.size, 0, none⟩ = some (.int .u16 a) ∧ w'.cell? ⟨w.heap.size + 1, 0, none⟩ = some (.int .u16 b) ∧ Hid (Below W.heap.size W w'))
    (first
      | exact ⟨H0.out, H1.out, (Below.refl _ _).drew⟩
      | assumption
      | (go_split_ands
         exact ⟨cell_old hbn (by assumption), cell_old hbn (by assumption), hb9⟩))
    (first
      | (go_at_call 76; refine (hW _).mono ?_; rintro e w3 ⟨rfl, hbn⟩; (have hb9 : Hid (Below W.heap.size W w3) := Lib.hid (by go_split_ands; exact Below.trans (Hid.out (by assumption)) (hbn.mono (Hid.out (by assumption : Hid (Below W.heap.size W _))).size))))
      | fail)
  rename_i hS
  have hb6 : Below w.heap.size w w3 := Hb.out.trans (hS.2.2.out.mono Hb.out.size)
  clear hS hb9
  go_wp2_with fail
  go_ret
  exact ⟨by first | rfl | simp, hb6⟩

theorem result_any (a b : Nat) (ha : a < 1024) (hb : b < 1024) (w : World) :
    Calls Try.prog 72 #[wv a, wv b] w fun e w' => e = .returned (.int .i32 (if mtB a b then 49 else 48)) ∧ Below w.heap.size w w' := by
  have hM := fun W => meets_any a b ha hb W
  simp only [wv] at hM
  cases hm : mtB a b
  · rw [hm] at hM
    simp only [Bool.false_eq_true, if_false]
    clear hm
    go_enter Try.func72, Try.ntmps72
    go_wp2_with fail
    refine (hM _).mono ?_
    rintro e w' ⟨rfl, hb2⟩
    have hb3 : Below w.heap.size w w' := (show Below w.heap.size w ((w.alloc (Obj.cells #[Value.int IntKind.u16 a] 52)).alloc (Obj.cells #[Value.int IntKind.u16 b] 52)) by go_grown).trans (hb2.mono (by simp; omega))
    go_wp2_with fail
    go_ret
    exact ⟨rfl, hb3⟩
  · rw [hm] at hM
    simp only [if_true]
    clear hm
    go_enter Try.func72, Try.ntmps72
    go_wp2_with fail
    refine (hM _).mono ?_
    rintro e w' ⟨rfl, hb2⟩
    have hb3 : Below w.heap.size w w' := (show Below w.heap.size w ((w.alloc (Obj.cells #[Value.int IntKind.u16 a] 52)).alloc (Obj.cells #[Value.int IntKind.u16 b] 52)) by go_grown).trans (hb2.mono (by simp; omega))
    go_wp2_with fail
    go_ret
    exact ⟨rfl, hb3⟩

theorem wireListsOf_zero (ao : Option Addr) (cap : Nat) (w : World) :
    Calls Try.prog 44 #[.slice ao 0 cap] w fun e w' => e = .returned (.slice none 0 0) ∧ w = w' := by
  go_enter Try.func44, Try.ntmps44
  go_wp2_with fail
  go_rounds 1
  go_ret
  exact ⟨rfl, rfl⟩

set_option maxRecDepth 20000 in
theorem wireListsOf_pos (b off cap : Nat) (A : Nat → Option Addr) (C : Nat → Nat) (f : Int) (L : List (List Int)) (n : Nat) (w : World) (Hn : Hid (n = L.length)) (Hg : Hid (wiB f L = true)) (Hc : Hid (SSAt w b off A C L n)) :
    Calls Try.prog 44 #[.slice (some ⟨b, off, none⟩) n cap] w fun e w' => ∃ v, e = .returned v ∧ w'.ownsRow w.heap.size 52 1 v n (ws (bws L)) ∧ Below w.heap.size w w' := by
  obtain ⟨i0, hi, hz0, hz1, hz2⟩ := info_parts infoWL
  have hg := wi_parts Hg.out
  have hn12 : n ≤ 12 := by have := Hn.out; omega
  have hf : f ≤ 10 := hg.1.2
  clear hg
  go_enter Try.func44, Try.ntmps44
  go_wp2_with fail
  go_loopw [3, 8] (fun v i wr => ∃ k : Nat, k ≤ n ∧ i = .int .i64 k ∧ wr.ownsRow w.heap.size 52 1 v k (ws ((bws L).take k)) ∧ Below w.heap.size w wr) (fun _ i _ => n - (intOf i).toNat)
  case atStart => exact ⟨0, Nat.zero_le _, rfl, World.ownsRow_nil _ _ _ _, Below.refl _ _⟩
  case round =>
    obtain ⟨k, hk, rfl, hor, hbel⟩ := hrel
    by_cases hlt : k < n
    · obtain ⟨h0, hA⟩ := (Hc.out.kept hbel) k hlt
      have HA := Lib.hid hA
      have hkL : k < L.length := by rw [← Hn.out]; exact hlt
      have hr := wi_row Hg.out hkL
      have Hr := Lib.hid hr.1
      have hk1 : (0 : Int) ≤ k := by omega
      have hk2 : (k : Int) < n := by omega
      have hlen10 := hr.2.2
      have Hat : Hid ((bws L).take (k + 1) = (bws L).take k ++ [bw (row L k)]) := by
        show _ = _
        rw [List.take_succ_eq_append_getElem (by rw [bws_length]; exact hkL), wa_get _ _ (by rw [bws_length]; exact hkL), bws_at L k hkL]
      have hsz := hbel.size
      have Hor := Lib.hid hor
      have Hbel := Lib.hid hbel
      clear hor hbel hA hr
      go_wp2_with fail
      refine (wireListOf_any (A k) (C k) f hf (row L k) _ wr (Lib.hid rfl) Hr HA.out).mono ?_
      rintro e w3 ⟨rfl, hb3⟩
      have hs3 := hb3.size
      have bd : Below w3.heap.size w3 (w3.alloc (.cells #[.int .u16 ((bw (row L k) : Nat) : Int)] 52)) := (Below.refl w3.heap.size w3).alloc (Nat.le_refl _) _
      have Hrow7 := Lib.hid (own_later (own_later Hor.out hb3) bd)
      have Hb7 := Lib.hid ((Hbel.out.trans (hb3.mono hsz)).trans (bd.mono (by omega)))
      have hszW : (w3.alloc (.cells #[.int .u16 ((bw (row L k) : Nat) : Int)] 52)).heap.size = w3.heap.size + 1 := by simp
      have hck : (w3.alloc (.cells #[.int .u16 ((bw (row L k) : Nat) : Int)] 52)).cell? ⟨w3.heap.size, 0, none⟩ = some (.int .u16 ((bw (row L k) : Nat) : Int)) := by rw [cell_of_row _ _ _ _ _ _ (heap_alloc_new w3 _)]; rfl
      have Hck := Lib.hid hck
      clear hb3 bd hck Hor Hbel
      go_wp2_with (at_builtin; refine push_wl _ rfl _ _ 47 rfl w.heap.size i0 Try.underlying47 hi hz0 hz1 hz2 _ ((bws L).take k) k rfl Hrow7.out (by omega) (bw (row L k)) 1 w3.heap.size rfl Hck.out (by rw [hszW]; omega) ?_)
      intro g9 cap9 w9 own9 hgr9 hat9
      rw [← Hat.out] at own9
      have Ho9 := Lib.hid own9
      have Hb9 := Lib.hid (Hb7.out.grown hgr9 (by rw [hszW]; omega) (fun bb hb => (Hrow7.out.lt bb hb).1))
      clear own9 hgr9 hat9 Hrow7 Hb7
      go_wp2_with fail
      go_roundw
      case rel => exact ⟨k + 1, by omega, by go_num, Ho9.out, Hb9.out⟩
      case measure => simp [intOf]; omega
    · obtain rfl : k = n := by omega
      have hpe : (bws L).take k = bws L := by
        have h2 : k = (bws L).length := by rw [bws_length]; exact Hn.out
        rw [h2]; exact List.take_length
      rw [hpe] at hor
      have Hor := Lib.hid hor
      clear hor hpe
      go_wp2_with fail
      go_ret
      exact ⟨_, rfl, Hor.out, hbel⟩

theorem wireListsOf_any (ao : Option Addr) (cap : Nat) (f : Int) (L : List (List Int)) (n : Nat) (w : World) (Hn : Hid (n = L.length)) (Hg : Hid (wiB f L = true)) (Hc : Hid (RowsAt w ao L)) :
    Calls Try.prog 44 #[.slice ao n cap] w fun e w' => ∃ v, e = .returned v ∧ w'.ownsRow w.heap.size 52 1 v n (ws (bws L)) ∧ Below w.heap.size w w' := by
  rcases Hc.out with h | ⟨b, off, A, C, rfl, hc, hcap⟩
  · subst h
    have h0 := Hn.out
    subst h0
    refine (wireListsOf_zero ao cap w).mono ?_
    rintro e w' ⟨rfl, rfl⟩
    exact ⟨_, rfl, World.ownsRow_nil _ _ _ _, Below.refl _ _⟩
  · exact wireListsOf_pos b off cap A C f L n w Hn Hg (by rw [Hn.out]; exact hc)

set_option maxHeartbeats 800000 in
set_option maxRecDepth 20000 in
theorem resultsOf_pos (g0 off cap : Nat) (M : List Nat) (n b : Nat) (w : World) (Hn : Hid (n = M.length)) (hn : n ≤ 12) (HM : Hid (∀ i, wa M i < 1024)) (hb : b < 1024)
    (Hc : Hid (∀ i, i < n → w.cell? ⟨g0, off + i, none⟩ = some (.int .u16 ((wa M i : Nat) : Int)))) :
    Calls Try.prog 56 #[.slice (some ⟨g0, off, none⟩) n cap, wv b] w fun e w' => e = .returned (.string (rtx M b n)) ∧ Below w.heap.size w w' := by
  obtain ⟨i0, hi, hz0, hz1, hz2⟩ := info_parts infoR
  have Hz := Lib.hid (And.intro hz0 (And.intro hz1 hz2))
  have hR := fun (x : Nat) (hx : x < 1024) W => result_any x b hx hb W
  simp only [wv] at hR
  have HR := Lib.hid hR
  clear hz0 hz1 hz2 hR
  go_enter Try.func56, Try.ntmps56
  have hb1 : Below w.heap.size w (w.alloc (Obj.cells #[Value.int IntKind.u16 b] 52)) := by go_grown
  have c0 : (w.alloc (Obj.cells #[Value.int IntKind.u16 b] 52)).cell? ⟨w.heap.size, 0, none⟩ = some (.int .u16 b) := by simp
  have hs1 : (w.alloc (Obj.cells #[Value.int IntKind.u16 b] 52)).heap.size = w.heap.size + 1 := by simp
  obtain ⟨w1, hw1⟩ : ∃ w1, w.alloc (Obj.cells #[Value.int IntKind.u16 b] 52) = w1 := ⟨_, rfl⟩
  have Hb1 : Hid (Below w.heap.size w w1) := by rw [← hw1]; exact hb1
  have HC0 : Hid (w1.cell? ⟨w.heap.size, 0, none⟩ = some (.int .u16 b)) := by rw [← hw1]; exact c0
  have HS1 : w1.heap.size = w.heap.size + 1 := by rw [← hw1]; exact hs1
  clear hb1 c0 hs1
  go_wp2_with (first | (refine wpList_make_full _ rfl _ _ 86 rfl (w.heap.size + 1) 21 i0 (.int .i32 0) 1 Try.underlying86 hi Hz.out.1 Hz.out.2.1 .i64 .i64 _ _ n rfl rfl rfl rfl ?_ ?_ ?_ ?_) | fail)
  · rw [Hz.out.2.2]; omega
  · unfold maxLen; omega
  · first | omega | (simp; done) | (simp; omega)
  intro w4 hown hgr
  have hown2 : w4.ownsRow (w.heap.size + 1) 21 1 (.slice (some ⟨w.heap.size + 1, 0, none⟩) n n) n (rs32 (List.replicate n 0)) := by rw [← zero_runes]; simpa [HS1] using hown
  have H0 := Lib.hid hown2
  have Hb4 : Hid (Below w.heap.size w w4) := Lib.hid (by
    have h4 : w1.grownBy w4 none := by first | exact hgr | (rw [← hw1]; exact hgr)
    exact Hb1.out.grown h4 (by rw [HS1]; omega) (fun _ h => by cases h))
  have HC4 : Hid (w4.cell? ⟨w.heap.size, 0, none⟩ = some (.int .u16 b)) := Lib.hid (by
    have h3 := HC0.out
    have h4 : w1.grownBy w4 none := by first | exact hgr | (rw [← hw1]; exact hgr)
    exact (World.cell?_of_block (a := ⟨w.heap.size, 0, none⟩) (h4.block w.heap.size (by omega) (fun h => by cases h))).trans h3)
  have Hz0 : Hid (rzp M b n 0 = List.replicate n 0) := by show _ = _; simp [rzp, rz]
  clear hown hgr hown2 hw1 HC0 Hb1 HS1 w1
  go_wp2_with fail
  go_loopw [13] (fun i wr => ∃ k : Nat, k ≤ n ∧ i = .int .i64 k ∧ wr.ownsRow (w.heap.size + 1) 21 1 (.slice (some ⟨w.heap.size + 1, 0, none⟩) n n) n (rs32 (rzp M b n k)) ∧ wr.cell? ⟨w.heap.size, 0, none⟩ = some (.int .u16 b) ∧ Below w.heap.size w wr) (fun i _ => n - (intOf i).toNat)
  case atStart => exact ⟨0, Nat.zero_le _, rfl, by rw [Hz0.out]; exact H0.out, HC4.out, Hb4.out⟩
  case round =>
    obtain ⟨k, hk, rfl, hor, hcb, hbel⟩ := hrel
    by_cases hlt : k < n
    · have h0 := cell_old hbel (Hc.out k hlt)
      have hk1 : (0 : Int) ≤ k := by omega
      have hk2 : (k : Int) < n := by omega
      have hsz := hbel.size
      have hx := HM.out k
      obtain ⟨x, hxx⟩ : ∃ x, wa M k = x := ⟨_, rfl⟩
      have hset := rzp_set M b n k hlt
      rw [hxx] at h0 hx hset
      have Hset := Lib.hid hset
      have Hx := Lib.hid hxx
      have bd : Below wr.heap.size wr (wr.alloc (.cells #[.int .u16 (x : Int)] 52)) := (Below.refl wr.heap.size wr).alloc (Nat.le_refl _) _
      have hcn : (wr.alloc (.cells #[.int .u16 (x : Int)] 52)).cell? ⟨wr.heap.size, 0, none⟩ = some (.int .u16 (x : Int)) := by rw [cell_of_row _ _ _ _ _ _ (heap_alloc_new wr _)]; rfl
      have hcb2 := cell_old bd hcb
      have Hor := Lib.hid (own_later hor bd)
      have Hbel := Lib.hid (hbel.trans (bd.mono hsz))
      have Hcb := Lib.hid hcb2
      have hR := HR.out x hx
      clear hset hxx hor hbel hcb
      go_wp2_with fail
      refine (hR _).mono ?_
      rintro e w3 ⟨rfl, hb3⟩
      have own3 := own_later Hor.out hb3
      have hcb3 := cell_old hb3 Hcb.out
      obtain ⟨u0, z0⟩ := own_some own3 k (by omega)
      have zf0 := own3.frozenAt k
      have hst := (own3.stored k (.int .i32 (if mtB x b then 49 else 48))).1
      rw [rs32_set, Hset.out] at hst
      have Hst := Lib.hid hst
      have hb5 : Below w.heap.size w w3 := Hbel.out.trans (hb3.mono (by have := Hbel.out.size; exact this))
      have Hb6 := Lib.hid (hb5.setCell (p := ⟨w.heap.size + 1, k, none⟩) (by show w.heap.size ≤ w.heap.size + 1; omega) (.int .i32 (if mtB x b then 49 else 48)))
      have hc6 : (w3.setCell ⟨w.heap.size + 1, k, none⟩ (.int .i32 (if mtB x b then 49 else 48))).cell? ⟨w.heap.size, 0, none⟩ = some (.int .u16 b) := by
        exact (((Below.refl (w.heap.size + 1) w3).setCell (p := ⟨w.heap.size + 1, k, none⟩) (Nat.le_refl _) _).cell (p := ⟨w.heap.size, 0, none⟩) (by show w.heap.size < w.heap.size + 1; omega)).trans hcb3
      have Hc6 := Lib.hid hc6
      clear hst own3 hcb3 hc6 hb5 hb3 hcb2 hcn bd hR h0
      go_wp2_with fail
      go_roundw
      case rel => exact ⟨k + 1, by omega, by go_num, Hst.out, Hc6.out, Hb6.out⟩
      case measure => simp [intOf]; omega
    · obtain rfl : k = n := by omega
      have hp : rzp M b k k = rz M b k := by simp [rzp]
      rw [hp] at hor
      have hcv : ∀ j, j < (rz M b k).length → wr.cell? ((⟨w.heap.size + 1, 0, none⟩ : Addr).add j) = some (.int .i32 ((rz M b k).getD j 0)) := fun j hj => by
        rw [rz_length] at hj
        have e := hor.cellAt j (by omega)
        rw [rs32_get _ j (by rw [rz_length]; exact hj)] at e
        rw [add_at, Nat.zero_add]; exact e
      have hcv2 := run_convert_runes wr 86 9 21 ⟨w.heap.size + 1, 0, none⟩ k k (rz M b k) (by rw [rz_length]; exact Nat.le_refl _) Try.underlying86 Try.underlying21 Try.underlying9 hcv
      rw [show (rz M b k).take k = rz M b k by rw [List.take_of_length_le (by rw [rz_length]; exact Nat.le_refl _)], rz_bytes] at hcv2
      clear hor hcv hp
      go_wp2_with fail
      go_ret
      exact ⟨rfl, hbel⟩

theorem resultsOf_zero (ao : Option Addr) (cap : Nat) (b : Nat) (w : World) :
    Calls Try.prog 56 #[.slice ao 0 cap, wv b] w fun e w' => e = .returned (.string ⟨#[]⟩) ∧ Below w.heap.size w w' := by
  obtain ⟨i0, hi, hz0, hz1, hz2⟩ := info_parts infoR
  have Hz := Lib.hid (And.intro hz0 (And.intro hz1 hz2))
  clear hz0 hz1 hz2
  go_enter Try.func56, Try.ntmps56
  have hb1 : Below w.heap.size w (w.alloc (Obj.cells #[Value.int IntKind.u16 b] 52)) := by go_grown
  have hs1 : (w.alloc (Obj.cells #[Value.int IntKind.u16 b] 52)).heap.size = w.heap.size + 1 := by simp
  obtain ⟨w1, hw1⟩ : ∃ w1, w.alloc (Obj.cells #[Value.int IntKind.u16 b] 52) = w1 := ⟨_, rfl⟩
  have Hb1 : Hid (Below w.heap.size w w1) := by rw [← hw1]; exact hb1
  have HS1 : w1.heap.size = w.heap.size + 1 := by rw [← hw1]; exact hs1
  clear hb1 hs1
  go_wp2_with (first | (refine wpList_make_full _ rfl _ _ 86 rfl (w.heap.size + 1) 21 i0 (.int .i32 0) 1 Try.underlying86 hi Hz.out.1 Hz.out.2.1 .i64 .i64 _ _ 0 rfl rfl rfl rfl ?_ ?_ ?_ ?_) | fail)
  · omega
  · unfold maxLen; omega
  · first | omega | (simp; done) | (simp; omega)
  intro w4 hown hgr
  have Hb4 : Hid (Below w.heap.size w w4) := Lib.hid (by
    have h4 : w1.grownBy w4 none := by first | exact hgr | (rw [← hw1]; exact hgr)
    exact Hb1.out.grown h4 (by rw [HS1]; omega) (fun _ h => by cases h))
  have hcv2 := run_convert_runes w4 86 9 21 ⟨w.heap.size + 1, 0, none⟩ 0 0 [] (Nat.le_refl _) Try.underlying86 Try.underlying21 Try.underlying9 (fun j hj => absurd hj (by simp))
  clear hown hgr hw1 Hb1 HS1 w1
  go_wp2_with fail
  go_rounds 1
  go_ret
  exact ⟨rfl, Hb4.out⟩

theorem resultsOf_any (ao : Option Addr) (cap : Nat) (M : List Nat) (n b : Nat) (w : World) (Hn : Hid (n = M.length)) (hn : n ≤ 12) (HM : Hid (∀ i, wa M i < 1024)) (hb : b < 1024) (Hc : Hid (WLAt w ao M)) :
    Calls Try.prog 56 #[.slice ao n cap, wv b] w fun e w' => e = .returned (.string (rtx M b n)) ∧ Below w.heap.size w w' := by
  rcases Hc.out with h | ⟨g0, off, rfl, hc⟩
  · subst h
    have h0 := Hn.out
    subst h0
    exact resultsOf_zero ao cap b w
  · exact resultsOf_pos g0 off cap M n b w Hn hn HM hb (fun i hi => hc i (by rw [← Hn.out]; exact hi))

end Go.Proofs.Ytoigafjocckepaa
