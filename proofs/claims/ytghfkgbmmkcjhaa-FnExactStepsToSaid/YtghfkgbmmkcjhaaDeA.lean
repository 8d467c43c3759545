/- The model's arrivals. -/
import Derived.Test.YtghfkgbmmkcjhaaDeAL
import Derived.Test.YtghfkgbmmkcjhaaChk
import Derived.Test.YtghfkgbmmkcjhaaSndH
import Derived.Test.YtghfkgbmmkcjhaaUp
import Derived.Test.YtghfkgbmmkcjhaaArC2
namespace Go.Proofs.Ytghfkgbmmkcjhaa
open Go.ChangeShapes Go.WideShapes Go.ChangeAt Go.RowKit
set_option linter.unusedVariables false


set_option maxHeartbeats 4000000 in
set_option maxRecDepth 20000 in
theorem deA_pos (b off cap : Nat) (d : Int) (PN : Nat) (l : List Snd) (n : Nat) (w : World) (hd : 1 ≤ d ∧ d ≤ 10) (hP1 : 1 ≤ PN) (hP2 : PN ≤ 40) (Hn : Hid (n = l.length)) (hn : n ≤ 40) (hcap : n ≤ cap) (Hc : Hid (∀ i, i < n → Sat3 w b off l i)) :
    Calls Try.prog 63 #[.int .i64 d, .int .i64 (PN : Int), .slice (some ⟨b, off, none⟩) n cap] w fun e w' => ∃ v, e = .returned (.tuple #[v, .bool (arB d (PN : Int) l)]) ∧ w'.ownsRow w.heap.size 3 1 v (arR d PN l).length (ns (arR d PN l)) ∧ Below w.heap.size w w' := by
  obtain ⟨r, Hr⟩ : ∃ r : Bool, Hid (r = arB d (PN : Int) l) := ⟨_, Lib.hid rfl⟩
  obtain ⟨R, HR⟩ : ∃ R : List Int, Hid (R = arR d PN l) := ⟨_, Lib.hid rfl⟩
  rw [← Hr.out, ← HR.out]
  have HRR : Hid (R = if r then aL d PN l l.length else []) := by show _ = _; rw [HR.out, Hr.out]; rfl
  obtain ⟨i3, hi3, hy0, hy1, hy2⟩ := info_parts info3
  have Hz := Lib.hid (And.intro hy0 (And.intro hy1 hy2))
  clear hy0 hy1 hy2
  have hgt : decide ((n : Int) > 40) = false := by simp; omega
  have hw1 : IntKind.i64.wrap ((PN : Int) - 1) = (PN : Int) - 1 := IntWalk.i64_in _ (by omega)
  have h40l : l.length ≤ 40 := by rw [← Hn.out]; exact hn
  go_enter Try.func63, Try.ntmps63
  go_wp2_with (refine wpList_make_full _ rfl _ _ 36 rfl w.heap.size 3 i3 (.int .i64 0) 1 Try.underlying36 hi3 Hz.out.1 Hz.out.2.1 .i64 .i64 _ _ PN rfl rfl rfl rfl ?_ ?_ ?_ ?_)
  · rw [Hz.out.2.2]; omega
  · unfold maxLen; omega
  · exact Nat.le_refl _
  intro w1 hown hgr
  have own1 : w1.ownsRow w.heap.size 3 1 (.slice (some ⟨w.heap.size, 0, none⟩) PN PN) PN (ns (fp PN 0)) := by rw [fp_zero, ← zero_nums, Nat.mul_one]; simpa using hown
  have hb1 : Below w.heap.size w w1 := (Below.refl _ _).grown hgr (Nat.le_refl _) (fun _ h => by cases h)
  obtain ⟨g, hg⟩ : ∃ g, w.heap.size = g := ⟨_, rfl⟩
  have hgw : w.heap.size ≤ g := by omega
  have Own1 : Hid (w1.ownsRow g 3 1 (.slice (some ⟨g, 0, none⟩) PN PN) PN (ns (fp PN 0))) := by rw [← hg]; exact own1
  have Bel1 := Lib.hid hb1
  rw [hg]
  clear hown hgr own1 hb1
  have Hg : Hid (g = w.heap.size) := hg.symm
  clear hg
  go_wp2_with fail
  go_loopw [23] (fun i wr => ∃ k : Nat, k ≤ PN ∧ i = .int .i64 k ∧ wr.ownsRow g 3 1 (.slice (some ⟨g, 0, none⟩) PN PN) PN (ns (fp PN k)) ∧ Below w.heap.size w wr) (fun i _ => PN - (intOf i).toNat)
  case atStart => exact ⟨0, Nat.zero_le _, rfl, Own1.out, Bel1.out⟩
  case round =>
    clear Own1 Bel1
    obtain ⟨k, hk, rfl, hor, hbel⟩ := hrel
    by_cases hlt : k < PN
    · obtain ⟨u0, z0⟩ := own_some hor k (by omega)
      have zf0 := hor.frozenAt k
      have own2 := (hor.stored k (.int .i64 (-1))).1
      rw [ns_set, fp_set PN k hlt] at own2
      have Own2 := Lib.hid own2
      have Bel2 : Hid (Below w.heap.size w (wr.setCell ⟨g, k, none⟩ (.int .i64 (-1)))) := hbel.setCell (p := ⟨g, k, none⟩) hgw _
      have hk1 : (0 : Int) ≤ k := by omega
      have hk2 : (k : Int) < PN := by omega
      clear own2 hor hbel
      go_wp2_with fail
      go_roundw
      case rel => exact ⟨k + 1, by omega, by go_num, Own2.out, Bel2.out⟩
      case measure => simp [intOf]; omega
    · obtain rfl : PN = k := by omega
      obtain ⟨u0, z0⟩ := own_some hor 0 (by omega)
      have zf0 := hor.frozenAt 0
      have own2 := (hor.stored 0 (.int .i64 0)).1
      rw [ns_set, fp_start d PN l (by omega)] at own2
      have Own2 := Lib.hid own2
      have Bel2 : Hid (Below w.heap.size w (wr.setCell ⟨g, 0, none⟩ (.int .i64 0))) := hbel.setCell (p := ⟨g, 0, none⟩) hgw _
      have hp0 : (0 : Int) < (PN : Int) := by omega
      clear own2 hor hbel hlt hk
      go_wp2_with fail
      go_loopw [34] (fun i wr => ∃ j : Nat, j ≤ n ∧ i = .int .i64 j ∧ Hid (∀ q, q < j → okB (PN : Int) l q = true) ∧ wr.ownsRow g 3 1 (.slice (some ⟨g, 0, none⟩) PN PN) PN (ns (aL d PN l j)) ∧ Below w.heap.size w wr) (fun i _ => n - (intOf i).toNat)
      case atStart => exact ⟨0, Nat.zero_le _, rfl, fun q hq => absurd hq (by omega), Own2.out, Bel2.out⟩
      case round =>
        clear Own2 Bel2 z0 zf0
        obtain ⟨j, hj, rfl, hall, hor, hbel⟩ := hrel
        have hsz := hbel.size
        by_cases hlt : j < n
        · have hkl : j < l.length := by rw [← Hn.out]; exact hlt
          obtain ⟨h0, h1, h2⟩ := (Hc.out j hlt).kept hbel
          have hst := lsn_eta l j
          obtain ⟨x0, hx0⟩ : ∃ x, sf l j = x := ⟨_, rfl⟩
          obtain ⟨x1, hx1⟩ : ∃ x, st l j = x := ⟨_, rfl⟩
          obtain ⟨x2, hx2⟩ : ∃ x, sm l j = x := ⟨_, rfl⟩
          rw [hx0] at h0 hst
          rw [hx1] at h1 hst
          rw [hx2] at h2 hst
          have hsd : sdB (PN : Int) (lsn l j) = sdB (PN : Int) (x0, x1, x2) := by rw [hst]
          have hj1 : (0 : Int) ≤ j := by omega
          have hj2 : (j : Int) < n := by omega
          clear hx0 hx1 hx2
          cases t1 : decide (0 ≤ x0 ∧ x0 ≤ (PN : Int) - 1)
          · have H1 := Lib.hid t1
            have e1 : decide (0 ≤ x0 ∧ x0 < (PN : Int)) = false := by rw [decide_eq_false_iff_not] at t1 ⊢; omega
            have hs0 : sdB (PN : Int) (lsn l j) = false := by rw [hsd]; simp only [sdB, e1, Bool.false_and]
            have Hno : Hid (r = false) := by show _ = _; rw [Hr.out]; exact arB_no (ok1_no hkl (ok_first hs0))
            clear hst hor
            go_wp2_with fail
            refine (l1In_any x0 0 ((PN : Int) - 1) _).mono ?_
            rintro e w' ⟨rfl, rfl⟩
            rw [H1.out]
            go_wp2_with fail
            go_ret2
            exact ⟨.slice none 0 0, by rw [Hno.out]; rfl, by rw [HRR.out, Hno.out]; exact World.ownsRow_nil _ _ _ _, hbel.alloc hsz _⟩
          · have H1 := Lib.hid t1
            rw [decide_eq_true_eq] at t1
            cases t2 : decide (1 ≤ x1 ∧ x1 ≤ (PN : Int) - 1)
            · have H2 := Lib.hid t2
              have hs0 : sdB (PN : Int) (lsn l j) = false := by
                rw [hsd, Bool.eq_false_iff]
                intro h
                have := sd_parts h
                rw [decide_eq_false_iff_not] at t2
                exact t2 (by have a := this.2.1; have b := this.2.2.2.2; show 1 ≤ x1 ∧ x1 ≤ (PN : Int) - 1; have a' : 0 ≤ x1 ∧ x1 < (PN : Int) := a; have b' : x1 ≠ 0 := b; omega)
              have Hno : Hid (r = false) := by show _ = _; rw [Hr.out]; exact arB_no (ok1_no hkl (ok_first hs0))
              clear hst hor
              go_wp2_with fail
              refine (l1In_any x0 0 ((PN : Int) - 1) _).mono ?_
              rintro e w' ⟨rfl, rfl⟩
              rw [H1.out]
              go_wp2_with fail
              refine (l1In_any x1 1 ((PN : Int) - 1) _).mono ?_
              rintro e w' ⟨rfl, rfl⟩
              rw [H2.out]
              go_wp2_with fail
              go_ret2
              exact ⟨.slice none 0 0, by rw [Hno.out]; rfl, by rw [HRR.out, Hno.out]; exact World.ownsRow_nil _ _ _ _, hbel.alloc hsz _⟩
            · have H2 := Lib.hid t2
              rw [decide_eq_true_eq] at t2
              cases t3 : x0 == x1
              · cases t4 : decide (0 ≤ x2 ∧ x2 ≤ 60)
                · have H4 := Lib.hid t4
                  have hs0 : sdB (PN : Int) (lsn l j) = false := by rw [hsd]; simp only [sdB, t4, Bool.false_and, Bool.and_false]
                  have Hno : Hid (r = false) := by show _ = _; rw [Hr.out]; exact arB_no (ok1_no hkl (ok_first hs0))
                  clear hst hor
                  go_wp2_with fail
                  refine (l1In_any x0 0 ((PN : Int) - 1) _).mono ?_
                  rintro e w' ⟨rfl, rfl⟩
                  rw [H1.out]
                  go_wp2_with fail
                  refine (l1In_any x1 1 ((PN : Int) - 1) _).mono ?_
                  rintro e w' ⟨rfl, rfl⟩
                  rw [H2.out]
                  go_wp2_with fail
                  refine (l1In_any x2 0 60 _).mono ?_
                  rintro e w' ⟨rfl, rfl⟩
                  rw [H4.out]
                  go_wp2_with fail
                  go_ret2
                  exact ⟨.slice none 0 0, by rw [Hno.out]; rfl, by rw [HRR.out, Hno.out]; exact World.ownsRow_nil _ _ _ _, hbel.alloc hsz _⟩
                · have H4 := Lib.hid t4
                  rw [decide_eq_true_eq] at t4
                  have hs1 : sdB (PN : Int) (lsn l j) = true := by
                    rw [hsd]
                    simp only [sdB, Bool.and_eq_true, decide_eq_true_eq, bne_iff_ne]
                    rw [beq_eq_false_iff_ne] at t3
                    exact ⟨by show 0 ≤ x0 ∧ x0 < (PN : Int); omega, by show 0 ≤ x1 ∧ x1 < (PN : Int); omega, t4, fun h => t3 h.symm, by show x1 ≠ 0; omega⟩
                  obtain ⟨t, ht⟩ := Int.eq_ofNat_of_zero_le (show 0 ≤ x1 by omega)
                  have htk : t < PN := by omega
                  have c0 := (hor.cellAt t (by omega))
                  rw [ns_get _ t (by rw [aL_length]; exact htk), aL_get d PN l j t htk] at c0
                  have hpos : ∀ s ∈ l.take j, 0 ≤ s.at := by
                    intro s hs
                    obtain ⟨q, hq, rfl⟩ := List.getElem_of_mem hs
                    have hqj : q < j := by rw [List.length_take] at hq; omega
                    rw [List.getElem_take, lsn_get l q (by omega)]
                    exact (sd_parts (ok_sd (hall.out q hqj))).2.2.1.1
                  have hto : (lsn l j).to = (t : Int) := by rw [hst]; exact ht
                  have hhas := av_has (l := l) (k := j) hd.1 hpos (x := (t : Int)) (by omega)
                  obtain ⟨A, hA⟩ : ∃ A, av d (l.take j) (t : Int) = A := ⟨_, rfl⟩
                  rw [hA] at c0 hhas
                  subst ht
                  have c0A : (wr.alloc (.cells #[.int .i64 x0, .int .i64 (t : Int), .int .i64 x2] 52)).cell? ⟨g, t, none⟩ = some (.int .i64 A) := (((Below.refl wr.heap.size wr).alloc (Nat.le_refl _) (.cells #[.int .i64 x0, .int .i64 (t : Int), .int .i64 x2] 52)).cell (p := ⟨g, t, none⟩) (World.block_lt_of_cell? wr _ c0)).trans c0
                  have hp1 : (0 : Int) ≤ (t : Int) := by omega
                  have hp2 : (t : Int) < (PN : Int) := by omega
                  cases t5 : decide (A ≥ 0)
                  · rw [decide_eq_false_iff_not] at t5
                    have hnone : ¬ ∃ s ∈ l.take j, s.to = (lsn l j).to := by rw [hto]; exact fun h => t5 (hhas.2 h)
                    have t5' : decide (A ≥ 0) = false := by rw [decide_eq_false_iff_not]; exact t5
                    have hnone2 : ∀ s ∈ l.take j, s.to ≠ (lsn l j).to := fun s hs e => hnone ⟨s, hs, e⟩
                    have hset := aL_set d PN l j t hkl hnone2 hto
                    have hat : (lsn l j).at = x2 := by rw [hst]
                    rw [hat] at hset
                    have horA := hor.alloc (.cells #[.int .i64 x0, .int .i64 (t : Int), .int .i64 x2] 52)
                    have zf1 := horA.frozenAt t
                    have own3 := (horA.stored t (.int .i64 (x2 + d))).1
                    rw [ns_set, hset] at own3
                    have Own3 := Lib.hid own3
                    have hgl := (hor.lt g rfl).2
                    have Bel3 : Hid (Below w.heap.size w ((wr.alloc (.cells #[.int .i64 x0, .int .i64 (t : Int), .int .i64 x2] 52)).setCell ⟨g, t, none⟩ (.int .i64 (x2 + d)))) := (hbel.alloc hsz _).setCell (p := ⟨g, t, none⟩) hgw _
                    have Bx3 : Hid (At3 ((wr.alloc (.cells #[.int .i64 x0, .int .i64 (t : Int), .int .i64 x2] 52)).setCell ⟨g, t, none⟩ (.int .i64 (x2 + d))) wr.heap.size (x0, (t : Int), x2)) := by
                      show At3 _ _ _
                      have h := heap_alloc_new wr (.cells #[.int .i64 x0, .int .i64 (t : Int), .int .i64 x2] 52)
                      have ne : ∀ o, (⟨g, t, none⟩ : Addr) ≠ ⟨wr.heap.size, o, none⟩ := fun o e => by cases e; omega
                      exact ⟨by rw [World.cell?_setCell_other (h := ne 0), cell_of_row _ _ _ _ _ _ h]; rfl, by rw [World.cell?_setCell_other (h := ne 1), cell_of_row _ _ _ _ _ _ h]; rfl, by rw [World.cell?_setCell_other (h := ne 2), cell_of_row _ _ _ _ _ _ h]; rfl⟩
                    have Hsz3 : Hid (wr.heap.size < ((wr.alloc (.cells #[.int .i64 x0, .int .i64 (t : Int), .int .i64 x2] 52)).setCell ⟨g, t, none⟩ (.int .i64 (x2 + d))).heap.size) := by show _ < _; simp [World.setCell]
                    have hw5 : IntKind.i64.wrap (x2 + d) = x2 + d := IntWalk.i64_in _ (by omega)
                    have hjc : (j : Int) ≤ (cap : Int) := by omega
                    have Hs1 := Lib.hid hs1
                    have Hnone := Lib.hid hnone
                    have Hst : Hid (lsn l j = (x0, (t : Int), x2)) := hst
                    clear hset own3 hor horA hgl hbel hnone hnone2 hst hs1 hhas hpos hat hsd hA
                    go_wp2_with fail
                    refine (l1In_any x0 0 ((PN : Int) - 1) _).mono ?_
                    rintro e w' ⟨rfl, rfl⟩
                    rw [H1.out]
                    go_wp2_with fail
                    refine (l1In_any (t : Int) 1 ((PN : Int) - 1) _).mono ?_
                    rintro e w' ⟨rfl, rfl⟩
                    rw [H2.out]
                    go_wp2_with fail
                    refine (l1In_any x2 0 60 _).mono ?_
                    rintro e w' ⟨rfl, rfl⟩
                    rw [H4.out]
                    go_wp2_with fail
                    clear H1 H2 H4 c0 c0A h0 h1 h2 zf1 t5 t5'
                    obtain ⟨bx, hbx⟩ : ∃ bx, wr.heap.size = bx := ⟨_, rfl⟩
                    rw [hbx] at Bx3 Hsz3 ⊢
                    go_loopw [86] (fun i wq => ∃ q : Nat, q ≤ j ∧ i = .int .i64 q ∧ Hid (∀ p, p < q → sameB (lsn l j) (lsn l p) = false) ∧ Hid (wq.ownsRow g 3 1 (.slice (some ⟨g, 0, none⟩) PN PN) PN (ns (aL d PN l (j + 1)))) ∧ Hid (At3 wq bx (x0, (t : Int), x2)) ∧ bx < wq.heap.size ∧ Below w.heap.size w wq) (fun i _ => j - (intOf i).toNat)
                    case atStart => exact ⟨0, Nat.zero_le _, rfl, (fun p hp => absurd hp (by omega)), Own3, Bx3, Hsz3.out, Bel3.out⟩
                    case round =>
                      clear Own3 Bx3 Hsz3 Bel3
                      obtain ⟨q, hq, rfl, hno, HO, HX, hbz, hbel⟩ := hrel
                      have hsz3 := hbel.size
                      by_cases hqj : q < j
                      · obtain ⟨g0, g1, g2⟩ := (Hc.out q (by omega)).kept hbel
                        have hqe := lsn_eta l q
                        obtain ⟨y0, hy0⟩ : ∃ x, sf l q = x := ⟨_, rfl⟩
                        obtain ⟨y1, hy1⟩ : ∃ x, st l q = x := ⟨_, rfl⟩
                        obtain ⟨y2, hy2⟩ : ∃ x, sm l q = x := ⟨_, rfl⟩
                        rw [hy0] at g0 hqe
                        rw [hy1] at g1 hqe
                        rw [hy2] at g2 hqe
                        have hsame : sameB (lsn l j) (lsn l q) = (y0 == x0 && y2 == x2) := by rw [hqe, Hst.out]; rfl
                        have bd : Below wr.heap.size wr (wr.alloc (.cells #[.int .i64 y0, .int .i64 y1, .int .i64 y2] 52)) := (Below.refl _ _).alloc (Nat.le_refl _) _
                        obtain ⟨b0, b1, b2⟩ := HX.out.kept bd
                        simp only at b0 b1 b2
                        have HO2 := Lib.hid (HO.out.alloc (.cells #[.int .i64 y0, .int .i64 y1, .int .i64 y2] 52))
                        have HX2 := Lib.hid (HX.out.kept bd)
                        have Hb2 := Lib.hid (hbel.alloc hsz3 (.cells #[.int .i64 y0, .int .i64 y1, .int .i64 y2] 52))
                        have Hz2 : Hid (bx < (wr.alloc (.cells #[.int .i64 y0, .int .i64 y1, .int .i64 y2] 52)).heap.size) := by show _ < _; simp; omega
                        have hq1 : (0 : Int) ≤ q := by omega
                        have hq2 : (q : Int) < j := by omega
                        clear hqe hy0 hy1 hy2 bd hbel
                        cases e1 : y0 == x0
                        · have Hno2 : Hid (∀ p, p < q + 1 → sameB (lsn l j) (lsn l p) = false) := fun p hp => by
                            by_cases hpq : p = q
                            · subst hpq; rw [hsame, e1]; rfl
                            · exact hno.out p (by omega)
                          clear hno hsame
                          go_wp2_with fail
                          go_roundw
                          case rel => exact ⟨q + 1, by omega, by go_num, Hno2, HO2, HX2, Hz2.out, Hb2.out⟩
                          case measure => simp [intOf]; omega
                        · cases e2 : y2 == x2
                          · have Hno2 : Hid (∀ p, p < q + 1 → sameB (lsn l j) (lsn l p) = false) := fun p hp => by
                              by_cases hpq : p = q
                              · subst hpq; rw [hsame, e1, e2]; rfl
                              · exact hno.out p (by omega)
                            clear hno hsame
                            go_wp2_with fail
                            go_roundw
                            case rel => exact ⟨q + 1, by omega, by go_num, Hno2, HO2, HX2, Hz2.out, Hb2.out⟩
                            case measure => simp [intOf]; omega
                          · have Hno : Hid (r = false) := by show _ = _; rw [Hr.out]; exact arB_no (ok1_no hkl (ok_same hqj hkl (by rw [hsame, e1, e2]; rfl)))
                            clear hno hsame
                            go_wp2_with fail
                            go_ret2
                            exact ⟨.slice none 0 0, by rw [Hno.out]; rfl, by rw [HRR.out, Hno.out]; exact World.ownsRow_nil _ _ _ _, Hb2.out⟩
                      · obtain rfl : j = q := by omega
                        have Hall : Hid (∀ p, p < j + 1 → okB (PN : Int) l p = true) := fun p hp => by
                          by_cases hpj : p = j
                          · subst hpj; exact ok_all hkl Hs1.out Hnone.out hno.out
                          · exact hall.out p (by omega)
                        have Hbel := Lib.hid hbel
                        clear hno hbel
                        go_wp2_with fail
                        go_roundw
                        case rel => exact ⟨j + 1, by omega, by go_num, Hall, HO.out, Hbel.out⟩
                        case measure => simp [intOf]; omega
                  · rw [decide_eq_true_eq] at t5
                    have t5' : decide (A ≥ 0) = true := by simpa using t5
                    have t5n : 0 ≤ A := t5
                    have hdup : ∃ s ∈ l.take j, s.to = (lsn l j).to := by rw [hto]; exact hhas.1 t5
                    have Hno : Hid (r = false) := by show _ = _; rw [Hr.out]; exact arB_no (ok1_no hkl (ok_dup hdup))
                    clear hst hor
                    go_wp2_with fail
                    refine (l1In_any x0 0 ((PN : Int) - 1) _).mono ?_
                    rintro e w' ⟨rfl, rfl⟩
                    rw [H1.out]
                    go_wp2_with fail
                    refine (l1In_any t 1 ((PN : Int) - 1) _).mono ?_
                    rintro e w' ⟨rfl, rfl⟩
                    rw [H2.out]
                    go_wp2_with fail
                    refine (l1In_any x2 0 60 _).mono ?_
                    rintro e w' ⟨rfl, rfl⟩
                    rw [H4.out]
                    go_wp2_with fail
                    go_ret2
                    exact ⟨.slice none 0 0, by rw [Hno.out]; rfl, by rw [HRR.out, Hno.out]; exact World.ownsRow_nil _ _ _ _, hbel.alloc hsz _⟩
              · have hs0 : sdB (PN : Int) (lsn l j) = false := by
                  rw [hsd, Bool.eq_false_iff]
                  intro h
                  have := (sd_parts h).2.2.2.1
                  rw [beq_iff_eq] at t3
                  exact this t3.symm
                have Hno : Hid (r = false) := by show _ = _; rw [Hr.out]; exact arB_no (ok1_no hkl (ok_first hs0))
                clear hst hor
                go_wp2_with fail
                refine (l1In_any x0 0 ((PN : Int) - 1) _).mono ?_
                rintro e w' ⟨rfl, rfl⟩
                rw [H1.out]
                go_wp2_with fail
                refine (l1In_any x1 1 ((PN : Int) - 1) _).mono ?_
                rintro e w' ⟨rfl, rfl⟩
                rw [H2.out]
                go_wp2_with fail
                go_ret2
                exact ⟨.slice none 0 0, by rw [Hno.out]; rfl, by rw [HRR.out, Hno.out]; exact World.ownsRow_nil _ _ _ _, hbel.alloc hsz _⟩
        · obtain rfl : j = n := by omega
          have hok : ok1B (PN : Int) l = true := ok1_yes (fun q hq => hall.out q (by rw [Hn.out]; exact hq))
          have hr2 : Hid (r = ok2B d l) := by show _ = _; rw [Hr.out]; exact arB_yes h40l hok
          have htake : l.take j = l := List.take_of_length_le (by rw [← Hn.out]; exact Nat.le_refl _)
          have Hor := Lib.hid hor
          have Hbel := Lib.hid hbel
          have Hok := Lib.hid hok
          clear hor hbel hok hlt hj
          go_wp2_with fail
          go_loopw [106] (fun i wq => ∃ q : Nat, q ≤ j ∧ i = .int .i64 q ∧ Hid (∀ p, p < q → decide (0 ≤ av d l (lsn l p).fr ∧ av d l (lsn l p).fr ≤ (lsn l p).at) = true) ∧ Hid (wq.ownsRow g 3 1 (.slice (some ⟨g, 0, none⟩) PN PN) PN (ns (aL d PN l j))) ∧ Below w.heap.size w wq) (fun i _ => j - (intOf i).toNat)
          case atStart => exact ⟨0, Nat.zero_le _, rfl, (fun p hp => absurd hp (by omega)), Hor, Hbel.out⟩
          case round =>
            clear Hor Hbel
            obtain ⟨q, hq, rfl, hyes, HO, hbel⟩ := hrel
            have hsz3 := hbel.size
            by_cases hqj : q < j
            · have hql : q < l.length := by rw [← Hn.out]; exact hqj
              obtain ⟨g0, g1, g2⟩ := (Hc.out q hqj).kept hbel
              have hqe := lsn_eta l q
              have hsd := sd_parts (ok1_sd Hok.out (lsn_mem l q hql))
              obtain ⟨y0, hy0⟩ : ∃ x, sf l q = x := ⟨_, rfl⟩
              obtain ⟨y1, hy1⟩ : ∃ x, st l q = x := ⟨_, rfl⟩
              obtain ⟨y2, hy2⟩ : ∃ x, sm l q = x := ⟨_, rfl⟩
              rw [hy0] at g0 hqe
              rw [hy1] at g1 hqe
              rw [hy2] at g2 hqe
              have hfr : 0 ≤ y0 ∧ y0 < (PN : Int) := by have := hsd.1; rw [hqe] at this; exact this
              have hcond : decide (0 ≤ av d l (lsn l q).fr ∧ av d l (lsn l q).fr ≤ (lsn l q).at) = decide (0 ≤ av d l y0 ∧ av d l y0 ≤ y2) := by rw [hqe]
              obtain ⟨t, ht⟩ := Int.eq_ofNat_of_zero_le hfr.1
              rw [ht] at g0 hcond hfr
              have c0 := HO.out.cellAt t (by omega)
              rw [ns_get _ t (by rw [aL_length]; omega), aL_get d PN l j t (by omega), htake] at c0
              obtain ⟨A, hA⟩ : ∃ A, av d l (t : Int) = A := ⟨_, rfl⟩
              rw [hA] at c0 hcond
              have hp1 : (0 : Int) ≤ (t : Int) := by omega
              have hp2 : (t : Int) < (PN : Int) := by omega
              have hq1 : (0 : Int) ≤ q := by omega
              have hq2 : (q : Int) < j := by omega
              have bd : Below wr.heap.size wr (wr.alloc (.cells #[.int .i64 (t : Int), .int .i64 y1, .int .i64 y2] 52)) := (Below.refl _ _).alloc (Nat.le_refl _) _
              have c1 : (wr.alloc (.cells #[.int .i64 (t : Int), .int .i64 y1, .int .i64 y2] 52)).cell? ⟨g, t, none⟩ = some (.int .i64 A) := (bd.cell (p := ⟨g, t, none⟩) (World.block_lt_of_cell? wr _ c0)).trans c0
              have HO2 := Lib.hid (HO.out.alloc (.cells #[.int .i64 (t : Int), .int .i64 y1, .int .i64 y2] 52))
              have Hb2 := Lib.hid (hbel.alloc hsz3 (.cells #[.int .i64 (t : Int), .int .i64 y1, .int .i64 y2] 52))
              clear hqe hy0 hy1 hy2 bd hbel hsd hA ht
              cases e1 : decide (A < 0)
              · have e1' := e1
                rw [decide_eq_false_iff_not] at e1'
                cases e2 : decide (A > y2)
                · have e2' := e2
                  rw [decide_eq_false_iff_not] at e2'
                  have Hyes2 : Hid (∀ p, p < q + 1 → decide (0 ≤ av d l (lsn l p).fr ∧ av d l (lsn l p).fr ≤ (lsn l p).at) = true) := fun p hp => by
                    by_cases hpq : p = q
                    · subst hpq; rw [hcond, decide_eq_true_eq]; omega
                    · exact hyes.out p (by omega)
                  clear hyes hcond
                  go_wp2_with fail
                  go_quiet (fail)
                  go_wp2_with fail
                  go_roundw
                  case rel => exact ⟨q + 1, by omega, by go_num, Hyes2, own_later HO2.out (below_drewN (Below.refl _ _) _), below_drewN Hb2.out _⟩
                  case measure => simp [intOf]; omega
                · have e2' := e2
                  rw [decide_eq_true_eq] at e2'
                  have Hno : Hid (r = false) := by show _ = _; rw [hr2.out]; exact ok2_no hql (by rw [hcond, decide_eq_false_iff_not]; omega)
                  clear hyes hcond
                  go_wp2_with fail
                  go_quiet (fail)
                  go_wp2_with fail
                  go_ret2
                  exact ⟨.slice none 0 0, by rw [Hno.out]; rfl, by rw [HRR.out, Hno.out]; exact World.ownsRow_nil _ _ _ _, below_drewN Hb2.out _⟩
              · have e1' := e1
                rw [decide_eq_true_eq] at e1'
                have Hno : Hid (r = false) := by show _ = _; rw [hr2.out]; exact ok2_no hql (by rw [hcond, decide_eq_false_iff_not]; omega)
                clear hyes hcond
                go_wp2_with fail
                go_quiet (fail)
                go_wp2_with fail
                go_ret2
                exact ⟨.slice none 0 0, by rw [Hno.out]; rfl, by rw [HRR.out, Hno.out]; exact World.ownsRow_nil _ _ _ _, below_drewN Hb2.out _⟩
            · obtain rfl : j = q := by omega
              have Hrt : Hid (r = true) := by show _ = _; rw [hr2.out]; exact ok2_yes (fun p hp => hyes.out p (by rw [Hn.out]; exact hp))
              have HRe : Hid (R = aL d PN l j) := by show _ = _; rw [HRR.out, Hrt.out, if_pos rfl, ← Hn.out]
              have Hbel := Lib.hid hbel
              clear hyes hbel
              go_wp2_with fail
              go_ret2
              exact ⟨.slice (some ⟨g, 0, none⟩) PN PN, by rw [Hrt.out]; rfl, by rw [HRe.out, aL_length]; exact own_base hgw HO.out, Hbel.out⟩

end Go.Proofs.Ytghfkgbmmkcjhaa
