/- Distances in a network: the model. -/
import Derived.Test.YtibjapfaljeclaaDoorBfs
import Derived.Test.YtibjapfaljeclaaDoorRowsL
namespace Go.Proofs.YtibjapfaljeclaaDoor
open Go.ChangeShapes Go.WideShapes Go.ChangeAt Go.RowKit
set_option linter.unusedVariables false

theorem grown_one (w : World) (g o : Nat) (u : Value) : w.grownBy (w.setCell ⟨g, o, none⟩ u) (some g) := grown_set ⟨rfl, rfl, rfl, Nat.le_refl _, fun _ _ _ => rfl⟩ o u


/-- So many numbers. -/
def fvL (F : Nat) (d : Nat → Int) : List Int := (List.range F).map d
theorem fvL_length (F : Nat) (d : Nat → Int) : (fvL F d).length = F := by simp [fvL]
theorem na_fvL {F i : Nat} {d : Nat → Int} (h : i < F) : na (fvL F d) i = d i := by simp [na, fvL, List.getD_eq_getElem?_getD, h]
theorem fvL_congr {F : Nat} {d e : Nat → Int} (h : ∀ v, v < F → d v = e v) : fvL F d = fvL F e := by
  unfold fvL
  exact List.map_congr_left fun v hv => h v (List.mem_range.1 hv)
theorem fvL_set (F : Nat) (d : Nat → Int) (i : Nat) (v : Int) : (fvL F d).set i v = fvL F (updI d i v) := by
  apply List.ext_getElem?
  intro j
  by_cases hj : j < F
  · by_cases hij : i = j
    · subst hij; rw [List.getElem?_set_self (by rw [fvL_length]; exact hj)]; simp [fvL, updI, hj]
    · rw [List.getElem?_set_ne hij]; simp [fvL, updI, hj, Ne.symm hij]
  · rw [List.getElem?_eq_none (by rw [List.length_set, fvL_length]; omega), List.getElem?_eq_none (by rw [fvL_length]; omega)]
theorem fvL_zero (F : Nat) : List.replicate F (0 : Int) = fvL F (fun _ => 0) := by simp [fvL, List.map_const']
def qI (q : List Nat) : List Int := q.map fun (x : Nat) => (x : Int)
theorem qI_length (q : List Nat) : (qI q).length = q.length := by simp [qI]
theorem na_qI {q : List Nat} {j : Nat} (h : j < q.length) : na (qI q) j = ((q.getD j 0 : Nat) : Int) := by simp [na, qI, List.getD_eq_getElem?_getD, h]
theorem qI_app (q : List Nat) (o : Nat) : qI (q ++ [o]) = qI q ++ [(o : Int)] := by simp [qI]
theorem row_num {w : World} {base g n cap : Nat} {l : List Int} (h : w.ownsRow base 3 1 (.slice (some ⟨g, 0, none⟩) n cap) n (ns l)) (hn : n = l.length) (j : Nat) (hj : j < n) : w.cell? ⟨g, j, none⟩ = some (.int .i64 (na l j)) := by
  rw [h.cellAt j (by omega), ns_get l j (by omega)]

set_option maxHeartbeats 4000000 in
set_option maxRecDepth 20000 in
theorem neFar_any (F f : Nat) (ao : Option Addr) (cap : Nat) (l : List (Int × Int)) (n : Nat) (w : World) (Hn : Hid (n = l.length)) (hs : n ≤ 1048576) (HA : Hid (CallsAt w ao l)) (hF : F ≤ 10) (hf : f < F) :
    Calls Tryd.prog 33 #[.int .i64 F, .slice ao n cap, .int .i64 f] w fun e w' => e = .returned (.slice (some ⟨w.heap.size, 0, none⟩) F F) ∧ ∃ (k : Nat) (d : Nat → Int) (q : List Nat), k = q.length ∧ BI l F f k 0 (d, q) ∧ w'.ownsRow w.heap.size 3 1 (.slice (some ⟨w.heap.size, 0, none⟩) F F) F (ns (fvL F d)) ∧ Below w.heap.size w w' := by
  obtain ⟨i0, hi, hz0, hz1, hz2⟩ := info_parts info3
  have Hz := Lib.hid (And.intro hz0 (And.intro hz1 hz2))
  obtain ⟨B, hB⟩ : ∃ B, w.heap.size = B := ⟨_, rfl⟩
  have HB := Lib.hid hB
  go_enter Tryd.func33, Tryd.ntmps33
  go_wp2_with (refine wpList_make_full _ rfl _ _ 33 rfl w.heap.size 3 i0 (.int .i64 0) 1 Tryd.underlying33 hi Hz.out.1 Hz.out.2.1 .i64 .i64 _ _ F rfl rfl rfl rfl ?_ ?_ ?_ ?_)
  · rw [Hz.out.2.2]; omega
  · unfold maxLen; omega
  · exact Nat.le_refl _
  intro w2 hown hgr
  have hown2 : w2.ownsRow B 3 1 (.slice (some ⟨B, 0, none⟩) F F) F (ns (fvL F fun _ => 0)) := by rw [← fvL_zero, ← zero_nums]; simpa using hown
  have hb2 : Below B w w2 := by rw [← hB]; exact (Below.refl _ _).grown hgr (Nat.le_refl _) (fun _ h => by cases h)
  have Hown2 := Lib.hid hown2
  clear hown hgr hown2 hB
  go_wp2_with fail
  go_loopw [16] (fun i wr => ∃ k : Nat, k ≤ F ∧ i = .int .i64 k ∧ Hid (wr.ownsRow B 3 1 (.slice (some ⟨B, 0, none⟩) F F) F (ns (fvL F (fun v => if v < k then -1 else 0)))) ∧ Below B w wr) (fun i _ => F - (intOf i).toNat)
  case atStart => exact ⟨0, Nat.zero_le _, rfl, Lib.hid (by simpa using Hown2.out), hb2⟩
  case round =>
    clear hb2 Hown2
    obtain ⟨k, hk, rfl, hor, hbel⟩ := hrel
    by_cases hlt : k < F
    · obtain ⟨u0, z0⟩ := own_some hor.out k (by omega)
      have zf0 := hor.out.frozenAt k
      have hor3 := (hor.out.stored k (.int .i64 (-1))).1
      rw [ns_set, fvL_set, fvL_congr (e := fun v => if v < k + 1 then -1 else 0) (fun v _ => by
        unfold updI
        by_cases e : v = k
        · rw [if_pos e, if_pos (by omega)]
        · rw [if_neg e]
          show (if v < k then (-1 : Int) else 0) = if v < k + 1 then -1 else 0
          by_cases e2 : v < k
          · rw [if_pos e2, if_pos (by omega)]
          · rw [if_neg e2, if_neg (by omega)])] at hor3
      have Hor3 := Lib.hid hor3
      have hb3 := hbel.setCell (p := ⟨B, k, none⟩) (Nat.le_refl _) (.int .i64 (-1))
      have hk2 : (k : Int) < F := by omega
      clear hor3 hor hbel
      go_wp2_with fail
      go_roundw
      case rel => exact ⟨k + 1, by omega, by go_num, Hor3, hb3⟩
      case measure => simp [intOf]; omega
    · obtain rfl : k = F := by omega
      obtain ⟨u0, z0⟩ := own_some hor.out f (by omega)
      have zf0 := hor.out.frozenAt f
      have hor3 := (hor.out.stored f (.int .i64 0)).1
      rw [ns_set, fvL_set, fvL_congr (e := (bfs0 f).1) (fun v hv => by
        unfold bfs0 updI
        by_cases e : v = f
        · simp [e]
        · simp [e, hv])] at hor3
      have hb3 := hbel.setCell (p := ⟨B, f, none⟩) (Nat.le_refl _) (.int .i64 0)
      have hf2 : (f : Int) < k := by omega
      have hB3 : B + 1 ≤ (wr.setCell ⟨B, f, none⟩ (.int .i64 0)).heap.size := (hor3.lt B rfl).2
      have hq : ((wr.setCell ⟨B, f, none⟩ (.int .i64 0)).alloc (.cells #[.int .i64 f] 3)).ownsRow (B + 1) 3 1 (.slice (some ⟨wr.heap.size, 0, none⟩) 1 1) 1 (ns (qI (bfs0 f).2)) := by
        have h := World.ownsRow_lit (e := 3) (size := 1) (wr.setCell ⟨B, f, none⟩ (.int .i64 0)) #[.int .i64 f] 1 hB3 (by unfold maxLen; omega) rfl
        rw [show (wr.setCell ⟨B, f, none⟩ (.int .i64 0)).heap.size = wr.heap.size by simp] at h
        exact h
      have Hq := Lib.hid hq
      have Hfar := Lib.hid (own_later hor3 ((Below.refl _ _).alloc (Nat.le_refl _) (.cells #[.int .i64 f] 3)))
      have Hb4 := Lib.hid (hb3.alloc (by have := (hor3.lt B rfl).2; omega) (.cells #[.int .i64 f] 3))
      clear hor3 hor hbel hq hb3 hB3
      go_wp2_with fail
      go_loopw [9, 10] (fun v i wr => ∃ q : Nat, i = .int .i64 q ∧ q ≤ (bfs l k f q).2.length ∧ Hid (∀ j, j < q → j < (bfs l k f j).2.length) ∧ Hid (wr.ownsRow B 3 1 (.slice (some ⟨B, 0, none⟩) k k) k (ns (fvL k (bfs l k f q).1))) ∧ Hid (wr.ownsRow (B + 1) 3 1 v (bfs l k f q).2.length (ns (qI (bfs l k f q).2))) ∧ Below B w wr) (fun _ i _ => 11 - (intOf i).toNat)
      case atStart => exact ⟨0, rfl, Nat.zero_le _, Lib.hid (fun j h => absurd h (Nat.not_lt_zero j)), Hfar, Hq, Hb4.out⟩
      case round =>
        clear Hfar Hq Hb4 z0 zf0 u0
        obtain ⟨q, rfl, hq, Hall, Hfar, Hqu, hbel⟩ := hrel
        have hBI := bfs_inv (l := l) hf q Hall.out
        obtain ⟨s, hs'⟩ : ∃ s, bfs l k f q = s := ⟨_, rfl⟩
        rw [hs'] at hq Hfar Hqu hBI
        have Hs := Lib.hid hs'
        have HBI := Lib.hid hBI
        have hlen := bi_len hBI
        clear hs' hBI
        by_cases hlt2 : q < s.2.length
        · obtain ⟨gq, cq, rfl⟩ := own_apos Hqu.out (by omega)
          obtain ⟨x, hx⟩ : ∃ x, s.2.getD q 0 = x := ⟨_, rfl⟩
          have Hx := Lib.hid hx
          obtain ⟨N, hN⟩ : ∃ N, s.2.length = N := ⟨_, rfl⟩
          have HN := Lib.hid hN
          rw [hN] at hq hlen hlt2
          have Hqu' : Hid (wr.ownsRow (B + 1) 3 1 (.slice (some ⟨gq, 0, none⟩) N cq) s.2.length (ns (qI s.2))) := Lib.hid (by rw [← hN]; exact Hqu.out)
          rw [hN]
          clear hx hN Hqu
          go_wp2_with fail
          go_loopw [9, 36] (fun v i wr => ∃ o : Nat, o ≤ k ∧ i = .int .i64 o ∧ Hid (wr.ownsRow B 3 1 (.slice (some ⟨B, 0, none⟩) k k) k (ns (fvL k (bfsT l x s o).1))) ∧ Hid (wr.ownsRow (B + 1) 3 1 v (bfsT l x s o).2.length (ns (qI (bfsT l x s o).2))) ∧ Below B w wr) (fun _ i _ => k - (intOf i).toNat)
          case atStart => exact ⟨0, Nat.zero_le _, rfl, Hfar, Hqu', hbel⟩
          case round =>
            clear Hfar Hqu' hbel
            obtain ⟨o, ho, rfl, Hfar, Hqu, hbel⟩ := hrel
            obtain ⟨h1, h2, h3⟩ := bi_steps HBI.out (by rw [HN.out]; exact hlt2) o ho
            rw [Hx.out] at h1 h2 h3
            obtain ⟨t, ht⟩ : ∃ t, bfsT l x s o = t := ⟨_, rfl⟩
            rw [ht] at h1 h2 h3 Hfar Hqu
            have Hsucc : Hid (bfsT l x s (o + 1) = bfs1 l x t o) := Lib.hid (by rw [bfsT, ht])
            have hel := h1.elt q h2
            rw [h3] at hel
            have hle := bi_len h1
            by_cases hlo : o < k
            · obtain ⟨gt, ct, rfl⟩ := own_apos Hqu.out (by omega)
              have fo := row_num Hfar.out (fvL_length _ _).symm o hlo
              rw [na_fvL hlo] at fo
              have fx := row_num Hfar.out (fvL_length _ _).symm x hel.1
              rw [na_fvL hel.1] at fx
              have fq := row_num Hqu.out (qI_length _).symm q h2
              rw [na_qI h2, h3] at fq
              have hs3 : B ≤ wr.heap.size := Nat.le_of_lt (Hfar.out.lt B rfl).2
              have hx0 := hel.2.1
              have hx9 : t.1 x ≤ 10 := by have := hel.2.2; omega
              have ho2 : (o : Int) < k := by omega
              have hx2 : (x : Int) < k := by omega
              obtain ⟨M, hM⟩ : ∃ M, t.2.length = M := ⟨_, rfl⟩
              have HM := Lib.hid hM
              have Hqu2 : Hid (wr.ownsRow (B + 1) 3 1 (.slice (some ⟨gt, 0, none⟩) M ct) M (ns (qI t.2))) := Lib.hid (by rw [← hM]; exact Hqu.out)
              rw [hM] at h2 hle
              have hq2 : (q : Int) < M := by omega
              rw [hM]
              clear hM Hqu ht
              by_cases h0 : t.1 o < 0
              · have hd : decide (t.1 o < 0) = true := by simpa using h0
                have Hnis := Lib.hid (neIs_any ao cap l n x o wr Hn hs (HA.out.kept (by rw [HB.out]; exact hbel)))
                cases ha : adj l x o
                · have Ha := Lib.hid ha
                  have Hst : Hid (bfs1 l x t o = t) := Lib.hid (by unfold bfs1; rw [if_neg (by rw [ha]; simp)])
                  clear ha
                  go_wp2_with fail
                  refine Hnis.out.mono ?_
                  rintro e w5 ⟨rfl, hb5⟩
                  have ea : hasC l (min (x : Int) o) (max (x : Int) o) = false := Ha.out
                  rw [ea]
                  have Hfar5 := Lib.hid (own_later Hfar.out hb5)
                  have Hqu5 := Lib.hid (own_later Hqu2.out hb5)
                  have hb6 := hbel.trans (hb5.mono hs3)
                  clear hb5 hbel Hnis fo fx fq ea
                  go_wp2_with fail
                  go_roundw
                  case rel => exact ⟨o + 1, by omega, by go_num, by rw [Hsucc.out, Hst.out]; exact Hfar5, by rw [Hsucc.out, Hst.out, HM.out]; exact Hqu5, hb6⟩
                  case measure => simp [intOf]; omega
                · have Ha := Lib.hid ha
                  have Hst : Hid (bfs1 l x t o = (updI t.1 o (t.1 x + 1), t.2 ++ [o])) := Lib.hid (by unfold bfs1; rw [if_pos ⟨h0, ha⟩])
                  clear ha
                  go_wp2_with fail
                  refine Hnis.out.mono ?_
                  rintro e w5 ⟨rfl, hb5⟩
                  have ea : hasC l (min (x : Int) o) (max (x : Int) o) = true := Ha.out
                  rw [ea]
                  have fo := cell_old hb5 fo
                  have fx := cell_old hb5 fx
                  have fq := cell_old hb5 fq
                  have hfar5 := own_later Hfar.out hb5
                  have hqu5 := own_later Hqu2.out hb5
                  have hb6 := hbel.trans (hb5.mono hs3)
                  have zf0 := hfar5.frozenAt o
                  have hst := (hfar5.stored o (.int .i64 (t.1 x + 1))).1
                  rw [ns_set, fvL_set] at hst
                  have hgt : B + 1 ≤ gt := (hqu5.lt gt rfl).1
                  have hqu6 := hqu5.kept (grown_one w5 B o (.int .i64 (t.1 x + 1))) (.inr (fun h => by have h9 : gt = B := Option.some.inj h; omega))
                  have hb7 := hb6.setCell (p := ⟨B, o, none⟩) (Nat.le_refl _) (.int .i64 (t.1 x + 1))
                  have hs7 := hb7.size
                  have hB7 := (hst.lt B rfl).2
                  have Hst5 := Lib.hid hst
                  have Hqu6 := Lib.hid hqu6
                  have Hb7 := Lib.hid hb7
                  clear hst hqu6 hqu5 hfar5 hb6 hb5 hbel Hnis ea hb7
                  go_wp2_with (at_builtin; refine wpList_append_own _ rfl _ _ 33 rfl (B + 1) 3 i0 (.int .i64 0) 1 8 Tryd.underlying33 hi hz0 hz1 hz2 rfl (by decide) _ M (ns (qI t.2)) rfl (Hqu6.out.alloc _) ⟨w5.heap.size, 0, none⟩ 1 1 [.int .i64 o] rfl rfl ?c1 ?c2 ?c3 ?c4 ?c5 ?_)
                  case c1 => exact World.news_of_block (cs := #[.int .i64 o]) (t := 3) (fr := (0, 0)) (by have h9 := heap_alloc_new (w5.setCell ⟨B, o, none⟩ (.int .i64 (t.1 x + 1))) (.cells #[.int .i64 o] 3); rw [show (w5.setCell ⟨B, o, none⟩ (.int .i64 (t.1 x + 1))).heap.size = w5.heap.size by simp] at h9; exact h9)
                  case c2 => intro u hu; simp at hu; rcases hu with rfl; rfl
                  case c3 => unfold maxLen; omega
                  case c4 => omega
                  case c5 => simp at hB7 ⊢; omega
                  intro v' w8 hown' hgr _
                  have Hqu8 : Hid (w8.ownsRow (B + 1) 3 1 v' (t.2 ++ [o]).length (ns (qI (t.2 ++ [o])))) := Lib.hid (by rw [qI_app, ns_append, List.length_append, HM.out]; exact hown')
                  have Hfar8 := Lib.hid ((Hst5.out.alloc (.cells #[.int .i64 o] 3)).kept hgr (.inr (fun h => by have h9 : B = gt := Option.some.inj h; omega)))
                  have Hb8 := Lib.hid ((Hb7.out.alloc (by have h9 := hB7; simp at h9 ⊢; omega) (.cells #[.int .i64 o] 3)).grown hgr (by simp at hB7 ⊢; omega) (fun b hb => by have := (Hqu6.out.lt b hb).1; omega))
                  clear hown' hgr
                  go_wp2_with fail
                  go_roundw
                  case rel => exact ⟨o + 1, by omega, by go_num, by rw [Hsucc.out, Hst.out]; exact Hfar8, by rw [Hsucc.out, Hst.out]; exact Hqu8, Hb8.out⟩
                  case measure => simp [intOf]; omega
              · have hd : decide (t.1 o < 0) = false := by simpa using h0
                have Hst : Hid (bfs1 l x t o = t) := Lib.hid (by unfold bfs1; rw [if_neg (fun h => h0 h.1)])
                go_wp2_with fail
                go_roundw
                case rel => exact ⟨o + 1, by omega, by go_num, by rw [Hsucc.out, Hst.out]; exact Hfar, by rw [Hsucc.out, Hst.out, HM.out]; exact Hqu2, hbel⟩
                case measure => simp [intOf]; omega
            · obtain rfl : o = k := by omega
              have Hnx : Hid (bfs l o f (q + 1) = t) := Lib.hid (by rw [bfs, Hs.out, Hx.out, ht])
              have Hall2 : Hid (∀ j, j < q + 1 → j < (bfs l o f j).2.length) := Lib.hid (fun j hj => by
                by_cases e : j = q
                · rw [e, Hs.out, HN.out]; exact hlt2
                · exact Hall.out j (by omega))
              clear ht
              go_wp2_with fail
              go_roundw
              case rel => exact ⟨q + 1, by go_num, by rw [Hnx.out]; omega, Hall2, by rw [Hnx.out]; exact Hfar, by rw [Hnx.out]; exact Hqu, hbel⟩
              case measure => simp [intOf]; omega
        · obtain ⟨aq, cq, rfl, _⟩ := nums_shape Hqu.out (qI_length _).symm
          have hq' : q = s.2.length := by omega
          obtain ⟨N, hN⟩ : ∃ N, s.2.length = N := ⟨_, rfl⟩
          have Hq := Lib.hid hq'
          have hnl : ¬ (q : Int) < (N : Int) := by omega
          have hret : Ending.returned (.slice (some ⟨B, 0, none⟩) k k) = Ending.returned (.slice (some ⟨w.heap.size, 0, none⟩) k k) := by rw [HB.out]
          have Hret := Lib.hid hret
          clear hret
          have Hfin : Hid (∃ (k' : Nat) (d' : Nat → Int) (q' : List Nat), k' = q'.length ∧ BI l k f k' 0 (d', q') ∧ wr.ownsRow w.heap.size 3 1 (.slice (some ⟨w.heap.size, 0, none⟩) k k) k (ns (fvL k d')) ∧ Below w.heap.size w wr) := Lib.hid ⟨q, s.1, s.2, Hq.out, HBI.out, by rw [HB.out]; exact Hfar.out, by rw [HB.out]; exact hbel⟩
          rw [hN]
          clear hN hq' Hqu
          go_wp2_with fail
          go_ret
          exact ⟨Hret.out, Hfin.out⟩

end Go.Proofs.YtibjapfaljeclaaDoor
