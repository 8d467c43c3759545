/- IntoRounds by the program. -/
import Derived.Test.YtnngdoiempmkkaaIntoL
import Derived.Deep.CutRange
import Derived.Deep.RegionLaw
namespace Go.Proofs.Ytnngdoiempmkkaa
open Go.ChangeShapes Go.WideShapes Go.ChangeAt Go.RowKit
set_option linter.unusedVariables false


/-- The first j of the rounds are sorted. -/
def srtTo (U : List (List (Int × Int))) (j : Nat) : List (List (Int × Int)) := (U.take j).map srt ++ U.drop j
theorem srtTo_zero (U : List (List (Int × Int))) : srtTo U 0 = U := by simp [srtTo]
theorem srtTo_all (U : List (List (Int × Int))) : srtTo U U.length = U.map srt := by simp [srtTo]
theorem srtTo_length (U : List (List (Int × Int))) (j : Nat) : (srtTo U j).length = U.length := by simp [srtTo]; omega
theorem srtTo_at (U : List (List (Int × Int))) (j : Nat) (h : j < U.length) : crow (srtTo U j) j = crow U j := by
  unfold crow srtTo
  rw [List.getD_eq_getElem?_getD, List.getD_eq_getElem?_getD, List.getElem?_append_right (by simp; omega)]
  simp only [List.length_map, List.length_take, List.getElem?_drop]
  congr 2; omega
theorem srtTo_set (U : List (List (Int × Int))) (j : Nat) (h : j < U.length) : (srtTo U j).set j (srt (crow U j)) = srtTo U (j + 1) := by
  have hl : ((U.take j).map srt).length = j := by simp; omega
  unfold srtTo
  rw [List.set_append_right _ _ (by omega), hl, Nat.sub_self, List.drop_eq_getElem_cons h, List.set_cons_zero, List.take_succ_eq_append_getElem h, crow_get h]
  simp
set_option maxHeartbeats 3200000 in
set_option maxRecDepth 20000 in
theorem implInto_yes (w : World) (F : Nat) (ao : Option Addr) (cap : Nat) (l : List (Int × Int)) (n : Nat) (Hn : Hid (n = l.length)) (hs : n ≤ 60) (HHc : Hid (CallsAt w ao l)) (Hg : Hid (gdB (F : Int) l = true)) (hff : 1 ≤ (F : Int) ∧ (F : Int) ≤ 10) (r : Bool) (R : List (List (Int × Int))) (Hr : Hid (r = okR l)) (HR : Hid (R = if okR l then (inR l).2.map srt else [])) :
    Calls Try.prog 21 #[.int .i64 F, .slice ao n cap] w fun e w' => ∃ v X, e = .returned (.tuple #[v, .bool r]) ∧ OwnCS w' w.heap.size v X R ∧ Below w.heap.size w w' := by
  obtain ⟨j0, hj, hy0, hy1, hy2⟩ := info_parts info29
  go_enter Try.func21, Try.ntmps21
  go_wp2_with fail
  refine (areCalls_any F ao cap l n w Hn.out (by omega) HHc.out).mono ?_
  rintro e w1 ⟨rfl, hb1⟩
  rw [Hg.out]
  have hs1 := hb1.size
  have Hb1 := Lib.hid hb1
  clear hb1
  go_upto_region 6 with (fail)
  have HB1 : Hid ((w1.alloc (.cells (BA fun _ => 0) 53)).heap[w1.heap.size]? = some (.cells (BA fun _ => 0) 53 (0, 0))) := heap_alloc_new w1 _
  have Hb2 : Hid (Below w.heap.size w (w1.alloc (.cells (BA fun _ => 0) 53))) := Hb1.out.alloc hs1 _
  rw [BA_zero] at HB1 Hb2
  obtain ⟨g, hge⟩ : ∃ g, g = w1.heap.size := ⟨_, rfl⟩
  rw [← hge] at HB1 hs1 ⊢
  have hgw2 : g < (w1.alloc (.cells #[.int .i64 0, .int .i64 0, .int .i64 0, .int .i64 0, .int .i64 0, .int .i64 0, .int .i64 0, .int .i64 0, .int .i64 0, .int .i64 0] 53)).heap.size := by simp [hge]
  generalize w1.alloc (.cells #[.int .i64 0, .int .i64 0, .int .i64 0, .int .i64 0, .int .i64 0, .int .i64 0, .int .i64 0, .int .i64 0, .int .i64 0, .int .i64 0] 53) = w2 at HB1 Hb2 hgw2 ⊢
  rw [← BA_zero] at HB1
  clear hge Hb1
  go_loopw [6, 19] (fun v i wr => ∃ (k : Nat) (X : List Value), k ≤ n ∧ i = .int .i64 k ∧ Hid (okTo l k) ∧ Hid (wr.heap[g]? = some (.cells (BA (inR (l.take k)).1) 53 (0, 0))) ∧ Hid (OwnCS wr (g + 1) v X (inR (l.take k)).2) ∧ Below w.heap.size w wr) (fun _ i _ => n - (intOf i).toNat)
  case atStart => exact ⟨0, [], Nat.zero_le _, rfl, Lib.hid (fun j hj => absurd hj (Nat.not_lt_zero j)), by simpa [inR] using HB1, Lib.hid (by simpa [inR] using OwnCS.nil _ _), Hb2.out⟩
  case round =>
    obtain ⟨k, X, hk, rfl, Hok, Hfr, Hor, hbel⟩ := hrel
    have hsz := hbel.size
    by_cases hlt : k < n
    · have hgc := gd_call Hg.out (by rw [← Hn.out]; exact hlt)
      obtain ⟨b, off, Hao, hcc⟩ : ∃ b off, Hid (ao = some ⟨b, off, none⟩) ∧ (w.cell? ⟨b, off + k * 2, none⟩ = some (.int .i64 (ca l k)) ∧ w.cell? ⟨b, off + k * 2 + 1, none⟩ = some (.int .i64 (cb l k))) := by
        rcases HHc.out with h | ⟨b, off, h, hc⟩
        · subst h; exact absurd Hn.out (by simp; omega)
        · exact ⟨b, off, h, hc k (by rw [← Hn.out]; exact hlt)⟩
      have h0 := cell_old hbel hcc.1
      have h1 := cell_old hbel hcc.2
      have Hin := Lib.hid (inR_succ l k (by rw [← Hn.out]; exact hlt))
      have Hpl : Hid (pl l k = max ((inR (l.take k)).1 (ca l k).toNat) ((inR (l.take k)).1 (cb l k).toNat)) := rfl
      have Hple := Lib.hid (pl_le l k (by rw [← Hn.out]; exact hlt))
      have Hstep : Hid (stR (inR (l.take k)) (ca l k, cb l k) = (updN (updN (inR (l.take k)).1 (ca l k).toNat (pl l k + 1)) (cb l k).toNat (pl l k + 1), put1 (inR (l.take k)).2 (pl l k) (ca l k, cb l k))) := rfl
      have Hl20 := Lib.hid (len20 l k (by rw [← Hn.out]; exact hk) Hok.out)
      have Hrows : Hid (∀ i, (crow (inR (l.take k)).2 i).length ≤ 60) := Lib.hid (fun i => by have := (rinv l k (by rw [← Hn.out]; exact hk)).rows i; omega)
      have Hnot : Hid (¬ pl l k < 20 → okR l = false) := fun h => okR_not (by rw [← Hn.out]; exact hlt) h
      generalize hP : pl l k = P at Hpl Hple Hstep Hnot
      have HP := Lib.hid hP
      generalize inR (l.take k) = s at Hfr Hor Hin Hpl Hple Hstep Hl20 Hrows
      obtain ⟨a, ha⟩ := Int.eq_ofNat_of_zero_le hgc.1
      obtain ⟨bb, hbb⟩ := Int.eq_ofNat_of_zero_le (show 0 ≤ cb l k by omega)
      rw [ha] at hgc h0 Hpl Hstep Hin
      rw [hbb] at hgc h1 Hpl Hstep Hin
      have haF : a < 10 := by omega
      have hbF : bb < 10 := by omega
      have hab : a ≠ bb := by omega
      have ha2 : (0 : Int) ≤ a := by omega
      have ha3 : (a : Int) < 10 := by omega
      have hb2 : (0 : Int) ≤ bb := by omega
      have hb3 : (bb : Int) < 10 := by omega
      have fa := cell_of_row _ _ a _ _ _ Hfr.out
      have fb := cell_of_row _ _ bb _ _ _ Hfr.out
      rw [BA_get _ a haF] at fa
      rw [BA_get _ bb hbF] at fb
      have hmx : max ((s.1 a : Nat) : Int) ((s.1 bb : Nat) : Int) = (P : Int) := by have := Hpl.out; simp at this; omega
      have Hmx := Lib.hid hmx
      rw [Hao.out]
      clear hcc hP hmx
      obtain ⟨B, hBd⟩ : ∃ B, B = wr.heap.size := ⟨_, rfl⟩
      obtain ⟨w3, hw3⟩ : ∃ w3, w3 = wr.alloc (.cells #[.int .i64 a, .int .i64 bb] 46) := ⟨_, rfl⟩
      have c0 : w3.cell? ⟨B, 0, none⟩ = some (.int .i64 a) := by rw [hw3, hBd, cell_of_row _ _ _ _ _ _ (heap_alloc_new wr _)]; rfl
      have c1 : w3.cell? ⟨B, 1, none⟩ = some (.int .i64 bb) := by rw [hw3, hBd, cell_of_row _ _ _ _ _ _ (heap_alloc_new wr _)]; rfl
      have fa3 : w3.cell? ⟨g, a, none⟩ = some (.int .i64 (s.1 a : Nat)) := by rw [hw3]; exact cell_old ((Below.refl _ _).alloc (Nat.le_refl _) _) fa
      have fb3 : w3.cell? ⟨g, bb, none⟩ = some (.int .i64 (s.1 bb : Nat)) := by rw [hw3]; exact cell_old ((Below.refl _ _).alloc (Nat.le_refl _) _) fb
      have hgr0 : g < wr.heap.size := (Array.getElem?_eq_some_iff.1 Hfr.out).1
      have Hfr3 : Hid (w3.heap[g]? = some (.cells (BA s.1) 53 (0, 0))) := by show w3.heap[g]? = _; rw [hw3, Below.heap_alloc _ _ _ hgr0]; exact Hfr.out
      have Hor3 : Hid (OwnCS w3 (g + 1) u6 X s.2) := by show OwnCS _ _ _ _ _; rw [hw3]; exact Hor.out.alloc _
      have Hb3 : Hid (Below w.heap.size w w3) := by show Below _ _ _; rw [hw3]; exact hbel.alloc hsz _
      have hBs : B < w3.heap.size := by rw [hw3, hBd]; simp
      have hgB : g < B := by rw [hBd]; exact hgr0
      have HvB : Hid (u6.ownBlock ≠ some B) := fun h => by have := (Hor.out.1.lt B h).2; omega
      have HXB : Hid (∀ (i : Nat) (y : Value), X[i]? = some y → y.ownBlock ≠ some B) := Lib.hid (fun i y hy e => by
        have hi := (List.getElem?_eq_some_iff.1 hy).1
        have h2 := ((Hor.out.2.2.1 i y _ hy (List.getElem?_eq_getElem (by rw [← Hor.out.2.1]; exact hi))).1.lt B e).2
        omega)
      go_upto_region 8 with (fail)
      rw [← hBd, ← hw3]
      clear hBd hw3 fa fb h0 h1 hbel Hfr Hor hsz
      have C0 := Lib.hid c0
      have C1 := Lib.hid c1
      go_quiet (fail)
      rw [Hmx.out]
      have bd : Below w3.heap.size w3 (w3.drewN nq) := below_drewN (Below.refl _ _) _
      have Hfr4 : Hid ((w3.drewN nq).heap[g]? = some (.cells (BA s.1) 53 (0, 0))) := Hfr3.out
      have Hor4 := Lib.hid (Hor3.out.later bd)
      have Hb4 := Lib.hid (Hb3.out.trans (bd.mono Hb3.out.size))
      have C04 : Hid ((w3.drewN nq).cell? ⟨B, 0, none⟩ = some (.int .i64 a)) := c0
      have C14 : Hid ((w3.drewN nq).cell? ⟨B, 1, none⟩ = some (.int .i64 bb)) := c1
      have HBs4 : Hid (B < (w3.drewN nq).heap.size) := hBs
      generalize w3.drewN nq = w4 at Hfr4 Hor4 Hb4 C04 C14 HBs4 ⊢
      clear bd c0 c1 fa3 fb3 Hfr3 Hor3 Hb3 hBs C0 C1
      by_cases h20 : P < 20
      · have hne : ¬ (P : Int) = 20 := by omega
        have hpU := Hple.out
        have hU20 := Hl20.out
        have hg1 : w.heap.size ≤ g + 1 := by omega
        have hb20 : ((P : Int) == 20) = false := by simpa using hne
        obtain ⟨ao2, cap2, rfl, _⟩ := Hor4.out.rows
        obtain ⟨LU, hLU⟩ : ∃ LU, LU = s.2.length := ⟨_, rfl⟩
        rw [← hLU] at hpU hU20 HvB ⊢
        have HLU := Lib.hid hLU
        have Hor4' : Hid (OwnCS w4 (g + 1) (.slice ao2 LU cap2) X s.2) := by show OwnCS _ _ _ _ _; rw [hLU]; exact Hor4.out
        clear hLU Hor4
        go_upto_if 37 with (fail)
        go_cut [6] from 32 to 40 (fun v wr => ∃ X, Hid (OwnCS wr (g + 1) v X (pad s.2 P)) ∧ Hid (wr.heap[g]? = some (.cells (BA s.1) 53 (0, 0))) ∧ Hid (wr.cell? ⟨B, 0, none⟩ = some (.int .i64 a)) ∧ Hid (wr.cell? ⟨B, 1, none⟩ = some (.int .i64 bb)) ∧ Hid (B < wr.heap.size) ∧ Hid (v.ownBlock ≠ some B) ∧ Hid (∀ (i : Nat) (y : Value), X[i]? = some y → y.ownBlock ≠ some B) ∧ Hid (Below w.heap.size w wr))
        case first =>
          by_cases hPU : P = LU
          · have hte : ((P : Int) == (LU : Int)) = true := by simp; omega
            rw [hte]
            have HPU := Lib.hid hPU
            have Hpd : Hid (pad s.2 P = s.2 ++ [[]]) := by show _ = _; unfold pad; rw [if_pos (by rw [HPU.out, HLU.out])]
            have hsz5 := Hb4.out.size
            have hsB := HBs4.out
            have Hfa5 := Lib.hid (cell_old ((Below.refl _ _).alloc (Nat.le_refl w4.heap.size) (.cells #[.slice none 0 0] 29)) C04.out)
            have Hfb5 := Lib.hid (cell_old ((Below.refl _ _).alloc (Nat.le_refl w4.heap.size) (.cells #[.slice none 0 0] 29)) C14.out)
            have hgw4 : g < w4.heap.size := (Array.getElem?_eq_some_iff.1 Hfr4.out).1
            clear hPU hte
            go_wp2_with (at_builtin; refine push_roundG _ rfl _ _ 25 rfl (g + 1) j0 Try.underlying25 hj hy0 hy1 hy2 _ X s.2 LU HLU.out.symm rfl (Hor4'.out.alloc _) (by omega) (.slice none 0 0) [] (World.ownsRow_nil _ _ _ _) (fun b h => by cases h) (fun i y b _ _ h => by cases h) 1 w4.heap.size rfl (by simp) rfl (by simp; omega) ?_)
            intro v6 w6 own6 hgr6 hat6
            rw [← Hpd.out] at own6
            have Hor6 := Lib.hid own6
            have hlow : ∀ b, (Value.slice ao2 LU cap2).ownBlock = some b → g + 1 ≤ b := fun b hb => (Hor4'.out.1.lt b hb).1
            have blkB : w6.heap[B]? = (w4.alloc (.cells #[.slice none 0 0] 29)).heap[B]? := hgr6.block B (by simp; omega) (fun h => HvB.out h.symm)
            have Hf6 : Hid (w6.heap[g]? = some (.cells (BA s.1) 53 (0, 0))) := (hgr6.block g (by simp; omega) (fun h => by have := hlow g h.symm; omega)).trans ((Below.heap_alloc _ _ _ hgw4).trans Hfr4.out)
            have E0 : Hid (w6.cell? ⟨B, 0, none⟩ = some (.int .i64 a)) := (World.cell?_of_block (a := ⟨B, 0, none⟩) blkB).trans Hfa5.out
            have E1 : Hid (w6.cell? ⟨B, 1, none⟩ = some (.int .i64 bb)) := (World.cell?_of_block (a := ⟨B, 1, none⟩) blkB).trans Hfb5.out
            have hsz6 := hgr6.size
            have HBs6 : Hid (B < w6.heap.size) := by show B < _; simp at hsz6; omega
            have HvB6 : Hid (v6.ownBlock ≠ some B) := by
              show _ ≠ _
              rcases hat6 with e | e
              · rw [e]; exact HvB.out
              · rw [e]; intro h; simp at h; omega
            have HXB6 : Hid (∀ (i : Nat) (y : Value), (X ++ [.slice none 0 0])[i]? = some y → y.ownBlock ≠ some B) := Lib.hid (fun i y hy => by
              by_cases hi : i < X.length
              · rw [List.getElem?_append_left hi] at hy; exact HXB.out i y hy
              · rw [List.getElem?_append_right (by omega)] at hy
                have : y = .slice none 0 0 := by
                  cases hq : i - X.length with
                  | zero => rw [hq] at hy; simpa using hy.symm
                  | succ q => rw [hq] at hy; simp at hy
                rw [this]; intro h; cases h)
            have Hb6 : Hid (Below w.heap.size w w6) := (Hb4.out.alloc hsz5 _).grown hgr6 (by simp; omega) (fun b hb => by have := hlow b hb; omega)
            clear own6 hgr6 hat6 blkB hlow hsz6
            go_wp2_with fail
            go_meet
            case rel => exact ⟨_, Hor6, Hf6, E0, E1, HBs6, HvB6, HXB6, Hb6⟩
          · have hte : ((P : Int) == (LU : Int)) = false := by simp; omega
            rw [hte]
            have Hpd : Hid (OwnCS w4 (g + 1) (.slice ao2 LU cap2) X (pad s.2 P)) := by show OwnCS _ _ _ _ _; unfold pad; rw [if_neg (by rw [← HLU.out]; exact hPU)]; exact Hor4'.out
            clear hPU hte
            go_wp2_with fail
            go_meet
            case rel => exact ⟨_, Hpd, Hfr4, C04, C14, HBs4, HvB, HXB, Hb4⟩
        case rest =>
          obtain ⟨X5, Hor5, Hfr5, D0, D1, HBs5, HvB5, HXB5, Hb5⟩ := hcut
          clear Hfr4 Hb4 C04 C14 HBs4 Hor4' HvB HXB
          have hPL : P < (pad s.2 P).length := pad_length (by rw [← HLU.out]; exact hpU)
          have hLm : (pad s.2 P).length ≤ 21 := by have := pad_most (U := s.2) (k := P) (by rw [← HLU.out]; exact hpU); rw [← HLU.out] at this; omega
          obtain ⟨g2, cap7, rfl, hg2⟩ := Hor5.out.outer (by omega)
          obtain ⟨a7, c7, hX7, hc7, own7⟩ := Hor5.out.cellOf rfl P hPL
          have hne7 : (Value.slice a7 (crow (pad s.2 P) P).length c7).ownBlock ≠ some g2 := fun h => (Hor5.out.2.2.1 P _ _ hX7 (List.getElem?_eq_getElem hPL)).2 g2 h rfl
          have Hnew : Hid ((pad s.2 P).set P (crow (pad s.2 P) P ++ [((a : Int), (bb : Int))]) = put1 s.2 P ((a : Int), (bb : Int))) := rfl
          obtain ⟨m, hm⟩ : ∃ m, m = (crow (pad s.2 P) P).length := ⟨_, rfl⟩
          have hm60 : m ≤ 60 := by rw [hm, crow_pad]; exact Hrows.out P
          rw [← hm] at hX7 hc7 own7 hne7
          have Hm := Lib.hid hm
          have bd : Below wc.heap.size wc (wc.alloc (.cells #[.int .i64 a, .int .i64 bb] 46)).drew := ((Below.refl wc.heap.size wc).alloc (Nat.le_refl _) _).drew
          have Hblk : Hid (((wc.alloc (.cells #[.int .i64 a, .int .i64 bb] 46)).drew).heap[wc.heap.size]? = some (.cells #[.int .i64 a, .int .i64 bb] 46 (0, 0))) := heap_alloc_new wc _
          have Hrow6 := Lib.hid (own_later own7 bd)
          have Hor6 := Lib.hid (Hor5.out.later bd)
          have hlt2 : g2 < wc.heap.size := (Hor5.out.1.lt g2 rfl).2
          have hB5 := HBs5.out
          have hg2B : g2 ≠ B := fun h => HvB5.out (by rw [h]; rfl)
          have hX7B : (Value.slice a7 m c7).ownBlock ≠ some B := HXB5.out P _ hX7
          have hX7g : (Value.slice a7 m c7).ownBlock ≠ some g := fun h => by have := (own7.lt g h).1; omega
          have hgwc : g < wc.heap.size := (Array.getElem?_eq_some_iff.1 Hfr5.out).1
          have hszW : (wc.alloc (.cells #[.int .i64 a, .int .i64 bb] 46)).drew.heap.size = wc.heap.size + 1 := by show (wc.alloc _).heap.size = _; simp
          have HC7 : Hid ((wc.alloc (.cells #[.int .i64 a, .int .i64 bb] 46)).drew.cell? ⟨g2, P, none⟩ = some (.slice a7 m c7)) := cell_old bd hc7
          have DD0 : Hid ((wc.alloc (.cells #[.int .i64 a, .int .i64 bb] 46)).drew.cell? ⟨B, 0, none⟩ = some (.int .i64 a)) := cell_old bd D0.out
          have DD1 : Hid ((wc.alloc (.cells #[.int .i64 a, .int .i64 bb] 46)).drew.cell? ⟨B, 1, none⟩ = some (.int .i64 bb)) := cell_old bd D1.out
          have Hfw : Hid (((wc.alloc (.cells #[.int .i64 a, .int .i64 bb] 46)).drew).heap[g]? = some (.cells (BA s.1) 53 (0, 0))) := (Below.heap_alloc wc _ _ hgwc).trans Hfr5.out
          have HbW : Hid (Below w.heap.size w (wc.alloc (.cells #[.int .i64 a, .int .i64 bb] 46)).drew) := Hb5.out.trans (bd.mono Hb5.out.size)
          have d0 := D0.out
          have d1 := D1.out
          have dd0 : wc.drew.cell? ⟨B, 0, none⟩ = some (.int .i64 a) := d0
          have dd1 : wc.drew.cell? ⟨B, 1, none⟩ = some (.int .i64 bb) := d1
          have hP0 : (0 : Int) ≤ (P : Int) := by omega
          have hP1 : (P : Int) < ((pad s.2 P).length : Int) := by omega
          have HPL := Lib.hid hPL
          have HX7 := Lib.hid hX7
          have Hrw7 : Hid ((wc.alloc (.cells #[.int .i64 a, .int .i64 bb] 46)).drew.ownsRow (g + 1) 29 1 (.slice (some ⟨g2, 0, none⟩) (pad s.2 P).length cap7) (pad s.2 P).length X5) := Hor6.out.1
          have hsW := Hb5.out.size
          generalize hLn : (pad s.2 P).length = LN at *
          have HLn := Lib.hid hLn
          clear hm own7 bd hLn hX7 hPL
          go_wp2_with fail
          go_cut [] from 41 to 50 (fun w9 => ∃ X3, Hid (OwnCS w9 (g + 1) (.slice (some ⟨g2, 0, none⟩) LN cap7) X3 (put1 s.2 P ((a : Int), (bb : Int)))) ∧ Hid (w9.heap[g]? = some (.cells (BA s.1) 53 (0, 0))) ∧ Hid (w9.cell? ⟨B, 0, none⟩ = some (.int .i64 a)) ∧ Hid (w9.cell? ⟨B, 1, none⟩ = some (.int .i64 bb)) ∧ Hid (Below w.heap.size w w9))
          case first =>
            go_region_law (refine step_append_call _ rfl (.tmp 46) (.tmp 48) rfl (g + 1) (.slice a7 m c7) m (crow (pad s.2 P) P) Hm.out rfl Hrow6.out (by omega) wc.heap.size a bb 1 (0, 0) 46 rfl Hblk.out (by rw [hszW]; omega) ?_; rintro v9 w9 own9 hgr9 hat9; obtain ⟨a9, c9, rfl, _⟩ := own_shape_s own9 (by simp [← Hm.out]); have Hown9 := Lib.hid own9; have Hgr9 := Lib.hid hgr9; have Hat9 := Lib.hid hat9; have z1 := (World.cell?_of_block (a := ⟨g2, P, none⟩) (hgr9.block g2 (by rw [hszW]; omega) (fun h => hne7 h.symm))).trans HC7.out; have z3 := (Hrw7.out.kept hgr9 (.inr (fun h => hne7 h.symm))).frozenAt P; clear own9 hgr9 hat9)
            all_goals
              have hle8 : (crow (pad s.2 P) P ++ [((a : Int), (bb : Int))]).length = m + 1 := by rw [List.length_append, ← Hm.out]; rfl
              have hst := OwnCS.replace (w9 := w9) (H := (wc.alloc (.cells #[.int .i64 a, .int .i64 bb] 46)).drew.heap.size) Hor6.out HLn.out.symm P (by rw [HLn.out]; exact HPL.out) (.slice a7 m c7) (.slice a9 (m + 1) c9) (crow (pad s.2 P) P ++ [((a : Int), (bb : Int))]) HX7.out Hgr9.out (by rw [hle8]; exact Hown9.out) Hat9.out (Nat.le_refl _)
              rw [Hnew.out] at hst
              have Hst := Lib.hid hst
              have Hfs : Hid ((w9.setCell ⟨g2, P, none⟩ (.slice a9 (m + 1) c9)).heap[g]? = some (.cells (BA s.1) 53 (0, 0))) := (heap_setCell_other _ _ _ _ (by show g ≠ g2; omega)).trans ((Hgr9.out.block g (by rw [hszW]; omega) (fun h => hX7g h.symm)).trans Hfw.out)
              have blkB : w9.heap[B]? = (wc.alloc (.cells #[.int .i64 a, .int .i64 bb] 46)).drew.heap[B]? := Hgr9.out.block B (by rw [hszW]; omega) (fun h => hX7B h.symm)
              have blkB2 : (w9.setCell ⟨g2, P, none⟩ (.slice a9 (m + 1) c9)).heap[B]? = (wc.alloc (.cells #[.int .i64 a, .int .i64 bb] 46)).drew.heap[B]? := (heap_setCell_other _ _ _ _ (Ne.symm hg2B)).trans blkB
              have G0 : Hid ((w9.setCell ⟨g2, P, none⟩ (.slice a9 (m + 1) c9)).cell? ⟨B, 0, none⟩ = some (.int .i64 a)) := (World.cell?_of_block (a := ⟨B, 0, none⟩) blkB2).trans DD0.out
              have G1 : Hid ((w9.setCell ⟨g2, P, none⟩ (.slice a9 (m + 1) c9)).cell? ⟨B, 1, none⟩ = some (.int .i64 bb)) := (World.cell?_of_block (a := ⟨B, 1, none⟩) blkB2).trans DD1.out
              have Hbs : Hid (Below w.heap.size w (w9.setCell ⟨g2, P, none⟩ (.slice a9 (m + 1) c9))) := (HbW.out.grown Hgr9.out (by rw [hszW]; omega) (fun b hb => by have := (Hrow6.out.lt b hb).1; omega)).setCell (p := ⟨g2, P, none⟩) (by show w.heap.size ≤ g2; omega) _
              clear hst z1 z3 hle8 blkB blkB2
              go_wp2_with fail
              go_meet
              case rel => exact ⟨_, Hst, Hfs, G0, G1, Hbs⟩
          case rest =>
            rename_i wd _ _ _ _ _ _ _ _ _ _ hcut
            obtain ⟨X3, Hor7, Hf7, E0, E1, Hb7⟩ := hcut
            clear Hor5 Hfr5 D0 D1 HBs5 HvB5 HXB5 Hb5 Hrow6 Hor6 HC7 DD0 DD1 Hrw7 d0 d1 dd0 dd1 hc7 Hfw HbW Hblk HX7
            have hw1 : IntKind.i64.wrap ((P : Int) + 1) = (P : Int) + 1 := IntWalk.i64_in _ (by omega)
            have e0 : wc.cell? ⟨B, 0, none⟩ = some (.int .i64 a) := E0.out
            have e1 : wc.cell? ⟨B, 1, none⟩ = some (.int .i64 bb) := E1.out
            have f7 := cell_of_row _ _ a _ _ _ Hf7.out
            rw [BA_get _ a haF] at f7
            have z7 := frozen_of_row _ _ a _ _ Hf7.out
            have f8 := cell_of_row _ _ bb _ _ _ Hf7.out
            rw [BA_get _ bb hbF] at f8
            have z8 := frozen_of_row _ _ bb _ _ Hf7.out
            have hf8 := heap_setCell_same wc.drew g a (BA s.1) 53 (.int .i64 ((P + 1 : Nat) : Int)) Hf7.out
            rw [BA_set] at hf8
            have Hf8 : Hid ((wc.drew.setCell ⟨g, a, none⟩ (.int .i64 ((P : Int) + 1))).heap[g]? = some (.cells (BA (updN s.1 a (P + 1))) 53 (0, 0))) := hf8
            have hf9 := heap_setCell_same (wc.drew.setCell ⟨g, a, none⟩ (.int .i64 ((P : Int) + 1))) g bb _ 53 (.int .i64 ((P + 1 : Nat) : Int)) Hf8.out
            rw [BA_set] at hf9
            have Hf9 : Hid (((wc.drew.setCell ⟨g, a, none⟩ (.int .i64 ((P : Int) + 1))).setCell ⟨g, bb, none⟩ (.int .i64 ((P : Int) + 1))).heap[g]? = some (.cells (BA (updN (updN s.1 a (P + 1)) bb (P + 1))) 53 (0, 0))) := hf9
            have hord : OwnCS wc.drew (g + 1) (.slice (some ⟨g2, 0, none⟩) LN cap7) X3 (put1 s.2 P ((a : Int), (bb : Int))) := Hor7.out.later (Below.refl wc.heap.size wc).drew
            have Hor9 : Hid (OwnCS ((wc.drew.setCell ⟨g, a, none⟩ (.int .i64 ((P : Int) + 1))).setCell ⟨g, bb, none⟩ (.int .i64 ((P : Int) + 1))) (g + 1) (.slice (some ⟨g2, 0, none⟩) LN cap7) X3 (put1 s.2 P ((a : Int), (bb : Int)))) := (hord.kept (grown_one _ g a _) (fun b h => by cases h; omega)).kept (grown_one _ g bb _) (fun b h => by cases h; omega)
            have Hb9 : Hid (Below w.heap.size w ((wc.drew.setCell ⟨g, a, none⟩ (.int .i64 ((P : Int) + 1))).setCell ⟨g, bb, none⟩ (.int .i64 ((P : Int) + 1)))) := (Hb7.out.drew.setCell (p := ⟨g, a, none⟩) (by show w.heap.size ≤ g; omega) _).setCell (p := ⟨g, bb, none⟩) (by show w.heap.size ≤ g; omega) _
            clear hf8 hf9 hord Hor7 E0 E1 Hb7
            go_wp2_with fail
            go_region
            all_goals
              go_wp2_with fail
              go_roundw
              case rel =>
                have hIn : inR (l.take (k + 1)) = (updN (updN s.1 a (P + 1)) bb (P + 1), put1 s.2 P ((a : Int), (bb : Int))) := by
                  rw [Hin.out, Hstep.out]; rfl
                refine ⟨k + 1, X3, by omega, by go_num, Lib.hid (fun j hj => ?_), ?_, ?_, Hb9.out⟩
                · by_cases hjk : j = k
                  · subst hjk; rw [HP.out]; exact h20
                  · exact Hok.out j (by omega)
                · rw [hIn]; exact Hf9
                · rw [hIn]; exact Hor9
              case measure => simp [intOf]; omega
      · obtain rfl : P = 20 := by have := Hple.out; have := Hl20.out; omega
        have hr := Hnot.out h20
        obtain rfl : r = false := by rw [Hr.out, hr]
        obtain rfl : R = [] := by rw [HR.out, hr]; rfl
        clear Hr HR hr h20
        go_wp2_with fail
        go_ret2
        first | exact ⟨_, [], rfl, OwnCS.nil _ _, Hb4.out⟩ | exact ⟨_, rfl, ⟨[], OwnCS.nil _ _⟩, Hb4.out⟩ | exact ⟨⟨_, rfl⟩, ⟨[], OwnCS.nil _ _⟩, Hb4.out⟩
    · obtain rfl : k = n := by omega
      have hl : l.take k = l := List.take_of_length_le (by rw [← Hn.out]; exact Nat.le_refl _)
      have hok : okR l = true := (okR_iff l).2 (by rw [← Hn.out]; exact Hok.out)
      obtain rfl : r = true := by rw [Hr.out, hok]
      have hR : R = (inR l).2.map srt := by rw [HR.out, if_pos hok]
      have h20 := len20 l k (by rw [← Hn.out]; exact Nat.le_refl _) Hok.out
      have hrows := fun i => (rinv l k (by rw [← Hn.out]; exact Nat.le_refl _)).rows i
      rw [hl] at Hor h20 hrows
      generalize (inR l).2 = U at Hor h20 hrows hR
      have HRU := Lib.hid hR
      have Hrows : Hid (∀ i, (crow U i).length ≤ 60) := Lib.hid (fun i => by have := hrows i; omega)
      obtain ⟨ao2, cap2, rfl, _⟩ := Hor.out.rows
      obtain ⟨LN, hLN⟩ : ∃ LN, LN = U.length := ⟨_, rfl⟩
      rw [← hLN] at h20 ⊢
      have Hor1 : Hid (OwnCS wr (g + 1) (.slice ao2 LN cap2) X (srtTo U 0)) := by show OwnCS _ _ _ _ _; rw [srtTo_zero, hLN]; exact Hor.out
      have HLN := Lib.hid hLN
      have hg1 : w.heap.size ≤ g + 1 := by omega
      clear Hr HR hok hl Hor Hfr hrows hLN Hok hR
      go_wp2_with fail
      go_loopw [64] (fun i w5 => ∃ j : Nat, j ≤ LN ∧ i = .int .i64 j ∧ Hid (OwnCS w5 (g + 1) (.slice ao2 LN cap2) X (srtTo U j)) ∧ Below w.heap.size w w5) (fun i _ => LN - (intOf i).toNat)
      case atStart => exact ⟨0, Nat.zero_le _, rfl, Hor1, hbel⟩
      case round =>
        obtain ⟨j, hj5, rfl, Hor5, hb5⟩ := hrel
        have hsz5 := hb5.size
        by_cases hlj : j < LN
        · have hjU : j < U.length := by rw [← HLN.out]; exact hlj
          obtain ⟨g2, cap7, hv, hg2⟩ := Hor5.out.outer (by rw [srtTo_length]; omega)
          obtain ⟨rfl, rfl⟩ : ao2 = some ⟨g2, 0, none⟩ ∧ cap2 = cap7 := by
            injection hv with e1 _ e2
            exact ⟨e1, e2⟩
          clear hv
          obtain ⟨a7, c7, hX7, hc7, own7⟩ := Hor5.out.cellOf (by rw [srtTo_length]; exact HLN.out) j (by rw [srtTo_length]; exact hjU)
          rw [srtTo_at U j hjU] at hX7 hc7 own7
          obtain ⟨m, hm⟩ : ∃ m, m = (crow U j).length := ⟨_, rfl⟩
          have hm60 : m ≤ 60 := by rw [hm]; exact Hrows.out j
          rw [← hm] at hX7 hc7 own7
          have Hm := Lib.hid hm
          have HX7 := Lib.hid hX7
          have Hsort := Lib.hid (sort_any (g + 1) (.slice a7 m c7) (crow U j) m wr hm (by omega) own7)
          have hlow : ∀ b, (Value.slice a7 m c7).ownBlock = some b → g + 1 ≤ b := fun b hb => (own7.lt b hb).1
          have Hlow := Lib.hid hlow
          clear hm own7 hX7 hlow
          go_wp2_with fail
          refine Hsort.out.mono ?_
          rintro e w6 ⟨rfl, own6, hgr6⟩
          have hset := Hor5.out.set j (.slice a7 m c7) (srt (crow U j)) HX7.out (by rw [srtTo_length]; exact hjU) (by rw [srt_length, ← Hm.out]; exact own6) hgr6
          rw [srtTo_set U j hjU] at hset
          have Hset := Lib.hid hset
          have Hb6 : Hid (Below w.heap.size w w6) := hb5.grown hgr6 hsz5 (fun b hb => by have := Hlow.out b hb; omega)
          clear hset own6 hgr6
          go_wp2_with fail
          go_roundw
          case rel => exact ⟨j + 1, by omega, by go_num, Hset, Hb6.out⟩
          case measure => simp [intOf]; omega
        · obtain rfl : j = LN := by omega
          have hall := Hor5.out
          rw [HLN.out, srtTo_all, ← HLN.out, ← HRU.out] at hall
          have Hall := Lib.hid (hall.weaken (b' := w.heap.size) hg1)
          clear hall hlj
          go_wp2_with fail
          go_ret2
          refine ⟨_, X, rfl, ?_, ?_⟩
          · exact Hall.out
          · exact hb5

end Go.Proofs.Ytnngdoiempmkkaa
