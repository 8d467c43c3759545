/- What claims a text is of: the program. -/
import Derived.Test.YtphnpphkiiedfaaDoorPrS
import Derived.Test.YtphnpphkiiedfaaDoorShelf
namespace Go.Proofs.YtphnpphkiiedfaaDoor
open Go.ChangeShapes Go.WideShapes Go.ChangeAt Go.RowKit
set_option linter.unusedVariables false


theorem glob_kept {w w' : World} (h : ∃ m : Int, w.cell? ⟨1, 0, none⟩ = some (.int .i64 m)) (hb : Below w.heap.size w w') : ∃ m : Int, w'.cell? ⟨1, 0, none⟩ = some (.int .i64 m) := by
  obtain ⟨m, h⟩ := h
  exact ⟨m, (hb.cell (p := ⟨1, 0, none⟩) (World.block_lt_of_cell? w _ h)).trans h⟩
theorem qOf_splitB (s : ByteArray) (l : List UInt8) (h : l = s.data.toList) : (Lib.splitB ⟨#[44]⟩ 0 (min 21 (s.size + 1) - 1) s).map (·.data.toList) = qOf l := by
  rw [Lib.splitB_data, qOf, h]
  have : s.data.toList.length = s.size := by simp
  rw [this]
theorem qOf_ne (l : List UInt8) : qOf l ≠ [] := by
  unfold qOf
  cases hk : min 21 (l.length + 1) - 1 with
  | zero => simp [Lib.splitK]
  | succ k => unfold Lib.splitK; split <;> simp
theorem ba_mk (x : ByteArray) : (⟨x.data.toList.toArray⟩ : ByteArray) = x := by
  apply ByteArray.ext; simp

theorem pR_q {l : List UInt8} (h0 : l.isEmpty = false) (h : pOK l = true) : pR l = (qOf l).map cp := by rw [pR_yes h0 h, (iOK_pOK l).2 h]
set_option maxHeartbeats 4000000 in
set_option maxRecDepth 20000 in
theorem implPC_loop (s : ByteArray) (l : List UInt8) (Hl : Hid (l = s.data.toList)) (n : Nat) (Hn : Hid (n = s.size)) (h0 : 0 < n) (hs : n ≤ 1048576) (w : World) (Hm0 : Hid (∃ m : Int, w.cell? ⟨1, 0, none⟩ = some (.int .i64 m))) :
    Calls Tryd.prog 11 #[.string s] w fun e w' => ∃ v, e = .returned (.tuple #[v, .bool (pOK l)]) ∧ w'.ownsRow w.heap.size 37 3 v (pR l).length (ss (pR l)) ∧ Below w.heap.size w w' := by
  obtain ⟨i0, hi, hz0, hz1, hz2q⟩ := info_parts infoCL
  obtain ⟨mm, hmm⟩ := Hm0.out
  obtain ⟨hne, hne2⟩ := nonempty_of Hl.out (by rw [← Hn.out]; exact h0)
  have HNE := Lib.hid hne2
  clear hne2
  obtain ⟨qb, hqb⟩ : ∃ qb, qb = Lib.splitB ⟨#[44]⟩ 0 (min 21 (s.size + 1) - 1) s := ⟨_, rfl⟩
  obtain ⟨q, hq⟩ : ∃ q, q = qOf l := ⟨_, rfl⟩
  have hqq : qb.map (·.data.toList) = q := by rw [hqb, hq]; exact qOf_splitB s l Hl.out
  obtain ⟨m, hm⟩ : ∃ m, m = q.length := ⟨_, rfl⟩
  obtain ⟨cap1, hcap1⟩ : ∃ c, c = min 21 (s.size + 1) := ⟨_, rfl⟩
  have hmq : qb.length = m := by rw [hm, ← hqq, List.length_map]
  have hm1 : 0 < m := by rw [hm, hq]; exact List.length_pos_iff.2 (qOf_ne l)
  have hle : m ≤ cap1 := by
    have := Lib.splitB_length_le ⟨#[44]⟩ 0 (min 21 (s.size + 1) - 1) s
    rw [← hqb, hmq] at this
    omega
  have hm2 : m ≤ 21 := by omega
  have Hsp := Lib.hid (splitN_any s ⟨#[44]⟩ 21 mm w (by have := Hn.out; omega) hmm (by decide) (by decide) (by decide))
  rw [← hqb, ← hcap1, hmq] at Hsp
  have Hq := Lib.hid hq
  have Hm := Lib.hid hm
  have Hqq := Lib.hid hqq
  have Hmq := Lib.hid hmq
  have Hok : Hid (pOK l = iOK q) := Lib.hid (by rw [hq]; exact (iOK_pOK l).1.symm)
  obtain ⟨w1, hw1⟩ : ∃ w1, w1 = w.alloc (.cells (Lib.cellsOf qb cap1) 9) := ⟨_, rfl⟩
  rw [← hw1] at Hsp
  obtain ⟨g, hg⟩ : ∃ g, g = w.heap.size := ⟨_, rfl⟩
  have hb1 : Below w.heap.size w w1 := by rw [hw1]; exact (Below.refl _ _).alloc (Nat.le_refl _) _
  have hs1 := hb1.size
  have hg1 : g < w1.heap.size := by rw [hw1, hg]; simp
  have Hcell : Hid (∀ j, j < m → w1.cell? ⟨g, 0 + j, none⟩ = some (.string ⟨(q.getD j []).toArray⟩)) := fun j hj => by
    have hnew := heap_alloc_new w (.cells (Lib.cellsOf qb cap1) 9)
    rw [← hw1, ← hg] at hnew
    have hjb : j < qb.length := by rw [Hmq.out]; exact hj
    have hget : (Lib.cellsOf qb cap1)[j]? = some (.string qb[j]) := by
      simp [Lib.cellsOf, List.getElem?_append_left, hjb]
    have e1 : q.getD j [] = qb[j].data.toList := by rw [← Hqq.out]; simp [List.getD_eq_getElem?_getD, hjb]
    rw [Nat.zero_add, e1, ba_mk]
    exact cell_of_row w1 g j _ _ _ hnew |>.trans hget
  have Hsp2 : Hid (Calls Tryd.prog 22 #[.string s, .string ⟨#[44]⟩, .int .i64 21] w fun e w' => e = .returned (.slice (some ⟨g, 0, none⟩) m cap1) ∧ w' = w1) := by
    rw [hg]; exact Hsp.out
  clear Hsp hw1 hg hq hm hqq hmq hqb hcap1
  go_enter Tryd.func11, Tryd.ntmps11
  go_wp2_with fail
  refine Hsp2.out.mono ?_
  rintro e w1' ⟨rfl, hw1'⟩
  obtain rfl : w1 = w1' := hw1'.symm
  go_wp2_with fail
  go_loopw [4, 14] (fun v i wr => ∃ k : Nat, k ≤ m ∧ i = .int .i64 k ∧ Hid ((q.take k).all tri = true) ∧ wr.ownsRow w1.heap.size 37 3 v k (ss ((q.take k).map cp)) ∧ Below w1.heap.size w1 wr) (fun _ i _ => m - (intOf i).toNat)
  case atStart => exact ⟨0, Nat.zero_le _, rfl, rfl, World.ownsRow_nil _ _ _ _, Below.refl _ _⟩
  case round =>
    obtain ⟨k, hk, rfl, hall, hor, hbel⟩ := hrel
    have hsz := hbel.size
    have Hor := Lib.hid hor
    clear hor
    by_cases hlt : k < m
    · skip
      have hz := (hbel.cell (p := ⟨g, 0 + k, none⟩) hg1).trans (Hcell.out k hlt)
      obtain ⟨t, ht⟩ : ∃ t, t = q.getD k [] := ⟨_, rfl⟩
      rw [← ht] at hz
      rw [Nat.zero_add] at hz
      have hjq : k < q.length := by rw [← Hm.out]; exact hlt
      have htk : Hid (q.take (k + 1) = q.take k ++ [t]) := by
        show q.take (k + 1) = q.take k ++ [t]
        rw [List.take_succ_eq_append_getElem hjq, ht]
        simp [List.getD_eq_getElem?_getD, hjq]
      have Htq : Hid (t ∈ q) := by
        show t ∈ q
        rw [ht]
        simp [List.getD_eq_getElem?_getD, hjq]
      have Hno : Hid (tri t = false → pOK l = false) := Lib.hid (fun h => by
        have hq : q.all tri = false := by
          rw [List.all_eq_false]; exact ⟨t, Htq.out, by rw [h]; simp⟩
        rw [Hok.out, iOK, hq]; rfl)
      obtain ⟨sk, hsk⟩ : ∃ sk : ByteArray, sk = ⟨t.toArray⟩ := ⟨_, rfl⟩
      rw [← hsk] at hz
      have hskz : sk.size = t.length := by rw [hsk, piece_size]
      have b0 : (0 : Int) ≤ (k : Int) := by omega
      have b1 : (k : Int) < (m : Int) := by omega
      clear ht hjq
      by_cases h2 : t.length = 3
      · have hz2 : sk.size = 3 := by omega
        have c0 : 0 < sk.size := by omega
        have c1 : 1 < sk.size := by omega
        have c2 : 2 < sk.size := by omega
        obtain ⟨x0, hx0⟩ : ∃ x0 : Int, x0 = ((t.getD 0 0).toNat : Int) := ⟨_, rfl⟩
        obtain ⟨x1, hx1⟩ : ∃ x1 : Int, x1 = ((t.getD 1 0).toNat : Int) := ⟨_, rfl⟩
        obtain ⟨x2, hx2⟩ : ∃ x2 : Int, x2 = ((t.getD 2 0).toNat : Int) := ⟨_, rfl⟩
        have hix0 : ∀ W : World, (Instr.index 9 (.string sk) (.int .i64 0)).run Tryd.prog W = .ok (.int .u8 x0) W := fun W => by
          rw [run_index_string W 9 sk .i64 0 Tryd.underlying9, dif_pos (by omega), hx0]
          subst hsk
          rw [← piece_get t 0 c0]
          rfl
        have hix1 : ∀ W : World, (Instr.index 9 (.string sk) (.int .i64 1)).run Tryd.prog W = .ok (.int .u8 x1) W := fun W => by
          rw [run_index_string W 9 sk .i64 1 Tryd.underlying9, dif_pos (by omega), hx1]
          subst hsk
          rw [← piece_get t 1 c1]
          rfl
        have hix2 : ∀ W : World, (Instr.index 9 (.string sk) (.int .i64 2)).run Tryd.prog W = .ok (.int .u8 x2) W := fun W => by
          rw [run_index_string W 9 sk .i64 2 Tryd.underlying9, dif_pos (by omega), hx2]
          subst hsk
          rw [← piece_get t 2 c2]
          rfl
        have v0 : IntKind.i64.wrap x0 = x0 := by rw [hx0]; exact wrapb _
        have v2' : IntKind.i64.wrap x2 = x2 := by rw [hx2]; exact wrapb _
        have w0 : IntKind.i64.wrap (x0 - 48) = (cp t).1 := by rw [hx0, wrap48]; rfl
        have w2' : IntKind.i64.wrap (x2 - 48) = (cp t).2.1 := by rw [hx2, wrap48]; rfl
        obtain ⟨a, ha⟩ : ∃ a, a = (cp t).1 := ⟨_, rfl⟩
        obtain ⟨b, hb⟩ : ∃ b, b = (cp t).2.1 := ⟨_, rfl⟩
        rw [← ha] at w0
        rw [← hb] at w2'
        have hcut : sk.extract 1 2 = ⟨#[t.getD 1 0]⟩ := by rw [hsk]; exact piece_cut t h2
        by_cases h61 : x1 = 61
        · have ht1 : t.getD 1 0 = 61 := UInt8.toNat_inj.1 (by show (t.getD 1 0).toNat = 61; omega)
          have hz1 : (cp t).2.2 = true := by show (t.getD 1 0 == 61) = true; rw [ht1]; rfl
          have htri : tri t = true := by unfold tri; rw [h2, ht1]; rfl
          subst h61
          have e61 : ((sk.extract 1 2).toList == [61]) = true := by rw [hcut, ht1]; simp [Lib.toList_data]
          clear hcut
          have hall2 : Hid ((q.take (k + 1)).all tri = true) := Lib.hid (by rw [htk.out, List.all_append, hall.out, Bool.true_and]; simp [htri])
          have hcs : Hid (ss ((q.take (k + 1)).map cp) = ss ((q.take k).map cp) ++ [.int .i64 a, .int .i64 b, .bool true]) := by
            show ss ((q.take (k + 1)).map cp) = _
            rw [htk.out, List.map_append, ss_append, List.map_cons, List.map_nil, ha, hb, ← hz1]; rfl
          clear htri ht1 hz1 ha hb hsk hskz h2 hx0 hx1 hx2 c0 c1 c2 Hno
          have HNEW : Hid (∀ j' u, [Value.int .i64 a, .int .i64 b, .bool true][j']? = some u → (wr.alloc (.cells #[.int .i64 a, .int .i64 b, .bool true] 37)).drew.cell? ((⟨wr.heap.size, 0, none⟩ : Addr).add j') = some u) := World.news_of_block (cs := #[.int .i64 a, .int .i64 b, .bool true]) (t := 37) (fr := (0, 0)) (heap_alloc_new _ _)
          have HONE : Hid (∀ u ∈ [Value.int .i64 a, .int .i64 b, .bool true], u.oneCell' = true) := by intro u hu; simp at hu; rcases hu with rfl | rfl | rfl <;> rfl
          have HB0 : Hid (∀ o, Below w1.heap.size w1 (wr.alloc o).drew) := fun o => (hbel.alloc hsz _).drew
          go_wp2_with fail
          go_quiet (fail)
          have hszq : w1.heap.size ≤ (wr.drewN nq).heap.size := (below_drewN hbel nq).size
          have Hbq := Lib.hid (below_drewN hbel nq)
          have Horq := Lib.hid ((own_later Hor.out (below_drewN (Below.refl wr.heap.size wr) nq)).alloc (.cells #[.int .i64 a, .int .i64 b, .bool true] 37))
          have Hbq2 := Lib.hid (Hbq.out.alloc hszq (.cells #[.int .i64 a, .int .i64 b, .bool true] 37))
          have HNEW2 : Hid (∀ j' u, [Value.int .i64 a, .int .i64 b, .bool true][j']? = some u → ((wr.drewN nq).alloc (.cells #[.int .i64 a, .int .i64 b, .bool true] 37)).cell? ((⟨(wr.drewN nq).heap.size, 0, none⟩ : Addr).add j') = some u) := World.news_of_block (cs := #[.int .i64 a, .int .i64 b, .bool true]) (t := 37) (fr := (0, 0)) (heap_alloc_new _ _)
          go_wp2_with (at_builtin; refine wpList_append_own _ rfl _ _ 26 rfl w1.heap.size 37 i0 (.agg #[.int .i64 0, .int .i64 0, .bool false]) 3 24 Tryd.underlying26 hi hz0 hz1 hz2q rfl (by decide) _ k (ss ((q.take k).map cp)) rfl Horq.out ⟨(wr.drewN nq).heap.size, 0, none⟩ 1 1 [.int .i64 a, .int .i64 b, .bool true] rfl rfl HNEW2.out HONE.out (by unfold maxLen; omega) (by omega) (by simp; simp at hszq; omega) ?_)
          intro va wa owna gra _
          have Hown := Lib.hid owna
          have Hbel := Lib.hid (Hbq2.out.grown gra (by simp; simp at hszq; omega) (fun b hb => (Horq.out.lt b hb).1))
          clear owna gra
          go_wp2_with fail
          go_roundw
          case rel => exact ⟨k + 1, by omega, by go_num, hall2, by rw [hcs.out, List.map_take]; exact Hown.out, Hbel.out⟩
          case measure => simp [intOf]; omega
        · by_cases h35 : x1 = 35
          · have ht1 : t.getD 1 0 = 35 := UInt8.toNat_inj.1 (by show (t.getD 1 0).toNat = 35; omega)
            have hz1 : (cp t).2.2 = false := by show (t.getD 1 0 == 61) = false; rw [ht1]; rfl
            have htri : tri t = true := by unfold tri; rw [h2, ht1]; rfl
            subst h35
            have e61 : ((sk.extract 1 2).toList == [61]) = false := by rw [hcut, ht1]; simp [Lib.toList_data]
            have e35 : ((sk.extract 1 2).toList == [35]) = true := by rw [hcut, ht1]; simp [Lib.toList_data]
            clear hcut
            have hall2 : Hid ((q.take (k + 1)).all tri = true) := Lib.hid (by rw [htk.out, List.all_append, hall.out, Bool.true_and]; simp [htri])
            have hcs : Hid (ss ((q.take (k + 1)).map cp) = ss ((q.take k).map cp) ++ [.int .i64 a, .int .i64 b, .bool false]) := by
              show ss ((q.take (k + 1)).map cp) = _
              rw [htk.out, List.map_append, ss_append, List.map_cons, List.map_nil, ha, hb, ← hz1]; rfl
            clear htri ht1 hz1 ha hb hsk hskz h2 hx0 hx1 hx2 c0 c1 c2 Hno
            have HNEW : Hid (∀ j' u, [Value.int .i64 a, .int .i64 b, .bool false][j']? = some u → (wr.alloc (.cells #[.int .i64 a, .int .i64 b, .bool false] 37)).drew.cell? ((⟨wr.heap.size, 0, none⟩ : Addr).add j') = some u) := World.news_of_block (cs := #[.int .i64 a, .int .i64 b, .bool false]) (t := 37) (fr := (0, 0)) (heap_alloc_new _ _)
            have HONE : Hid (∀ u ∈ [Value.int .i64 a, .int .i64 b, .bool false], u.oneCell' = true) := by intro u hu; simp at hu; rcases hu with rfl | rfl | rfl <;> rfl
            have HB0 : Hid (∀ o, Below w1.heap.size w1 (wr.alloc o).drew) := fun o => (hbel.alloc hsz _).drew
            go_wp2_with fail
            go_quiet (fail)
            have hszq : w1.heap.size ≤ (wr.drewN nq).heap.size := (below_drewN hbel nq).size
            have Hbq := Lib.hid (below_drewN hbel nq)
            have Horq := Lib.hid ((own_later Hor.out (below_drewN (Below.refl wr.heap.size wr) nq)).alloc (.cells #[.int .i64 a, .int .i64 b, .bool false] 37))
            have Hbq2 := Lib.hid (Hbq.out.alloc hszq (.cells #[.int .i64 a, .int .i64 b, .bool false] 37))
            have HNEW2 : Hid (∀ j' u, [Value.int .i64 a, .int .i64 b, .bool false][j']? = some u → ((wr.drewN nq).alloc (.cells #[.int .i64 a, .int .i64 b, .bool false] 37)).cell? ((⟨(wr.drewN nq).heap.size, 0, none⟩ : Addr).add j') = some u) := World.news_of_block (cs := #[.int .i64 a, .int .i64 b, .bool false]) (t := 37) (fr := (0, 0)) (heap_alloc_new _ _)
            go_wp2_with (at_builtin; refine wpList_append_own _ rfl _ _ 26 rfl w1.heap.size 37 i0 (.agg #[.int .i64 0, .int .i64 0, .bool false]) 3 24 Tryd.underlying26 hi hz0 hz1 hz2q rfl (by decide) _ k (ss ((q.take k).map cp)) rfl Horq.out ⟨(wr.drewN nq).heap.size, 0, none⟩ 1 1 [.int .i64 a, .int .i64 b, .bool false] rfl rfl HNEW2.out HONE.out (by unfold maxLen; omega) (by omega) (by simp; simp at hszq; omega) ?_)
            intro va wa owna gra _
            have Hown := Lib.hid owna
            have Hbel := Lib.hid (Hbq2.out.grown gra (by simp; simp at hszq; omega) (fun b hb => (Horq.out.lt b hb).1))
            clear owna gra
            go_wp2_with fail
            go_roundw
            case rel => exact ⟨k + 1, by omega, by go_num, hall2, by rw [hcs.out, List.map_take]; exact Hown.out, Hbel.out⟩
            case measure => simp [intOf]; omega
          · have htri : tri t = false := by
              have e1 : (t.getD 1 0 == 61) = false := by rw [beq_eq_false_iff_ne]; intro e; rw [e] at hx1; exact h61 hx1
              have e2 : (t.getD 1 0 == 35) = false := by rw [beq_eq_false_iff_ne]; intro e; rw [e] at hx1; exact h35 hx1
              unfold tri; rw [e1, e2]; simp
            have e61 : ((sk.extract 1 2).toList == [61]) = false := by rw [hcut, Lib.toList_data, beq_eq_false_iff_ne]; intro e; exact h61 (by rw [hx1, show t.getD 1 0 = 61 by simpa using e]; rfl)
            have e35 : ((sk.extract 1 2).toList == [35]) = false := by rw [hcut, Lib.toList_data, beq_eq_false_iff_ne]; intro e; exact h35 (by rw [hx1, show t.getD 1 0 = 35 by simpa using e]; rfl)
            clear hcut
            have Hno2 := Lib.hid (Hno.out htri)
            have hn61 : (x1 != 61) = true := by rw [bne_iff_ne]; exact h61
            have hn35 : (x1 != 35) = true := by rw [bne_iff_ne]; exact h35
            have Hnil := Lib.hid (World.ownsRow_nil wr w.heap.size 37 3)
            clear htri ha hb hsk hskz h2 hx0 hx1 hx2 c0 c1 c2 w0 w2' v0 v2' h61 h35 Hno
            go_wp2_with fail
            go_ret2
            rw [Hno2.out, pR_no Hno2.out]
            exact ⟨_, rfl, Hnil.out, hb1.trans (hbel.mono hs1)⟩
      · have Hno2 := Lib.hid (Hno.out (by unfold tri; rw [beq_eq_false_iff_ne.2 h2]; rfl))
        have Hnil := Lib.hid (World.ownsRow_nil wr w.heap.size 37 3)
        have hz3 : ((sk.size : Int) != 3) = true := by rw [bne_iff_ne]; omega
        clear Hno
        go_wp2_with fail
        go_ret2
        rw [Hno2.out, pR_no Hno2.out]
        exact ⟨_, rfl, Hnil.out, hb1.trans (hbel.mono hs1)⟩

    · obtain rfl : k = m := by omega
      have e : q.take k = q := List.take_of_length_le (by rw [Hm.out]; exact Nat.le_refl _)
      rw [e] at hall Hor
      have hlen : k = (q.map cp).length := by rw [List.length_map, ← Hm.out]
      obtain ⟨go1, co1, rfl, hc1, _, _⟩ := sown_shape Hor.out hlen
      have HGd := Lib.hid (implAC_any wr 8 go1 co1 (q.map cp) k (Lib.hid hlen) (by omega) hc1)
      have Hx := Lib.hid (own_base2 Hor.out hs1)
      have Hlen := Lib.hid hlen
      have Hi : Hid (iOK q = clB 8 (q.map cp)) := Lib.hid (by rw [iOK, hall.out, Bool.true_and])
      cases hgd : clB 8 (q.map cp)
      · have Hno2 : Hid (pOK l = false) := Lib.hid (by rw [Hok.out, Hi.out, hgd])
        rw [hgd] at HGd
        clear hgd hc1 e hlt hk hlen
        go_wp2_with fail
        refine HGd.out.mono ?_
        rintro e w5 ⟨rfl, hb5⟩
        have Hnil := Lib.hid (World.ownsRow_nil w5 w.heap.size 37 3)
        go_wp2_with fail
        go_ret2
        rw [Hno2.out, pR_no Hno2.out]
        exact ⟨_, rfl, Hnil.out, (hb1.trans (hbel.mono hs1)).trans (hb5.mono (hb1.trans (hbel.mono hs1)).size)⟩
      · have Hyes : Hid (pOK l = true ∧ pR l = q.map cp) := Lib.hid (by exact ⟨by rw [Hok.out, Hi.out, hgd], by rw [pR_q HNE.out (by rw [Hok.out, Hi.out, hgd]), Hq.out]⟩)
        rw [hgd] at HGd
        clear hgd hc1 e hlt hk hlen
        go_wp2_with fail
        refine HGd.out.mono ?_
        rintro e w5 ⟨rfl, hb5⟩
        have Hx5 := Lib.hid (own_later Hx.out hb5)
        go_wp2_with fail
        go_ret2
        rw [Hyes.out.1, Hyes.out.2, ← Hlen.out]
        exact ⟨_, rfl, Hx5.out, (hb1.trans (hbel.mono hs1)).trans (hb5.mono (hb1.trans (hbel.mono hs1)).size)⟩

theorem implPC_any (s : ByteArray) (l : List UInt8) (Hl : Hid (l = s.data.toList)) (n : Nat) (Hn : Hid (n = s.size)) (hs : n ≤ 1048576) (w : World) (Hm0 : Hid (∃ m : Int, w.cell? ⟨1, 0, none⟩ = some (.int .i64 m))) :
    Calls Tryd.prog 11 #[.string s] w fun e w' => ∃ v, e = .returned (.tuple #[v, .bool (pB l)]) ∧ w'.ownsRow w.heap.size 37 3 v (pR l).length (ss (pR l)) ∧ Below w.heap.size w w' := by
  by_cases h0 : n = 0
  · obtain ⟨he, hl⟩ := empty_of Hl.out (by rw [← Hn.out]; exact h0)
    have hr : pR l = [] := by rw [hl]; rfl
    have hb : pB l = true := by rw [hl]; rfl
    rw [hb, hr]
    have Hnil := Lib.hid (World.ownsRow_nil w w.heap.size 37 3)
    clear hl h0 hr hb
    go_enter Tryd.func11, Tryd.ntmps11
    go_wp2_with fail
    go_ret2
    exact ⟨_, rfl, Hnil.out, Below.refl _ _⟩
  · obtain ⟨he, hl⟩ := nonempty_of Hl.out (by rw [← Hn.out]; omega)
    rw [pB_some hl]
    exact implPC_loop s l Hl n Hn (by omega) hs w Hm0

end Go.Proofs.YtphnpphkiiedfaaDoor
