/- What letters a text is of: the model. -/
import Derived.Test.YtfbkpdmphlgokaaDoorSplitW
namespace Go.Proofs.YtfbkpdmphlgokaaDoor
open Go.ChangeShapes Go.WideShapes Go.ChangeAt Go.RowKit
set_option linter.unusedVariables false


set_option maxRecDepth 20000 in
set_option maxHeartbeats 4000000 in
theorem specPL_loop (s : ByteArray) (l : List UInt8) (Hl : Hid (l = s.data.toList)) (n : Nat) (Hn : Hid (n = s.size)) (h0 : 0 < n) (hs : n ≤ 240) (w : World) :
    Calls Tryd.prog 10 #[.string s] w fun e w' => ∃ v, e = .returned (.tuple #[v, .bool (pOKL l)]) ∧ w'.ownsRow w.heap.size 42 2 v (pRL l).length (cs (pRL l)) ∧ Below w.heap.size w w' := by
  obtain ⟨i0, hi, hz0, hz1, hz2q⟩ := info_parts info42
  have hsz9 : s.size = n := Hn.out.symm
  have hll : l.length = n := by rw [Hl.out, Hn.out]; simp
  have Hll := Lib.hid hll
  clear hll
  have hsI : (n : Int) ≤ 240 := by omega
  have hsJ : (0 : Int) < (n : Int) := by omega
  obtain ⟨q, hq⟩ : ∃ q, q = spF l := ⟨_, rfl⟩
  obtain ⟨m, hm⟩ : ∃ m, m = q.length := ⟨_, rfl⟩
  have hm1 : 0 < m := by rw [hm, hq]; exact List.length_pos_iff.2 (spF_ne l)
  have hm2 : m ≤ 241 := by have := spF_le l; rw [hm, hq]; have := Hll.out; omega
  have Hq := Lib.hid hq
  have Hm := Lib.hid hm
  clear hq hm
  go_enter Tryd.func10, Tryd.ntmps10
  go_wp2_with fail
  refine (l1SplitW_any s l Hl n Hn (by omega) w).mono ?_
  rintro e w1 ⟨v1, rfl, own1, hb1⟩
  rw [← Hq.out, ← Hm.out] at own1
  obtain ⟨g, cap1, rfl⟩ := row_some own1 hm1
  have hs1 := hb1.size
  have Hcell : Hid (∀ j, j < m → w1.cell? ⟨g, 0 + j, none⟩ = some (.string ⟨(q.getD j []).toArray⟩)) := fun j hj => by
    rw [Nat.zero_add, own1.cellAt j (by omega)]
    have hjq : j < q.length := by rw [← Hm.out]; exact hj
    simp [sv, List.getD_eq_getElem?_getD, hjq]
  have hg1 := (own1.lt g rfl).2
  clear own1
  go_wp2_with fail
  go_loopw [4, 17] (fun v i wr => ∃ (k : Nat) (rs : List (Int × Int)), k ≤ m ∧ i = .int .i64 k ∧ Hid (rs.length = k ∧ ∀ j, j < k → goodT (q.getD j []) = true → rs[j]? = some (cpL (q.getD j []))) ∧ wr.ownsRow w1.heap.size 42 2 v k (cs rs) ∧ Below w1.heap.size w1 wr) (fun _ i _ => m - (intOf i).toNat)
  case atStart => exact ⟨0, [], Nat.zero_le _, rfl, ⟨rfl, fun j hj => absurd hj (by omega)⟩, World.ownsRow_nil _ _ _ _, Below.refl _ _⟩
  case round =>
    obtain ⟨k, rs, hk, rfl, hall, hor, hbel⟩ := hrel
    have hsz := hbel.size
    have Hor := Lib.hid hor
    clear hor
    by_cases hlt : k < m
    · have hz := (hbel.cell (p := ⟨g, 0 + k, none⟩) hg1).trans (Hcell.out k hlt)
      obtain ⟨t, ht⟩ : ∃ t, t = q.getD k [] := ⟨_, rfl⟩
      rw [← ht] at hz
      rw [Nat.zero_add] at hz
      have hjq : k < q.length := by rw [← Hm.out]; exact hlt
      have Htq : Hid (t ∈ q) := by
        show t ∈ q
        rw [ht]
        simp [List.getD_eq_getElem?_getD, hjq]
      have Htl : Hid (t.length ≤ 240) := by
        show t.length ≤ 240
        have h1 := mem_le Htq.out
        rw [Hq.out, spF_sum, Hll.out] at h1
        omega
      have Ht := Lib.hid ht
      obtain ⟨sk, hsk⟩ : ∃ sk : ByteArray, sk = ⟨t.toArray⟩ := ⟨_, rfl⟩
      rw [← hsk] at hz
      have Hskt : Hid (t = sk.data.toList) := by show t = _; rw [hsk]
      have Hskz : Hid (t.length = sk.size) := by show t.length = _; rw [hsk, piece_size]
      have Hno : Hid (goodT t = false → pOKL l = false) := fun h => by
        rw [Bool.eq_false_iff]
        intro e
        have := (pOKL_good e).2 t (by rw [← Hq.out]; exact Htq.out)
        rw [h] at this
        cases this
      have b0 : (0 : Int) ≤ (k : Int) := by omega
      have b1 : (k : Int) < (m : Int) := by omega
      clear ht hjq hsk
      go_wp2_with fail
      refine (l1SplitV_any sk t Hskt t.length Hskz (by have := Htl.out; omega) wr).mono ?_
      rintro e w3 ⟨v7, rfl, own7, hb7⟩
      obtain ⟨ne, hne⟩ : ∃ ne, ne = (spM t).length := ⟨_, rfl⟩
      rw [← hne] at own7
      obtain ⟨g7, cap7, rfl⟩ := row_some own7 (by rw [hne]; exact List.length_pos_iff.2 (spM_ne t))
      have hbel3 : Below w1.heap.size w1 w3 := hbel.trans (hb7.mono hsz)
      have hsz3 := hbel3.size
      have Hor3 := Lib.hid (own_later Hor.out hb7)
      have HN := Lib.hid hne
      have HC7 : Hid (∀ j, j < ne → w3.cell? ⟨g7, j, none⟩ = (sv (spM t))[j]?) := fun j hj => own7.cellAt j (by omega)
      have Hg7 : Hid (wr.heap.size ≤ g7) := (own7.lt g7 rfl).1
      clear own7 hne hb7
      by_cases h2 : ne = 2
      · subst h2
        obtain ⟨e0, e1, he⟩ : ∃ e0 e1, spM t = [e0, e1] := by
          have h := HN.out
          match hh : spM t with
          | [] => rw [hh] at h; cases h
          | [_] => rw [hh] at h; cases h
          | [a, b] => exact ⟨a, b, rfl⟩
          | _ :: _ :: _ :: _ => rw [hh] at h; simp at h
        have He := Lib.hid he
        have hc0 := HC7.out 0 (by omega)
        have hc1 := HC7.out 1 (by omega)
        rw [he] at hc0 hc1
        obtain ⟨s0, hs0⟩ : ∃ s0 : ByteArray, s0 = ⟨e0.toArray⟩ := ⟨_, rfl⟩
        obtain ⟨s1, hs1'⟩ : ∃ s1 : ByteArray, s1 = ⟨e1.toArray⟩ := ⟨_, rfl⟩
        have z0 : w3.cell? ⟨g7, 0, none⟩ = some (.string s0) := by rw [hc0, hs0]; rfl
        have z1 : w3.cell? ⟨g7, 1, none⟩ = some (.string s1) := by rw [hc1, hs1']; rfl
        have HR0 : Hid (∀ X, Calls Tryd.prog 20 #[.string s0] X fun e w' => ∃ r : Int, e = .returned (.int .i64 r) ∧ Hid (∀ x : UInt8, e0 = [x] → (48 ≤ x.toNat ∧ x.toNat ≤ 57) → r = (x.toNat : Int) - 48) ∧ w' = X) := fun X => by
          rw [hs0]; exact l1Read_ex e0 (by have h1 := mem_le (t := e0) (q := spM t) (by rw [he]; simp); rw [spM_sum] at h1; have := Htl.out; omega) X
        have HR1 : Hid (∀ X, Calls Tryd.prog 20 #[.string s1] X fun e w' => ∃ r : Int, e = .returned (.int .i64 r) ∧ Hid (∀ x : UInt8, e1 = [x] → (48 ≤ x.toNat ∧ x.toNat ≤ 57) → r = (x.toNat : Int) - 48) ∧ w' = X) := fun X => by
          rw [hs1']; exact l1Read_ex e1 (by have h1 := mem_le (t := e1) (q := spM t) (by rw [he]; simp); rw [spM_sum] at h1; have := Htl.out; omega) X
        have HO0 : Hid (∀ o, (w3.alloc o).drew.ownsRow w1.heap.size 42 2 u4 k (cs rs)) := fun o => (Hor3.out.alloc o).drew
        have HNEW : Hid (∀ (a b : Int) (j' : Nat) (u : Value), [Value.int .i64 a, .int .i64 b][j']? = some u → (w3.alloc (.cells #[.int .i64 a, .int .i64 b] 42)).drew.cell? ((⟨w3.heap.size, 0, none⟩ : Addr).add j') = some u) := fun a b => World.news_of_block (cs := #[.int .i64 a, .int .i64 b]) (t := 42) (fr := (0, 0)) (heap_alloc_new _ _)
        have HB0 : Hid (∀ o, Below w1.heap.size w1 (w3.alloc o).drew) := fun o => (hbel3.alloc hsz3 o).drew
        have HONE : Hid (∀ (a b : Int), ∀ u ∈ [Value.int .i64 a, .int .i64 b], u.oneCell' = true) := by intro a b u hu; simp at hu; rcases hu with rfl | rfl <;> rfl
        have HS0 : Hid (w3.drew.cell? ⟨g7, 0, none⟩ = some (.string s0) ∧ w3.drew.cell? ⟨g7, 1, none⟩ = some (.string s1)) := ⟨z0, z1⟩
        have hg7l : g7 < w3.heap.size := World.block_lt_of_cell? _ _ z0
        have HS1 : Hid (∀ o, (w3.alloc o).drew.cell? ⟨g7, 0, none⟩ = some (.string s0) ∧ (w3.alloc o).drew.cell? ⟨g7, 1, none⟩ = some (.string s1)) := fun o =>
          have hb := (Below.refl w3.heap.size w3).alloc (Nat.le_refl _) o
          ⟨(hb.cell (p := ⟨g7, 0, none⟩) hg7l).trans z0, (hb.cell (p := ⟨g7, 1, none⟩) hg7l).trans z1⟩
        have HNE : Hid (u4.ownBlock ≠ some g7) := fun e => by
          have h1 := (Hor.out.lt g7 e).2
          have h2 := Hg7.out
          omega
        clear hc0 hc1 hs0 hs1' he
        go_wp2_with fail
        go_region_held3 (fun w' => w'.cell? ⟨g7, 0, none⟩ = some (.string s0) ∧ w'.cell? ⟨g7, 1, none⟩ = some (.string s1))
          (first | exact HS0.out | exact (HS1.out _) | exact ⟨ka, kb⟩ | go_keep)
          (first
            | (go_at_call_of 20 (Value.string s0); refine (HR0.out _).mono ?_; rintro e w2 ⟨ra, rfl, hra, rfl⟩)
            | (go_at_call_of 20 (Value.string s1); refine (HR1.out _).mono ?_; rintro e w2 ⟨rb, rfl, hrb, rfl⟩)
            | (refine step_append_mine _ (by rfl) _ _ _ (by rfl) w1.heap.size 42 i0 _ 2 16 Tryd.underlying28 hi hz0 hz1 hz2q rfl (by omega) _ k (cs rs) (by rfl) (HO0.out _) ⟨_, 0, none⟩ 1 _ [.int .i64 ra, .int .i64 rb] (by rfl) (by rfl) (HNEW.out ra rb) (HONE.out ra rb) (by unfold maxLen; omega) (by omega) (by simp; omega) ?_
               intro va wa owna gra
               have hba : Below w1.heap.size w1 wa := (HB0.out _).grown gra (by simp; omega) (fun b hb => (Hor3.out.lt b hb).1)
               have ka := grown_cell gra (HS1.out _).1 (fun e => HNE.out e.symm)
               have kb := grown_cell gra (HS1.out _).2 (fun e => HNE.out e.symm))
            | fail)
        all_goals
          have hall2 : Hid ((rs ++ [(ra, rb)]).length = k + 1 ∧ ∀ j, j < k + 1 → goodT (q.getD j []) = true → (rs ++ [(ra, rb)])[j]? = some (cpL (q.getD j []))) := by
            refine ⟨by simp [hall.out.1], fun j hj hgt => ?_⟩
            by_cases hjk : j < k
            · rw [List.getElem?_append_left (by rw [hall.out.1]; exact hjk)]
              exact hall.out.2 j hjk hgt
            · obtain rfl : j = k := by omega
              rw [← Ht.out] at hgt ⊢
              obtain ⟨x, y, hxy, hx, hy⟩ := goodT_shape hgt
              have hsp := spM_dig hx hy
              rw [← hxy, He.out] at hsp
              simp only [List.cons.injEq, and_true] at hsp
              rw [List.getElem?_append_right (by rw [hall.out.1]; exact Nat.le_refl _), hall.out.1, Nat.sub_self, hra.out x hsp.1 hx, hrb.out y hsp.2 hy, hxy]
              rfl
          have hcs : Hid (cs (rs ++ [(ra, rb)]) = cs rs ++ [.int .i64 ra, .int .i64 rb]) := by
            show cs (rs ++ [(ra, rb)]) = _
            rw [cs_append]; rfl
          have Hown := Lib.hid owna
          have Hbel := Lib.hid hba
          clear owna hba ka kb z0 z1
          go_wp2_with fail
          go_roundw
          case rel => exact ⟨k + 1, rs ++ [(ra, rb)], by omega, by go_num, hall2, by rw [hcs.out]; exact Hown.out, Hbel.out⟩
          case measure => simp [intOf]; omega
      · have hno := Hno.out (by
          rw [Bool.eq_false_iff]
          intro e
          obtain ⟨x, y, hxy, hx, hy⟩ := goodT_shape e
          apply h2
          rw [HN.out, hxy, spM_dig hx hy]
          rfl)
        have hR : pRL l = [] := by rw [pRL, hno]; rfl
        have Hnil := Lib.hid (World.ownsRow_nil w3 w.heap.size 42 2)
        have Hno2 := Lib.hid hno
        have HR := Lib.hid hR
        have hz3 : ((ne : Int) != 2) = true := by rw [bne_iff_ne]; omega
        clear hno hR
        go_wp2_with fail
        go_ret2
        rw [Hno2.out, HR.out]
        exact ⟨_, rfl, Hnil.out, hb1.trans (hbel3.mono hs1)⟩
    · obtain rfl : k = m := by omega
      have hlen : k = rs.length := hall.out.1.symm
      obtain ⟨go1, co1, rfl, hc1, _⟩ := own_shape Hor.out hlen
      have Hc1 := Lib.hid hc1
      have Hlen := Lib.hid hlen
      have Hfin : Hid (((gdL 10 rs = true ∧ Lib.join (rs.map qL) [45] = l) ↔ pOKL l = true) ∧ (pOKL l = true → rs = (spF l).map cpL)) := by
        refine final (by rw [← Hlen.out, Hm.out, Hq.out]) ?_
        intro j hj hgt
        rw [← Hq.out] at hgt ⊢
        exact hall.out.2 j (by rw [Hlen.out]; exact hj) hgt
      have Hx := Lib.hid (own_weaken Hor.out hs1)
      cases hgd : gdL 10 rs
      · have hno : pOKL l = false := by
          rw [Bool.eq_false_iff]
          intro e
          have := (Hfin.out.1.2 e).1
          rw [hgd] at this
          cases this
        have hR : pRL l = [] := by rw [pRL, hno]; rfl
        have Hno2 := Lib.hid hno
        have HR := Lib.hid hR
        have Hgd := Lib.hid hgd
        clear hno hR hgd hc1 hlt hk hlen
        go_wp2_with fail
        refine (leGood_any 10 go1 co1 rs k wr Hlen.out (by omega) Hc1.out).mono ?_
        rintro e w5 ⟨rfl, hb5⟩
        rw [Hgd.out]
        have Hnil := Lib.hid (World.ownsRow_nil w5 w.heap.size 42 2)
        go_wp2_with fail
        go_ret2
        rw [Hno2.out, HR.out]
        exact ⟨_, rfl, Hnil.out, (hb1.trans (hbel.mono hs1)).trans (hb5.mono (hb1.trans (hbel.mono hs1)).size)⟩
      · have Hgd := Lib.hid hgd
        have hk60 : k ≤ 60 := by rw [hlen]; exact gl_len2 hgd
        have Hdig : Hid (∀ j, j < k → (0 ≤ ca rs j ∧ ca rs j < 10) ∧ (0 ≤ cb rs j ∧ cb rs j < 10)) := fun j hj => by
          have := gl_letter Hgd.out (by rw [← Hlen.out]; exact hj)
          omega
        clear hgd hc1 hlt hk hlen
        go_wp2_with fail
        refine (leGood_any 10 go1 co1 rs k wr Hlen.out (by omega) Hc1.out).mono ?_
        rintro e w5 ⟨rfl, hb5⟩
        rw [Hgd.out]
        have Hx5 := Lib.hid (own_later Hx.out hb5)
        have Hb5 : Hid (Below w.heap.size w w5) := (hb1.trans (hbel.mono hs1)).trans (hb5.mono (hb1.trans (hbel.mono hs1)).size)
        have Hc5 := Lib.hid (Hc1.out.kept hb5)
        clear hb5
        go_wp2_with fail
        refine (leText_any w5 go1 co1 rs k Hlen.out hk60 Hc5.out Hdig).mono ?_
        rintro e w6 ⟨s', rfl, hs', hb6⟩
        have Hx6 := Lib.hid (own_later Hx5.out hb6)
        have Hb6 : Hid (Below w.heap.size w w6) := Hb5.out.trans (hb6.mono Hb5.out.size)
        have Hs' : Hid (s'.data.toList = Lib.join (rs.map qL) [45]) := by
          show s'.data.toList = _
          rw [hs', tx_join qL rs k (by rw [Hlen.out]; exact Nat.le_refl _), List.take_of_length_le (by rw [Hlen.out]; exact Nat.le_refl _)]
        clear hb6 hs'
        by_cases heq : s' = s
        · have hyes : pOKL l = true := Hfin.out.1.1 ⟨Hgd.out, by rw [← Hs'.out, heq, Hl.out]⟩
          have hR : pRL l = rs := by rw [pRL, if_pos hyes, Hfin.out.2 hyes]
          have Hyes := Lib.hid hyes
          have HR := Lib.hid hR
          clear hyes hR
          subst heq
          go_wp2_with fail
          go_ret2
          rw [Hyes.out, HR.out, ← Hlen.out]
          exact ⟨_, rfl, Hx6.out, Hb6.out⟩
        · have hneq : (s'.toList == s.toList) = false := by
            rw [beq_eq_false_iff_ne, ByteArray.toList_eq, ByteArray.toList_eq]
            intro e
            apply heq
            apply ByteArray.ext
            exact Array.toList_inj.1 e
          have hno : pOKL l = false := by
            rw [Bool.eq_false_iff]
            intro e
            apply heq
            have := (Hfin.out.1.2 e).2
            rw [← Hs'.out, Hl.out] at this
            apply ByteArray.ext
            exact Array.toList_inj.1 this
          have hR : pRL l = [] := by rw [pRL, hno]; rfl
          have Hno2 := Lib.hid hno
          have HR := Lib.hid hR
          have Hnil := Lib.hid (World.ownsRow_nil w6 w.heap.size 42 2)
          clear hno hR
          go_wp2_with fail
          go_ret2
          rw [Hno2.out, HR.out]
          exact ⟨_, rfl, Hnil.out, Hb6.out⟩

end Go.Proofs.YtfbkpdmphlgokaaDoor
