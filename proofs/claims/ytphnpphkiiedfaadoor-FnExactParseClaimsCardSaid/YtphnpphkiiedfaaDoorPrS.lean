/- What claims a text is of: the model. -/
import Derived.Test.YtphnpphkiiedfaaDoorSpl
namespace Go.Proofs.YtphnpphkiiedfaaDoor
open Go.ChangeShapes Go.WideShapes Go.ChangeAt Go.RowKit
set_option linter.unusedVariables false


theorem infoCL : (Tryd.prog.info? 37).map (fun i => (i.zero, i.size, i.bytes)) = some (some (.agg #[.int .i64 0, .int .i64 0, .bool false]), 3, 24) := by kernel_rfl

theorem own_base2 {w : World} {base base' : Nat} {e : TypeId} {size : Nat} {v : Value} {n : Nat} {xs : List Value} (h : w.ownsRow base e size v n xs) (hb : base' ≤ base) : w.ownsRow base' e size v n xs := by
  refine ⟨h.1, ?_⟩
  rcases h.2 with h2 | ⟨g, cap, cur, h1, h3, h4⟩
  · exact .inl h2
  · exact .inr ⟨g, cap, cur, h1, Nat.le_trans hb h3, h4⟩
theorem row_some {w : World} {base e size n : Nat} {v : Value} {xs : List Value} (h : w.ownsRow base e size v n xs) (hn : 0 < n) : ∃ g cap, v = .slice (some ⟨g, 0, none⟩) n cap := by
  rcases h.2 with ⟨rfl, h0⟩ | ⟨g, cap, cur, rfl, _⟩
  · omega
  · exact ⟨g, cap, rfl⟩
theorem step_append_mine {P : Program} (w : World) {ops : Array Oper} {o : Oper} {a : Act} {K : Act → World → Prop} {Q : Exit → Act → World → Prop} {E : Prop} (hgd : o.guard = none) (s x : Operand) (t : TypeId)
    (ho : o.op = .call { callee := .builtin .append, args := #[s, x], argTypes := #[t, t] })
    (base : Nat) (e : TypeId) (i : TypeInfo) (z : Value) (size bytes : Nat) (ht : P.underlying t = some (.slice e)) (hi : P.info? e = some i) (hz : i.zero = some z)
    (hsize : i.size = size) (hby : i.bytes = bytes) (hzs : z.cells.size = size) (hsz : 0 < size)
    (v : Value) (n : Nat) (xs : List Value) (hs : a.eval s = v) (hown : w.ownsRow base e size v n xs)
    (ad : Addr) (m c : Nat) (news : List Value) (hx : a.eval x = .slice (some ad) m c) (hl : news.length = m * size) (hnews : ∀ j u, news[j]? = some u → w.cell? (ad.add j) = some u) (h1 : ∀ u ∈ news, u.oneCell' = true)
    (h63 : n + m ≤ maxLen) (hbytes : (n + m) * bytes ≤ 140737488355328) (hbase : base ≤ w.heap.size)
    (h : ∀ v' w', w'.ownsRow base e size v' (n + m) (xs ++ news) → w.grownBy w' v.ownBlock → K (a.put o.dst v') w') :
    if Region.wanted o (yielded ops a.tmps) = true then Oper.wp P o a w K Q else E := by
  have hw : Region.wanted o (yielded ops a.tmps) = true := by simp [Region.wanted, hgd]
  rw [if_pos hw]
  exact wp_append_own w s x t ho base e i z size bytes ht hi hz hsize hby hzs hsz v n xs hs hown ad m c news hx hl hnews h1 h63 hbytes hbase fun v' w' h2 h3 _ => h v' w' h2 h3


set_option maxHeartbeats 4000000 in
set_option maxRecDepth 20000 in
theorem specPC_loop (s : ByteArray) (l : List UInt8) (Hl : Hid (l = s.data.toList)) (n : Nat) (Hn : Hid (n = s.size)) (h0 : 0 < n) (hs : n ≤ 80) (w : World) :
    Calls Tryd.prog 10 #[.string s] w fun e w' => ∃ v, e = .returned (.tuple #[v, .bool (pOK l)]) ∧ w'.ownsRow w.heap.size 37 3 v (pR l).length (ss (pR l)) ∧ Below w.heap.size w w' := by
  obtain ⟨i0, hi, hz0, hz1, hz2q⟩ := info_parts infoCL
  have HNE := Lib.hid (nonempty_of Hl.out (by rw [← Hn.out]; exact h0)).2
  obtain ⟨q, hq⟩ : ∃ q, q = spF l := ⟨_, rfl⟩
  obtain ⟨m, hm⟩ : ∃ m, m = q.length := ⟨_, rfl⟩
  have hll : l.length = n := by rw [Hl.out, Hn.out]; simp
  have hm1 : 0 < m := by rw [hm, hq]; exact List.length_pos_iff.2 (spF_ne l)
  have hm2 : m ≤ 81 := by rw [hm, hq]; have := spF_le l; omega
  have Hq := Lib.hid hq
  have Hm := Lib.hid hm
  have Hok : Hid (pOK l = iOK q) := Lib.hid (by rw [pOK, hll, ← hq, show decide (n ≤ 80) = true by simpa using hs, Bool.true_and])
  clear hq hm
  have hs80 : ¬ (80 : Int) < (s.size : Int) := by have := Hn.out; omega
  have hs0 : (0 : Int) < (s.size : Int) := by have := Hn.out; omega
  go_enter Tryd.func10, Tryd.ntmps10
  go_wp2_with fail
  refine (l1Split_any s l Hl n Hn (by omega) w).mono ?_
  rintro e w1 ⟨v1, rfl, own1, hb1⟩
  rw [← Hq.out, ← Hm.out] at own1
  obtain ⟨g, cap1, rfl⟩ := row_some own1 hm1
  have hs1 := hb1.size
  have Hcell : Hid (∀ j, j < m → w1.cell? ⟨g, 0 + j, none⟩ = some (.string ⟨(q.getD j []).toArray⟩)) := fun j hj => by
    rw [Nat.zero_add, own1.cellAt j (by omega)]
    have hjq : j < q.length := by rw [← Hm.out]; exact hj
    simp [sv, List.getD_eq_getElem?_getD, hjq]
  have hg1 := (own1.lt g rfl).2
  clear own1
  go_wp2_with fail
  go_loopw [4, 16] (fun v i wr => ∃ k : Nat, k ≤ m ∧ i = .int .i64 k ∧ Hid ((q.take k).all tri = true) ∧ wr.ownsRow w1.heap.size 37 3 v k (ss ((q.take k).map cp)) ∧ Below w1.heap.size w1 wr) (fun _ i _ => m - (intOf i).toNat)
  case atStart => exact ⟨0, Nat.zero_le _, rfl, rfl, World.ownsRow_nil _ _ _ _, Below.refl _ _⟩
  case round =>
    obtain ⟨k, hk, rfl, hall, hor, hbel⟩ := hrel
    have hsz := hbel.size
    have Hor := Lib.hid hor
    clear hor
    by_cases hlt : k < m
    · skip
      have hz := (hbel.cell (p := ⟨g, 0 + k, none⟩) hg1).trans (Hcell.out k hlt)
      obtain ⟨t, ht⟩ : ∃ t, t = q.getD k [] := ⟨_, rfl⟩
      rw [← ht] at hz
      rw [Nat.zero_add] at hz
      have hjq : k < q.length := by rw [← Hm.out]; exact hlt
      have htk : Hid (q.take (k + 1) = q.take k ++ [t]) := by
        show q.take (k + 1) = q.take k ++ [t]
        rw [List.take_succ_eq_append_getElem hjq, ht]
        simp [List.getD_eq_getElem?_getD, hjq]
      have Htq : Hid (t ∈ q) := by
        show t ∈ q
        rw [ht]
        simp [List.getD_eq_getElem?_getD, hjq]
      have Hno : Hid (tri t = false → pOK l = false) := Lib.hid (fun h => by
        have hq : q.all tri = false := by
          rw [List.all_eq_false]; exact ⟨t, Htq.out, by rw [h]; simp⟩
        rw [Hok.out, iOK, hq]; rfl)
      obtain ⟨sk, hsk⟩ : ∃ sk : ByteArray, sk = ⟨t.toArray⟩ := ⟨_, rfl⟩
      rw [← hsk] at hz
      have hskz : sk.size = t.length := by rw [hsk, piece_size]
      have b0 : (0 : Int) ≤ (k : Int) := by omega
      have b1 : (k : Int) < (m : Int) := by omega
      clear ht hjq
      by_cases h2 : t.length = 3
      · have hz2 : sk.size = 3 := by omega
        have c0 : 0 < sk.size := by omega
        have c1 : 1 < sk.size := by omega
        have c2 : 2 < sk.size := by omega
        obtain ⟨x0, hx0⟩ : ∃ x0 : Int, x0 = ((t.getD 0 0).toNat : Int) := ⟨_, rfl⟩
        obtain ⟨x1, hx1⟩ : ∃ x1 : Int, x1 = ((t.getD 1 0).toNat : Int) := ⟨_, rfl⟩
        obtain ⟨x2, hx2⟩ : ∃ x2 : Int, x2 = ((t.getD 2 0).toNat : Int) := ⟨_, rfl⟩
        have hix0 : ∀ W : World, (Instr.index 9 (.string sk) (.int .i64 0)).run Tryd.prog W = .ok (.int .u8 x0) W := fun W => by
          rw [run_index_string W 9 sk .i64 0 Tryd.underlying9, dif_pos (by omega), hx0]
          subst hsk
          rw [← piece_get t 0 c0]
          rfl
        have hix1 : ∀ W : World, (Instr.index 9 (.string sk) (.int .i64 1)).run Tryd.prog W = .ok (.int .u8 x1) W := fun W => by
          rw [run_index_string W 9 sk .i64 1 Tryd.underlying9, dif_pos (by omega), hx1]
          subst hsk
          rw [← piece_get t 1 c1]
          rfl
        have hix2 : ∀ W : World, (Instr.index 9 (.string sk) (.int .i64 2)).run Tryd.prog W = .ok (.int .u8 x2) W := fun W => by
          rw [run_index_string W 9 sk .i64 2 Tryd.underlying9, dif_pos (by omega), hx2]
          subst hsk
          rw [← piece_get t 2 c2]
          rfl
        have v0 : IntKind.i64.wrap x0 = x0 := by rw [hx0]; exact wrapb _
        have v2' : IntKind.i64.wrap x2 = x2 := by rw [hx2]; exact wrapb _
        have w0 : IntKind.i64.wrap (x0 - 48) = (cp t).1 := by rw [hx0, wrap48]; rfl
        have w2' : IntKind.i64.wrap (x2 - 48) = (cp t).2.1 := by rw [hx2, wrap48]; rfl
        obtain ⟨a, ha⟩ : ∃ a, a = (cp t).1 := ⟨_, rfl⟩
        obtain ⟨b, hb⟩ : ∃ b, b = (cp t).2.1 := ⟨_, rfl⟩
        rw [← ha] at w0
        rw [← hb] at w2'
        skip
        by_cases h61 : x1 = 61
        · have ht1 : t.getD 1 0 = 61 := UInt8.toNat_inj.1 (by show (t.getD 1 0).toNat = 61; omega)
          have hz1 : (cp t).2.2 = true := by show (t.getD 1 0 == 61) = true; rw [ht1]; rfl
          have htri : tri t = true := by unfold tri; rw [h2, ht1]; rfl
          subst h61
          have hall2 : Hid ((q.take (k + 1)).all tri = true) := Lib.hid (by rw [htk.out, List.all_append, hall.out, Bool.true_and]; simp [htri])
          have hcs : Hid (ss ((q.take (k + 1)).map cp) = ss ((q.take k).map cp) ++ [.int .i64 a, .int .i64 b, .bool true]) := by
            show ss ((q.take (k + 1)).map cp) = _
            rw [htk.out, List.map_append, ss_append, List.map_cons, List.map_nil, ha, hb, ← hz1]; rfl
          clear htri ht1 hz1 ha hb hsk hskz h2 hx0 hx1 hx2 c0 c1 c2 Hno
          have HNEW : Hid (∀ j' u, [Value.int .i64 a, .int .i64 b, .bool true][j']? = some u → (wr.alloc (.cells #[.int .i64 a, .int .i64 b, .bool true] 37)).drew.cell? ((⟨wr.heap.size, 0, none⟩ : Addr).add j') = some u) := World.news_of_block (cs := #[.int .i64 a, .int .i64 b, .bool true]) (t := 37) (fr := (0, 0)) (heap_alloc_new _ _)
          have HONE : Hid (∀ u ∈ [Value.int .i64 a, .int .i64 b, .bool true], u.oneCell' = true) := by intro u hu; simp at hu; rcases hu with rfl | rfl | rfl <;> rfl
          have HB0 : Hid (∀ o, Below w1.heap.size w1 (wr.alloc o).drew) := fun o => (hbel.alloc hsz _).drew
          have HO0 : Hid ((wr.alloc (.cells #[.int .i64 a, .int .i64 b, .bool true] 37)).drew.ownsRow w1.heap.size 37 3 u4 k (ss ((q.take k).map cp))) := (Hor.out.alloc _).drew
          go_wp2_with fail
          go_region_held3 (fun w' => Below w1.heap.size w1 w')
            (first | exact hbel.drew | exact hbel | exact (HB0.out _) | assumption | go_keep)
            (first
              | (refine step_append_mine _ (by rfl) _ _ _ (by rfl) w1.heap.size 37 i0 _ 3 24 Tryd.underlying26 hi hz0 hz1 hz2q rfl (by omega) _ k (ss ((q.take k).map cp)) (by rfl) HO0.out ⟨wr.heap.size, 0, none⟩ 1 _ [.int .i64 a, .int .i64 b, .bool true] (by rfl) (by rfl) HNEW.out HONE.out (by unfold maxLen; omega) (by omega) (by simp; omega) ?_
                 intro va wa owna gra
                 have hba : Below w1.heap.size w1 wa := (HB0.out _).grown gra (by simp; omega) (fun b hb => (Hor.out.lt b hb).1))
              | fail)
          all_goals
            have Hown := Lib.hid owna
            have Hbel := Lib.hid hba
            clear owna hba
            go_wp2_with fail
            go_roundw
            case rel => exact ⟨k + 1, by omega, by go_num, hall2, by rw [hcs.out]; exact Hown.out, Hbel.out⟩
            case measure => simp [intOf]; omega
        · by_cases h35 : x1 = 35
          · have ht1 : t.getD 1 0 = 35 := UInt8.toNat_inj.1 (by show (t.getD 1 0).toNat = 35; omega)
            have hz1 : (cp t).2.2 = false := by show (t.getD 1 0 == 61) = false; rw [ht1]; rfl
            have htri : tri t = true := by unfold tri; rw [h2, ht1]; rfl
            subst h35
            have hall2 : Hid ((q.take (k + 1)).all tri = true) := Lib.hid (by rw [htk.out, List.all_append, hall.out, Bool.true_and]; simp [htri])
            have hcs : Hid (ss ((q.take (k + 1)).map cp) = ss ((q.take k).map cp) ++ [.int .i64 a, .int .i64 b, .bool false]) := by
              show ss ((q.take (k + 1)).map cp) = _
              rw [htk.out, List.map_append, ss_append, List.map_cons, List.map_nil, ha, hb, ← hz1]; rfl
            clear htri ht1 hz1 ha hb hsk hskz h2 hx0 hx1 hx2 c0 c1 c2 Hno
            have HNEW : Hid (∀ j' u, [Value.int .i64 a, .int .i64 b, .bool false][j']? = some u → (wr.alloc (.cells #[.int .i64 a, .int .i64 b, .bool false] 37)).drew.cell? ((⟨wr.heap.size, 0, none⟩ : Addr).add j') = some u) := World.news_of_block (cs := #[.int .i64 a, .int .i64 b, .bool false]) (t := 37) (fr := (0, 0)) (heap_alloc_new _ _)
            have HONE : Hid (∀ u ∈ [Value.int .i64 a, .int .i64 b, .bool false], u.oneCell' = true) := by intro u hu; simp at hu; rcases hu with rfl | rfl | rfl <;> rfl
            have HB0 : Hid (∀ o, Below w1.heap.size w1 (wr.alloc o).drew) := fun o => (hbel.alloc hsz _).drew
            have HO0 : Hid ((wr.alloc (.cells #[.int .i64 a, .int .i64 b, .bool false] 37)).drew.ownsRow w1.heap.size 37 3 u4 k (ss ((q.take k).map cp))) := (Hor.out.alloc _).drew
            go_wp2_with fail
            go_region_held3 (fun w' => Below w1.heap.size w1 w')
              (first | exact hbel.drew | exact hbel | exact (HB0.out _) | assumption | go_keep)
              (first
                | (refine step_append_mine _ (by rfl) _ _ _ (by rfl) w1.heap.size 37 i0 _ 3 24 Tryd.underlying26 hi hz0 hz1 hz2q rfl (by omega) _ k (ss ((q.take k).map cp)) (by rfl) HO0.out ⟨wr.heap.size, 0, none⟩ 1 _ [.int .i64 a, .int .i64 b, .bool false] (by rfl) (by rfl) HNEW.out HONE.out (by unfold maxLen; omega) (by omega) (by simp; omega) ?_
                   intro va wa owna gra
                   have hba : Below w1.heap.size w1 wa := (HB0.out _).grown gra (by simp; omega) (fun b hb => (Hor.out.lt b hb).1))
                | fail)
            all_goals
              have Hown := Lib.hid owna
              have Hbel := Lib.hid hba
              clear owna hba
              go_wp2_with fail
              go_roundw
              case rel => exact ⟨k + 1, by omega, by go_num, hall2, by rw [hcs.out]; exact Hown.out, Hbel.out⟩
              case measure => simp [intOf]; omega
          · have htri : tri t = false := by
              have e1 : (t.getD 1 0 == 61) = false := by rw [beq_eq_false_iff_ne]; intro e; rw [e] at hx1; exact h61 hx1
              have e2 : (t.getD 1 0 == 35) = false := by rw [beq_eq_false_iff_ne]; intro e; rw [e] at hx1; exact h35 hx1
              unfold tri; rw [e1, e2]; simp
            skip
            have Hno2 := Lib.hid (Hno.out htri)
            have hn61 : (x1 != 61) = true := by rw [bne_iff_ne]; exact h61
            have hn35 : (x1 != 35) = true := by rw [bne_iff_ne]; exact h35
            have Hnil := Lib.hid (World.ownsRow_nil wr w.heap.size 37 3)
            clear htri ha hb hsk hskz h2 hx0 hx1 hx2 c0 c1 c2 w0 w2' v0 v2' h61 h35 Hno
            go_wp2_with fail
            go_ret2
            rw [Hno2.out, pR_no Hno2.out]
            exact ⟨_, rfl, Hnil.out, hb1.trans (hbel.mono hs1)⟩
      · have Hno2 := Lib.hid (Hno.out (by unfold tri; rw [beq_eq_false_iff_ne.2 h2]; rfl))
        have Hnil := Lib.hid (World.ownsRow_nil wr w.heap.size 37 3)
        have hz3 : ((sk.size : Int) != 3) = true := by rw [bne_iff_ne]; omega
        clear Hno
        go_wp2_with fail
        go_ret2
        rw [Hno2.out, pR_no Hno2.out]
        exact ⟨_, rfl, Hnil.out, hb1.trans (hbel.mono hs1)⟩

    · obtain rfl : k = m := by omega
      have e : q.take k = q := List.take_of_length_le (by rw [Hm.out]; exact Nat.le_refl _)
      rw [e] at hall Hor
      have hlen : k = (q.map cp).length := by rw [List.length_map, ← Hm.out]
      obtain ⟨go1, co1, rfl, hc1, _, _⟩ := sown_shape Hor.out hlen
      have HGd := Lib.hid (liGood_any wr 8 go1 co1 (q.map cp) k (Lib.hid hlen) (by omega) hc1)
      have Hx := Lib.hid (own_base2 Hor.out hs1)
      have Hlen := Lib.hid hlen
      have Hi : Hid (iOK q = clB 8 (q.map cp)) := Lib.hid (by rw [iOK, hall.out, Bool.true_and])
      cases hgd : clB 8 (q.map cp)
      · have Hno2 : Hid (pOK l = false) := Lib.hid (by rw [Hok.out, Hi.out, hgd])
        rw [hgd] at HGd
        clear hgd hc1 e hlt hk hlen
        go_wp2_with fail
        refine HGd.out.mono ?_
        rintro e w5 ⟨rfl, hb5⟩
        have Hnil := Lib.hid (World.ownsRow_nil w5 w.heap.size 37 3)
        go_wp2_with fail
        go_ret2
        rw [Hno2.out, pR_no Hno2.out]
        exact ⟨_, rfl, Hnil.out, (hb1.trans (hbel.mono hs1)).trans (hb5.mono (hb1.trans (hbel.mono hs1)).size)⟩
      · have Hyes : Hid (pOK l = true ∧ pR l = q.map cp) := Lib.hid (by exact ⟨by rw [Hok.out, Hi.out, hgd], by rw [pR_yes HNE.out (by rw [Hok.out, Hi.out, hgd]), Hq.out]⟩)
        rw [hgd] at HGd
        clear hgd hc1 e hlt hk hlen
        go_wp2_with fail
        refine HGd.out.mono ?_
        rintro e w5 ⟨rfl, hb5⟩
        have Hx5 := Lib.hid (own_later Hx.out hb5)
        go_wp2_with fail
        go_ret2
        rw [Hyes.out.1, Hyes.out.2, ← Hlen.out]
        exact ⟨_, rfl, Hx5.out, (hb1.trans (hbel.mono hs1)).trans (hb5.mono (hb1.trans (hbel.mono hs1)).size)⟩

theorem specPC_any (s : ByteArray) (l : List UInt8) (Hl : Hid (l = s.data.toList)) (w : World) :
    Calls Tryd.prog 10 #[.string s] w fun e w' => ∃ v, e = .returned (.tuple #[v, .bool (pB l)]) ∧ w'.ownsRow w.heap.size 37 3 v (pR l).length (ss (pR l)) ∧ Below w.heap.size w w' := by
  by_cases h0 : s.size = 0
  · obtain ⟨he, hl⟩ := empty_of Hl.out h0
    have hr : pR l = [] := by rw [hl]; rfl
    have hb : pB l = true := by rw [hl]; rfl
    rw [hb, hr]
    have HG := Lib.hid (liGood_any w 8 none 0 [] 0 (Lib.hid rfl) (by omega) (.inl rfl))
    have hc : clB 8 [] = true := rfl
    rw [hc] at HG
    have Hnil := Lib.hid (fun w' => World.ownsRow_nil w' w.heap.size 37 3)
    clear hl hr hb he hc
    go_enter Tryd.func10, Tryd.ntmps10
    go_wp2_with fail
    refine HG.out.mono ?_
    rintro e w1 ⟨rfl, hb1⟩
    go_wp2_with fail
    go_ret2
    exact ⟨_, rfl, Hnil.out _, hb1⟩
  · obtain ⟨he, hl⟩ := nonempty_of Hl.out (by omega)
    by_cases h1 : s.size ≤ 80
    · rw [pB_some hl]
      exact specPC_loop s l Hl s.size rfl (by omega) h1 w
    · have hp : pOK l = false := by
        have : l.length = s.size := by rw [Hl.out]; simp
        rw [pOK, show decide (l.length ≤ 80) = false by simp; omega]; rfl
      rw [pB_some hl, hp, pR_no hp]
      have Hnil := Lib.hid (World.ownsRow_nil w w.heap.size 37 3)
      have hbig : (80 : Int) < (s.size : Int) := by omega
      clear hp hl h1 h0
      go_enter Tryd.func10, Tryd.ntmps10
      go_wp2_with fail
      go_ret2
      exact ⟨_, rfl, Hnil.out, Below.refl _ _⟩

end Go.Proofs.YtphnpphkiiedfaaDoor
