/- What calls a text is of: the program. -/
import Derived.Test.YtjldfdaaoeomdaaDoorParseS
import Derived.Test.YtjldfdaaoeomdaaDoorShelf
namespace Go.Proofs.YtjldfdaaoeomdaaDoor
open Go.ChangeShapes Go.WideShapes Go.ChangeAt Go.RowKit
set_option linter.unusedVariables false


theorem step_append_mine {P : Program} (w : World) {ops : Array Oper} {o : Oper} {a : Act} {K : Act → World → Prop} {Q : Exit → Act → World → Prop} {E : Prop} (hgd : o.guard = none) (s x : Operand) (t : TypeId)
    (ho : o.op = .call { callee := .builtin .append, args := #[s, x], argTypes := #[t, t] })
    (base : Nat) (e : TypeId) (i : TypeInfo) (z : Value) (size bytes : Nat) (ht : P.underlying t = some (.slice e)) (hi : P.info? e = some i) (hz : i.zero = some z)
    (hsize : i.size = size) (hby : i.bytes = bytes) (hzs : z.cells.size = size) (hsz : 0 < size)
    (v : Value) (n : Nat) (xs : List Value) (hs : a.eval s = v) (hown : w.ownsRow base e size v n xs)
    (ad : Addr) (m c : Nat) (news : List Value) (hx : a.eval x = .slice (some ad) m c) (hl : news.length = m * size) (hnews : ∀ j u, news[j]? = some u → w.cell? (ad.add j) = some u) (h1 : ∀ u ∈ news, u.oneCell' = true)
    (h63 : n + m ≤ maxLen) (hbytes : (n + m) * bytes ≤ 140737488355328) (hbase : base ≤ w.heap.size)
    (h : ∀ v' w', w'.ownsRow base e size v' (n + m) (xs ++ news) → w.grownBy w' v.ownBlock → K (a.put o.dst v') w') :
    if Region.wanted o (yielded ops a.tmps) = true then Oper.wp P o a w K Q else E := by
  have hw : Region.wanted o (yielded ops a.tmps) = true := by simp [Region.wanted, hgd]
  rw [if_pos hw]
  exact wp_append_own w s x t ho base e i z size bytes ht hi hz hsize hby hzs hsz v n xs hs hown ad m c news hx hl hnews h1 h63 hbytes hbase fun v' w' h2 h3 _ => h v' w' h2 h3

theorem qOf_splitB (s : ByteArray) (l : List UInt8) (h : l = s.data.toList) : (Lib.splitB ⟨#[45]⟩ 0 (min 61 (s.size + 1) - 1) s).map (·.data.toList) = qOf l := by
  rw [Lib.splitB_data, qOf, h]
  have : s.data.toList.length = s.size := by simp
  rw [this]
theorem qOf_ne (l : List UInt8) : qOf l ≠ [] := by
  unfold qOf
  cases hk : min 61 (l.length + 1) - 1 with
  | zero => simp [Lib.splitK]
  | succ k => unfold Lib.splitK; split <;> simp
theorem ba_mk (x : ByteArray) : (⟨x.data.toList.toArray⟩ : ByteArray) = x := by
  apply ByteArray.ext; simp
theorem pR_iOK {l : List UInt8} (h : iOK (qOf l) = true) : pR l = (qOf l).map cp := by
  have h2 := iOK_pOK l
  rw [h] at h2
  rw [pR, ← h2.1, if_pos rfl, h2.2 h2.1.symm]
theorem pR_iNo {l : List UInt8} (h : iOK (qOf l) = false) : pR l = [] := by
  have h2 := iOK_pOK l
  rw [h] at h2
  rw [pR, ← h2.1]; rfl

set_option maxRecDepth 20000 in
set_option maxHeartbeats 4000000 in
theorem implPC_loop (s : ByteArray) (l : List UInt8) (Hl : Hid (l = s.data.toList)) (n : Nat) (Hn : Hid (n = s.size)) (h0 : 0 < n) (hs : n ≤ 1048576) (w : World) (Hm0 : Hid (∃ m : Int, w.cell? ⟨0, 0, none⟩ = some (.int .i64 m))) :
    Calls Tryd.prog 24 #[.string s] w fun e w' => ∃ v, e = .returned (.tuple #[v, .bool (pOK l)]) ∧ w'.ownsRow w.heap.size 50 2 v (pR l).length (cs (pR l)) ∧ Below w.heap.size w w' := by
  obtain ⟨i0, hi, hz0, hz1, hz2q⟩ := info_parts info50
  obtain ⟨mm, hmm⟩ := Hm0.out
  obtain ⟨hne, _⟩ := nonempty_of Hl.out (by rw [← Hn.out]; exact h0)
  obtain ⟨qb, hqb⟩ : ∃ qb, qb = Lib.splitB ⟨#[45]⟩ 0 (min 61 (s.size + 1) - 1) s := ⟨_, rfl⟩
  obtain ⟨q, hq⟩ : ∃ q, q = qOf l := ⟨_, rfl⟩
  have hqq : qb.map (·.data.toList) = q := by rw [hqb, hq]; exact qOf_splitB s l Hl.out
  obtain ⟨m, hm⟩ : ∃ m, m = q.length := ⟨_, rfl⟩
  obtain ⟨cap1, hcap1⟩ : ∃ c, c = min 61 (s.size + 1) := ⟨_, rfl⟩
  have hmq : qb.length = m := by rw [hm, ← hqq, List.length_map]
  have hm1 : 0 < m := by rw [hm, hq]; exact List.length_pos_iff.2 (qOf_ne l)
  have hle : m ≤ cap1 := by
    have := Lib.splitB_length_le ⟨#[45]⟩ 0 (min 61 (s.size + 1) - 1) s
    rw [← hqb, hmq] at this
    omega
  have hm2 : m ≤ 61 := by omega
  have Hsp := Lib.hid (split_any s ⟨#[45]⟩ 61 mm w (by have := Hn.out; omega) hmm (by decide) (by decide) (by decide))
  rw [← hqb, ← hcap1, hmq] at Hsp
  have Hq := Lib.hid hq
  have Hm := Lib.hid hm
  have Hqq := Lib.hid hqq
  have Hmq := Lib.hid hmq
  obtain ⟨w1, hw1⟩ : ∃ w1, w1 = w.alloc (.cells (Lib.cellsOf qb cap1) 9) := ⟨_, rfl⟩
  rw [← hw1] at Hsp
  obtain ⟨g, hg⟩ : ∃ g, g = w.heap.size := ⟨_, rfl⟩
  have hb1 : Below w.heap.size w w1 := by rw [hw1]; exact (Below.refl _ _).alloc (Nat.le_refl _) _
  have hs1 := hb1.size
  have hg1 : g < w1.heap.size := by rw [hw1, hg]; simp
  have Hcell : Hid (∀ j, j < m → w1.cell? ⟨g, 0 + j, none⟩ = some (.string ⟨(q.getD j []).toArray⟩)) := fun j hj => by
    have hnew := heap_alloc_new w (.cells (Lib.cellsOf qb cap1) 9)
    rw [← hw1, ← hg] at hnew
    have hjb : j < qb.length := by rw [Hmq.out]; exact hj
    have hget : (Lib.cellsOf qb cap1)[j]? = some (.string qb[j]) := by
      simp [Lib.cellsOf, List.getElem?_append_left, hjb]
    have e1 : q.getD j [] = qb[j].data.toList := by rw [← Hqq.out]; simp [List.getD_eq_getElem?_getD, hjb]
    rw [Nat.zero_add, e1, ba_mk]
    exact cell_of_row w1 g j _ _ _ hnew |>.trans hget
  have Hsp2 : Hid (Calls Tryd.prog 23 #[.string s, .string ⟨#[45]⟩, .int .i64 61] w fun e w' => e = .returned (.slice (some ⟨g, 0, none⟩) m cap1) ∧ w' = w1) := by
    rw [hg]; exact Hsp.out
  clear Hsp hw1 hg hq hm hqq hmq hqb hcap1
  go_enter Tryd.func24, Tryd.ntmps24
  go_wp2_with fail
  refine Hsp2.out.mono ?_
  rintro e w1' ⟨rfl, rfl⟩
  go_wp2_with fail
  go_loopw [4, 12] (fun v i wr => ∃ k : Nat, k ≤ m ∧ i = .int .i64 k ∧ Hid ((q.take k).all (fun t => t.length == 2) = true) ∧ wr.ownsRow w1'.heap.size 50 2 v k (cs ((q.take k).map cp)) ∧ Below w1'.heap.size w1' wr) (fun _ i _ => m - (intOf i).toNat)
  case atStart => exact ⟨0, Nat.zero_le _, rfl, rfl, World.ownsRow_nil _ _ _ _, Below.refl _ _⟩
  case round =>
    obtain ⟨k, hk, rfl, hall, hor, hbel⟩ := hrel
    have hsz := hbel.size
    have Hor := Lib.hid hor
    clear hor
    by_cases hlt : k < m
    · have hz := (hbel.cell (p := ⟨g, 0 + k, none⟩) hg1).trans (Hcell.out k hlt)
      obtain ⟨t, ht⟩ : ∃ t, t = q.getD k [] := ⟨_, rfl⟩
      rw [← ht] at hz
      rw [Nat.zero_add] at hz
      have hjq : k < q.length := by rw [← Hm.out]; exact hlt
      have htk : Hid (q.take (k + 1) = q.take k ++ [t]) := by
        show q.take (k + 1) = q.take k ++ [t]
        rw [List.take_succ_eq_append_getElem hjq, ht]
        simp [List.getD_eq_getElem?_getD, hjq]
      have Htq : Hid (t ∈ q) := by
        show t ∈ q
        rw [ht]
        simp [List.getD_eq_getElem?_getD, hjq]
      obtain ⟨sk, hsk⟩ : ∃ sk : ByteArray, sk = ⟨t.toArray⟩ := ⟨_, rfl⟩
      rw [← hsk] at hz
      have hskz : sk.size = t.length := by rw [hsk, piece_size]
      have b0 : (0 : Int) ≤ (k : Int) := by omega
      have b1 : (k : Int) < (m : Int) := by omega
      clear ht hjq
      by_cases h2 : t.length = 2
      · have hz2 : sk.size = 2 := by omega
        have c0 : 0 < sk.size := by omega
        have c1 : 1 < sk.size := by omega
        obtain ⟨x0, hx0⟩ : ∃ x0 : Int, x0 = ((t.getD 0 0).toNat : Int) := ⟨_, rfl⟩
        obtain ⟨x1, hx1⟩ : ∃ x1 : Int, x1 = ((t.getD 1 0).toNat : Int) := ⟨_, rfl⟩
        have hix0 : ∀ W : World, (Instr.index 9 (.string sk) (.int .i64 0)).run Tryd.prog W = .ok (.int .u8 x0) W := fun W => by
          rw [run_index_string W 9 sk .i64 0 Tryd.underlying9, dif_pos (by omega), hx0]
          subst hsk
          rw [← piece_get t 0 c0]
          rfl
        have hix1 : ∀ W : World, (Instr.index 9 (.string sk) (.int .i64 1)).run Tryd.prog W = .ok (.int .u8 x1) W := fun W => by
          rw [run_index_string W 9 sk .i64 1 Tryd.underlying9, dif_pos (by omega), hx1]
          subst hsk
          rw [← piece_get t 1 c1]
          rfl
        have v0 : IntKind.i64.wrap x0 = x0 := by rw [hx0]; exact wrapb _
        have v1' : IntKind.i64.wrap x1 = x1 := by rw [hx1]; exact wrapb _
        have w0 : IntKind.i64.wrap (x0 - 48) = (cp t).1 := by rw [hx0, wrap48]; rfl
        have w1q : IntKind.i64.wrap (x1 - 48) = (cp t).2 := by rw [hx1, wrap48]; rfl
        obtain ⟨a, ha⟩ : ∃ a, a = (cp t).1 := ⟨_, rfl⟩
        obtain ⟨b, hb⟩ : ∃ b, b = (cp t).2 := ⟨_, rfl⟩
        rw [← ha] at w0
        rw [← hb] at w1q
        have hall2 : Hid ((q.take (k + 1)).all (fun t => t.length == 2) = true) := by
          show (q.take (k + 1)).all (fun t => t.length == 2) = true
          rw [htk.out, List.all_append, hall.out, Bool.true_and]
          simp [h2]
        have hcs : Hid (cs ((q.take (k + 1)).map cp) = cs ((q.take k).map cp) ++ [.int .i64 a, .int .i64 b]) := by
          show cs ((q.take (k + 1)).map cp) = _
          rw [htk.out, List.map_append, cs_append, List.map_cons, List.map_nil, ha, hb]; rfl
        clear ha hb hsk hskz h2 hx0 hx1 c0 c1
        have HNEW : Hid (∀ j' u, [Value.int .i64 a, .int .i64 b][j']? = some u → (wr.alloc (.cells #[.int .i64 a, .int .i64 b] 50)).drew.cell? ((⟨wr.heap.size, 0, none⟩ : Addr).add j') = some u) := World.news_of_block (cs := #[.int .i64 a, .int .i64 b]) (t := 50) (fr := (0, 0)) (heap_alloc_new _ _)
        have HONE : Hid (∀ u ∈ [Value.int .i64 a, .int .i64 b], u.oneCell' = true) := by intro u hu; simp at hu; rcases hu with rfl | rfl <;> rfl
        have HB0 : Hid (∀ o, Below w1'.heap.size w1' (wr.alloc o).drew) := fun o => (hbel.alloc hsz _).drew
        have HO0 : Hid ((wr.alloc (.cells #[.int .i64 a, .int .i64 b] 50)).drew.ownsRow w1'.heap.size 50 2 u4 k (cs ((q.take k).map cp))) := (Hor.out.alloc _).drew
        go_wp2_with fail
        go_region_held3 (fun w' => Below w1'.heap.size w1' w')
          (first | exact hbel.drew | exact hbel | exact (HB0.out _) | assumption | go_keep)
          (first
            | (refine step_append_mine _ (by rfl) _ _ _ (by rfl) w1'.heap.size 50 i0 _ 2 16 Tryd.underlying38 hi hz0 hz1 hz2q rfl (by omega) _ k (cs ((q.take k).map cp)) (by rfl) HO0.out ⟨wr.heap.size, 0, none⟩ 1 _ [.int .i64 a, .int .i64 b] (by rfl) (by rfl) HNEW.out HONE.out (by unfold maxLen; omega) (by omega) (by simp; omega) ?_
               intro va wa owna gra
               have hba : Below w1'.heap.size w1' wa := (HB0.out _).grown gra (by simp; omega) (fun b hb => (Hor.out.lt b hb).1))
            | fail)
        all_goals
          have Hown := Lib.hid owna
          have Hbel := Lib.hid hba
          clear owna hba
          go_wp2_with fail
          go_roundw
          case rel => exact ⟨k + 1, by omega, by go_num, hall2, by rw [hcs.out]; exact Hown.out, Hbel.out⟩
          case measure => simp [intOf]; omega
      · have hno : iOK (qOf l) = false := by
          rw [← Hq.out, iOK]
          have : q.all (fun t => t.length == 2) = false := by
            rw [Bool.eq_false_iff]
            intro e
            rw [List.all_eq_true] at e
            have := e t Htq.out
            rw [beq_iff_eq] at this
            exact h2 this
          rw [this]; rfl
        have Hno2 := Lib.hid ((iOK_pOK l).1.symm.trans hno)
        have HR := Lib.hid (pR_iNo hno)
        have Hnil := Lib.hid (World.ownsRow_nil wr w.heap.size 50 2)
        have hz3 : ((sk.size : Int) != 2) = true := by rw [bne_iff_ne]; omega
        clear hno
        go_wp2_with fail
        go_ret2
        rw [Hno2.out, HR.out]
        exact ⟨_, rfl, Hnil.out, hb1.trans (hbel.mono hs1)⟩
    · obtain rfl : k = m := by omega
      have e : q.take k = q := List.take_of_length_le (by rw [Hm.out]; exact Nat.le_refl _)
      rw [e] at hall Hor
      have hlen : k = (q.map cp).length := by rw [List.length_map, ← Hm.out]
      obtain ⟨go1, co1, rfl, hc1, _⟩ := own_shape Hor.out hlen
      have Hc1 := Lib.hid hc1
      have Hx := Lib.hid (own_weaken Hor.out hs1)
      have Hlen := Lib.hid hlen
      have Hi : Hid (iOK (qOf l) = gdB 10 (q.map cp)) := by
        show iOK (qOf l) = _
        rw [← Hq.out, iOK, hall.out, Bool.true_and]
      cases hgd : gdB 10 (q.map cp)
      · have hno : iOK (qOf l) = false := by rw [Hi.out, hgd]
        have Hno2 := Lib.hid ((iOK_pOK l).1.symm.trans hno)
        have HR := Lib.hid (pR_iNo hno)
        have Hgd := Lib.hid hgd
        clear hno hgd hc1 e hlt hk hlen
        go_wp2_with fail
        refine (areCalls_any 10 go1 co1 (q.map cp) k wr Hlen.out (by omega) Hc1.out).mono ?_
        rintro e w5 ⟨rfl, hb5⟩
        rw [Hgd.out]
        have Hnil := Lib.hid (World.ownsRow_nil w5 w.heap.size 50 2)
        go_wp2_with fail
        go_ret2
        rw [Hno2.out, HR.out]
        exact ⟨_, rfl, Hnil.out, (hb1.trans (hbel.mono hs1)).trans (hb5.mono (hb1.trans (hbel.mono hs1)).size)⟩
      · have hno : iOK (qOf l) = true := by rw [Hi.out, hgd]
        have Hno2 := Lib.hid ((iOK_pOK l).1.symm.trans hno)
        have HR : Hid (pR l = q.map cp) := by show pR l = _; rw [pR_iOK hno, ← Hq.out]
        have Hgd := Lib.hid hgd
        clear hno hgd hc1 e hlt hk hlen
        go_wp2_with fail
        refine (areCalls_any 10 go1 co1 (q.map cp) k wr Hlen.out (by omega) Hc1.out).mono ?_
        rintro e w5 ⟨rfl, hb5⟩
        rw [Hgd.out]
        have Hx5 := Lib.hid (own_later Hx.out hb5)
        go_wp2_with fail
        go_ret2
        rw [Hno2.out, HR.out, ← Hlen.out]
        exact ⟨_, rfl, Hx5.out, (hb1.trans (hbel.mono hs1)).trans (hb5.mono (hb1.trans (hbel.mono hs1)).size)⟩




theorem implPC_any (s : ByteArray) (l : List UInt8) (Hl : Hid (l = s.data.toList)) (n : Nat) (Hn : Hid (n = s.size)) (hs : n ≤ 1048576) (w : World) (Hm0 : Hid (∃ m : Int, w.cell? ⟨0, 0, none⟩ = some (.int .i64 m))) :
    Calls Tryd.prog 24 #[.string s] w fun e w' => ∃ v, e = .returned (.tuple #[v, .bool (pB l)]) ∧ w'.ownsRow w.heap.size 50 2 v (pR l).length (cs (pR l)) ∧ Below w.heap.size w w' := by
  by_cases h0 : n = 0
  · obtain ⟨he, hl⟩ := empty_of Hl.out (by rw [← Hn.out]; exact h0)
    rw [hl, pB_nil, pR_nil]
    have Hnil := Lib.hid (World.ownsRow_nil w w.heap.size 50 2)
    clear hl h0
    go_enter Tryd.func24, Tryd.ntmps24
    go_wp2_with fail
    go_ret2
    exact ⟨_, rfl, Hnil.out, Below.refl _ _⟩
  · obtain ⟨he, hl⟩ := nonempty_of Hl.out (by rw [← Hn.out]; omega)
    rw [pB_some hl]
    exact implPC_loop s l Hl n Hn (by omega) hs w Hm0

theorem glob_kept {w w' : World} (h : ∃ m : Int, w.cell? ⟨0, 0, none⟩ = some (.int .i64 m)) (hb : Below w.heap.size w w') : ∃ m : Int, w'.cell? ⟨0, 0, none⟩ = some (.int .i64 m) := by
  obtain ⟨m, h⟩ := h
  exact ⟨m, (hb.cell (p := ⟨0, 0, none⟩) (World.block_lt_of_cell? w _ h)).trans h⟩


end Go.Proofs.YtjldfdaaoeomdaaDoor
