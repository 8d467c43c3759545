/- What letters a text is of: the program. -/
import Derived.Test.YtfbkpdmphlgokaaDoorPartsL
import Derived.Test.YtfbkpdmphlgokaaDoorParseI
namespace Go.Proofs.YtfbkpdmphlgokaaDoor
open Go.ChangeShapes Go.WideShapes Go.ChangeAt Go.RowKit
set_option linter.unusedVariables false


theorem pRL_iOK {l : List UInt8} (h : iOKL (qOf l) = true) : pRL l = (qOf l).map cpL := by
  have h2 := iOKL_pOKL l
  rw [h] at h2
  rw [pRL, ← h2.1, if_pos rfl, h2.2 h2.1.symm]
theorem pRL_iNo {l : List UInt8} (h : iOKL (qOf l) = false) : pRL l = [] := by
  have h2 := iOKL_pOKL l
  rw [h] at h2
  rw [pRL, ← h2.1]; rfl
set_option maxRecDepth 20000 in
set_option maxHeartbeats 4000000 in
theorem implPL_loop (s : ByteArray) (l : List UInt8) (Hl : Hid (l = s.data.toList)) (n : Nat) (Hn : Hid (n = s.size)) (h0 : 0 < n) (hs : n ≤ 1048576) (w : World) (Hm0 : Hid (∃ m : Int, w.cell? ⟨0, 0, none⟩ = some (.int .i64 m))) :
    Calls Tryd.prog 11 #[.string s] w fun e w' => ∃ v, e = .returned (.tuple #[v, .bool (pOKL l)]) ∧ w'.ownsRow w.heap.size 42 2 v (pRL l).length (cs (pRL l)) ∧ Below w.heap.size w w' := by
  obtain ⟨i0, hi, hz0, hz1, hz2q⟩ := info_parts info42
  obtain ⟨mm, hmm⟩ := Hm0.out
  obtain ⟨hne, _⟩ := nonempty_of Hl.out (by rw [← Hn.out]; exact h0)
  obtain ⟨qb, hqb⟩ : ∃ qb, qb = Lib.splitB ⟨#[45]⟩ 0 (min 61 (s.size + 1) - 1) s := ⟨_, rfl⟩
  obtain ⟨q, hq⟩ : ∃ q, q = qOf l := ⟨_, rfl⟩
  have hqq : qb.map (·.data.toList) = q := by rw [hqb, hq]; exact qOf_splitB s l Hl.out
  obtain ⟨m, hm⟩ : ∃ m, m = q.length := ⟨_, rfl⟩
  obtain ⟨cap1, hcap1⟩ : ∃ c, c = min 61 (s.size + 1) := ⟨_, rfl⟩
  have hmq : qb.length = m := by rw [hm, ← hqq, List.length_map]
  have hm1 : 0 < m := by rw [hm, hq]; exact List.length_pos_iff.2 (qOf_ne l)
  have hle : m ≤ cap1 := by
    have := Lib.splitB_length_le ⟨#[45]⟩ 0 (min 61 (s.size + 1) - 1) s
    rw [← hqb, hmq] at this
    omega
  have hm2 : m ≤ 61 := by omega
  have Hsp := Lib.hid (split_any s ⟨#[45]⟩ 61 mm w (by have := Hn.out; omega) hmm (by decide) (by decide) (by decide))
  rw [← hqb, ← hcap1, hmq] at Hsp
  have Hq := Lib.hid hq
  have Hm := Lib.hid hm
  have Hqq := Lib.hid hqq
  have Hmq := Lib.hid hmq
  obtain ⟨w1, hw1⟩ : ∃ w1, w1 = w.alloc (.cells (Lib.cellsOf qb cap1) 9) := ⟨_, rfl⟩
  rw [← hw1] at Hsp
  obtain ⟨g, hg⟩ : ∃ g, g = w.heap.size := ⟨_, rfl⟩
  have hb1 : Below w.heap.size w w1 := by rw [hw1]; exact (Below.refl _ _).alloc (Nat.le_refl _) _
  have hs1 := hb1.size
  have hg1 : g < w1.heap.size := by rw [hw1, hg]; simp
  have Hcell : Hid (∀ j, j < m → w1.cell? ⟨g, 0 + j, none⟩ = some (.string ⟨(q.getD j []).toArray⟩)) := fun j hj => by
    have hnew := heap_alloc_new w (.cells (Lib.cellsOf qb cap1) 9)
    rw [← hw1, ← hg] at hnew
    have hjb : j < qb.length := by rw [Hmq.out]; exact hj
    have hget : (Lib.cellsOf qb cap1)[j]? = some (.string qb[j]) := by
      simp [Lib.cellsOf, List.getElem?_append_left, hjb]
    have e1 : q.getD j [] = qb[j].data.toList := by rw [← Hqq.out]; simp [List.getD_eq_getElem?_getD, hjb]
    rw [Nat.zero_add, e1, ba_mk]
    exact cell_of_row w1 g j _ _ _ hnew |>.trans hget
  have Hsp2 : Hid (Calls Tryd.prog 16 #[.string s, .string ⟨#[45]⟩, .int .i64 61] w fun e w' => e = .returned (.slice (some ⟨g, 0, none⟩) m cap1) ∧ w' = w1) := by
    rw [hg]; exact Hsp.out
  clear Hsp hw1 hg hq hm hqq hmq hqb hcap1
  go_enter Tryd.func11, Tryd.ntmps11
  go_wp2_with fail
  refine Hsp2.out.mono ?_
  rintro e w1' ⟨rfl, rfl⟩
  go_wp2_with fail
  go_loopw [4, 12] (fun v i wr => ∃ k : Nat, k ≤ m ∧ i = .int .i64 k ∧ Hid ((q.take k).all okL = true) ∧ wr.ownsRow w1'.heap.size 42 2 v k (cs ((q.take k).map cpL)) ∧ Below w1'.heap.size w1' wr) (fun _ i _ => m - (intOf i).toNat)
  case atStart => exact ⟨0, Nat.zero_le _, rfl, rfl, World.ownsRow_nil _ _ _ _, Below.refl _ _⟩
  case round =>
    obtain ⟨k, hk, rfl, hall, hor, hbel⟩ := hrel
    have hsz := hbel.size
    have Hor := Lib.hid hor
    clear hor
    by_cases hlt : k < m
    · have hz := (hbel.cell (p := ⟨g, 0 + k, none⟩) hg1).trans (Hcell.out k hlt)
      obtain ⟨t, ht⟩ : ∃ t, t = q.getD k [] := ⟨_, rfl⟩
      rw [← ht] at hz
      rw [Nat.zero_add] at hz
      have hjq : k < q.length := by rw [← Hm.out]; exact hlt
      have htk : Hid (q.take (k + 1) = q.take k ++ [t]) := by
        show q.take (k + 1) = q.take k ++ [t]
        rw [List.take_succ_eq_append_getElem hjq, ht]
        simp [List.getD_eq_getElem?_getD, hjq]
      have Htq : Hid (t ∈ q) := by
        show t ∈ q
        rw [ht]
        simp [List.getD_eq_getElem?_getD, hjq]
      obtain ⟨sk, hsk⟩ : ∃ sk : ByteArray, sk = ⟨t.toArray⟩ := ⟨_, rfl⟩
      rw [← hsk] at hz
      have hskz : sk.size = t.length := by rw [hsk, piece_size]
      have b0 : (0 : Int) ≤ (k : Int) := by omega
      have b1 : (k : Int) < (m : Int) := by omega
      clear ht hjq
      have Hno : Hid (okL t = false → iOKL (qOf l) = false) := fun h => by
        rw [← Hq.out, iOKL]
        have : q.all okL = false := by
          rw [Bool.eq_false_iff]
          intro e
          rw [List.all_eq_true] at e
          have := e t Htq.out
          rw [h] at this
          cases this
        rw [this]; rfl
      by_cases h2 : t.length = 3
      · have hz2 : sk.size = 3 := by omega
        have c0 : 0 < sk.size := by omega
        have c1 : 2 < sk.size := by omega
        have cm : 1 < sk.size := by omega
        obtain ⟨x0, hx0⟩ : ∃ x0 : Int, x0 = ((t.getD 0 0).toNat : Int) := ⟨_, rfl⟩
        obtain ⟨x1, hx1⟩ : ∃ x1 : Int, x1 = ((t.getD 2 0).toNat : Int) := ⟨_, rfl⟩
        obtain ⟨xm, hxm⟩ : ∃ xm : Int, xm = ((t.getD 1 0).toNat : Int) := ⟨_, rfl⟩
        have hix0 : ∀ W : World, (Instr.index 9 (.string sk) (.int .i64 0)).run Tryd.prog W = .ok (.int .u8 x0) W := fun W => by
          rw [run_index_string W 9 sk .i64 0 Tryd.underlying9, dif_pos (by omega), hx0]
          subst hsk
          rw [← piece_get t 0 c0]
          rfl
        have hix1 : ∀ W : World, (Instr.index 9 (.string sk) (.int .i64 2)).run Tryd.prog W = .ok (.int .u8 x1) W := fun W => by
          rw [run_index_string W 9 sk .i64 2 Tryd.underlying9, dif_pos (by omega), hx1]
          subst hsk
          rw [← piece_get t 2 c1]
          rfl
        have hixm : ∀ W : World, (Instr.index 9 (.string sk) (.int .i64 1)).run Tryd.prog W = .ok (.int .u8 xm) W := fun W => by
          rw [run_index_string W 9 sk .i64 1 Tryd.underlying9, dif_pos (by omega), hxm]
          subst hsk
          rw [← piece_get t 1 cm]
          rfl
        have v0 : IntKind.i64.wrap x0 = x0 := by rw [hx0]; exact wrapb _
        have v1' : IntKind.i64.wrap x1 = x1 := by rw [hx1]; exact wrapb _
        have w0 : IntKind.i64.wrap (x0 - 48) = (cpL t).1 := by rw [hx0, wrap48]; rfl
        have w1q : IntKind.i64.wrap (x1 - 48) = (cpL t).2 := by rw [hx1, wrap48]; rfl
        by_cases h62 : t.getD 1 0 = 62
        · have hok : Hid (okL t = true) := by show okL t = true; rw [okL, h2, h62]; rfl
          have hxm62 : xm = 62 := by rw [hxm, h62]; rfl
          subst hxm62
          clear hxm h62
          obtain ⟨a, ha⟩ : ∃ a, a = (cpL t).1 := ⟨_, rfl⟩
          obtain ⟨b, hb⟩ : ∃ b, b = (cpL t).2 := ⟨_, rfl⟩
          rw [← ha] at w0
          rw [← hb] at w1q
          have hall2 : Hid ((q.take (k + 1)).all okL = true) := by
            show (q.take (k + 1)).all okL = true
            rw [htk.out, List.all_append, hall.out, Bool.true_and]
            simp [hok.out]
          have hcs : Hid (cs ((q.take (k + 1)).map cpL) = cs ((q.take k).map cpL) ++ [.int .i64 a, .int .i64 b]) := by
            show cs ((q.take (k + 1)).map cpL) = _
            rw [htk.out, List.map_append, cs_append, List.map_cons, List.map_nil, ha, hb]; rfl
          clear ha hb hsk hskz h2 hx0 hx1 c0 c1 cm
          have HNEW : Hid (∀ j' u, [Value.int .i64 a, .int .i64 b][j']? = some u → (wr.alloc (.cells #[.int .i64 a, .int .i64 b] 42)).drew.cell? ((⟨wr.heap.size, 0, none⟩ : Addr).add j') = some u) := World.news_of_block (cs := #[.int .i64 a, .int .i64 b]) (t := 42) (fr := (0, 0)) (heap_alloc_new _ _)
          have HONE : Hid (∀ u ∈ [Value.int .i64 a, .int .i64 b], u.oneCell' = true) := by intro u hu; simp at hu; rcases hu with rfl | rfl <;> rfl
          have HB0 : Hid (∀ o, Below w1'.heap.size w1' (wr.alloc o).drew) := fun o => (hbel.alloc hsz _).drew
          have HO0 : Hid ((wr.alloc (.cells #[.int .i64 a, .int .i64 b] 42)).drew.ownsRow w1'.heap.size 42 2 u4 k (cs ((q.take k).map cpL))) := (Hor.out.alloc _).drew
          go_wp2_with fail
          go_region_held3 (fun w' => Below w1'.heap.size w1' w')
            (first | exact hbel.drew | exact hbel | exact (HB0.out _) | assumption | go_keep)
            (first
              | (refine step_append_mine _ (by rfl) _ _ _ (by rfl) w1'.heap.size 42 i0 _ 2 16 Tryd.underlying28 hi hz0 hz1 hz2q rfl (by omega) _ k (cs ((q.take k).map cpL)) (by rfl) HO0.out ⟨wr.heap.size, 0, none⟩ 1 _ [.int .i64 a, .int .i64 b] (by rfl) (by rfl) HNEW.out HONE.out (by unfold maxLen; omega) (by omega) (by simp; omega) ?_
                 intro va wa owna gra
                 have hba : Below w1'.heap.size w1' wa := (HB0.out _).grown gra (by simp; omega) (fun b hb => (Hor.out.lt b hb).1))
              | fail)
          all_goals
            have Hown := Lib.hid owna
            have Hbel := Lib.hid hba
            clear owna hba
            go_wp2_with fail
            go_roundw
            case rel => exact ⟨k + 1, by omega, by go_num, hall2, by rw [hcs.out]; exact Hown.out, Hbel.out⟩
            case measure => simp [intOf]; omega
        · have hno := Hno.out (by rw [okL, show (t.getD 1 0 == 62) = false by rw [beq_eq_false_iff_ne]; exact h62, Bool.and_false])
          have hxm62 : (xm != 62) = true := by
            rw [bne_iff_ne, hxm]
            intro e
            apply h62
            apply UInt8.toNat_inj.1
            show (t.getD 1 0).toNat = 62
            omega
          have Hno2 := Lib.hid ((iOKL_pOKL l).1.symm.trans hno)
          have HR := Lib.hid (pRL_iNo hno)
          have Hnil := Lib.hid (World.ownsRow_nil wr w.heap.size 42 2)
          clear hno hsk hskz h2 hx0 hx1 hxm h62 c0 c1 cm
          go_wp2_with fail
          go_ret2
          rw [Hno2.out, HR.out]
          exact ⟨_, rfl, Hnil.out, hb1.trans (hbel.mono hs1)⟩
      · have hno := Hno.out (by rw [okL, show (t.length == 3) = false by simpa using h2, Bool.false_and])
        have Hno2 := Lib.hid ((iOKL_pOKL l).1.symm.trans hno)
        have HR := Lib.hid (pRL_iNo hno)
        have Hnil := Lib.hid (World.ownsRow_nil wr w.heap.size 42 2)
        have hz3 : ((sk.size : Int) != 3) = true := by rw [bne_iff_ne]; omega
        clear hno
        go_wp2_with fail
        go_ret2
        rw [Hno2.out, HR.out]
        exact ⟨_, rfl, Hnil.out, hb1.trans (hbel.mono hs1)⟩
    · obtain rfl : k = m := by omega
      have e : q.take k = q := List.take_of_length_le (by rw [Hm.out]; exact Nat.le_refl _)
      rw [e] at hall Hor
      have hlen : k = (q.map cpL).length := by rw [List.length_map, ← Hm.out]
      obtain ⟨go1, co1, rfl, hc1, _⟩ := own_shape Hor.out hlen
      have Hc1 := Lib.hid hc1
      have Hx := Lib.hid (own_weaken Hor.out hs1)
      have Hlen := Lib.hid hlen
      have Hi : Hid (iOKL (qOf l) = gdL 10 (q.map cpL)) := by
        show iOKL (qOf l) = _
        rw [← Hq.out, iOKL, hall.out, Bool.true_and]
      cases hgd : gdL 10 (q.map cpL)
      · have hno : iOKL (qOf l) = false := by rw [Hi.out, hgd]
        have Hno2 := Lib.hid ((iOKL_pOKL l).1.symm.trans hno)
        have HR := Lib.hid (pRL_iNo hno)
        have Hgd := Lib.hid hgd
        clear hno hgd hc1 e hlt hk hlen
        go_wp2_with fail
        refine (areLetters_any 10 go1 co1 (q.map cpL) k wr Hlen.out (by omega) Hc1.out).mono ?_
        rintro e w5 ⟨rfl, hb5⟩
        rw [Hgd.out]
        have Hnil := Lib.hid (World.ownsRow_nil w5 w.heap.size 42 2)
        go_wp2_with fail
        go_ret2
        rw [Hno2.out, HR.out]
        exact ⟨_, rfl, Hnil.out, (hb1.trans (hbel.mono hs1)).trans (hb5.mono (hb1.trans (hbel.mono hs1)).size)⟩
      · have hno : iOKL (qOf l) = true := by rw [Hi.out, hgd]
        have Hno2 := Lib.hid ((iOKL_pOKL l).1.symm.trans hno)
        have HR : Hid (pRL l = q.map cpL) := by show pRL l = _; rw [pRL_iOK hno, ← Hq.out]
        have Hgd := Lib.hid hgd
        clear hno hgd hc1 e hlt hk hlen
        go_wp2_with fail
        refine (areLetters_any 10 go1 co1 (q.map cpL) k wr Hlen.out (by omega) Hc1.out).mono ?_
        rintro e w5 ⟨rfl, hb5⟩
        rw [Hgd.out]
        have Hx5 := Lib.hid (own_later Hx.out hb5)
        go_wp2_with fail
        go_ret2
        rw [Hno2.out, HR.out, ← Hlen.out]
        exact ⟨_, rfl, Hx5.out, (hb1.trans (hbel.mono hs1)).trans (hb5.mono (hb1.trans (hbel.mono hs1)).size)⟩

end Go.Proofs.YtfbkpdmphlgokaaDoor
