/- What tests a text is of: the model. -/
import Derived.Test.YtnhkabhchepieaaDoorPtI2
import Derived.Test.YtnhkabhchepieaaDoorSpl
namespace Go.Proofs.YtnhkabhchepieaaDoor
open Go.ChangeShapes Go.WideShapes Go.ChangeAt Go.RowKit
set_option linter.unusedVariables false


theorem row_some {w : World} {base e size n : Nat} {v : Value} {xs : List Value} (h : w.ownsRow base e size v n xs) (hn : 0 < n) : ∃ g cap, v = .slice (some ⟨g, 0, none⟩) n cap := by
  rcases h.2 with ⟨rfl, h0⟩ | ⟨g, cap, cur, rfl, _⟩
  · omega
  · exact ⟨g, cap, rfl⟩
theorem mT_rows (l : List UInt8) (B : Nat) (h : l.length ≤ B) : ∀ i, (row (mT l) i).length ≤ B + 1 := by
  intro i
  by_cases hi : i < (mT l).length
  · have hi2 : i < (spF 47 l).length := by rw [mT, List.length_map] at hi; exact hi
    have e : row (mT l) i = rdW ((spF 47 l).getD i []) := by simp [row, mT, List.getD_eq_getElem?_getD, hi2]
    rw [e, rdW, List.length_map]
    have := spF_le 43 ((spF 47 l).getD i [])
    have := getD_len_le 47 l i
    omega
  · have e : row (mT l) i = [] := by simp [row, List.getD_eq_getElem?_getD, Nat.le_of_not_lt hi]
    rw [e]; simp
theorem tT_eq (L : List (List Int)) (s : ByteArray) (l : List UInt8) (hl : l = s.data.toList) : ((tT L).toList == s.toList) = decide (Lib.join (rs8 L) [47] = l) := by
  rw [ByteArray.toList_eq, ByteArray.toList_eq, ← hl]
  show ((Lib.join (rs8 L) [47]) == l) = _
  rw [Bool.eq_iff_iff]; simp
set_option maxHeartbeats 3200000 in
set_option maxRecDepth 20000 in
theorem specPts_loop (s : ByteArray) (l : List UInt8) (Hl : Hid (l = s.data.toList)) (n : Nat) (Hn : Hid (n = s.size)) (h0 : 0 < n) (hs : n ≤ 240) (w : World) :
    Calls Tryd.prog 13 #[.string s] w fun e w' => ∃ v X, e = .returned (.tuple #[v, .bool (mOK l)]) ∧ OwnSS w' w.heap.size v X (pR l) ∧ Below w.heap.size w w' := by
  obtain ⟨i2, hi, hz0, hz1, hz2⟩ := info_parts info49
  obtain ⟨i3, hi3, hz30, hz31, hz32⟩ := info_parts info3
  obtain ⟨hne, hne2⟩ := nonempty_of Hl.out (by rw [← Hn.out]; exact h0)
  have HNE := Lib.hid hne2
  have hll : l.length = n := by rw [Hl.out, Hn.out]; simp
  obtain ⟨q, hq⟩ : ∃ q, spF 47 l = q := ⟨_, rfl⟩
  have HmT : Hid (mT l = q.map rdW) := Lib.hid (by rw [mT, hq])
  have hql : q.length ≤ 241 := by rw [← hq]; have := spF_le 47 l; omega
  have hq0 : 0 < q.length := by rw [← hq]; exact List.length_pos_iff.2 (spF_ne 47 l)
  have Hpl : Hid (∀ j, (q.getD j []).length ≤ 240) := Lib.hid (fun j => by rw [← hq]; have := getD_len_le 47 l j; omega)
  have HSp := l1Split_any 47 s l Hl n Hn (by omega) w
  rw [hq] at HSp
  have HSp2 : Calls Tryd.prog 37 #[.string s, .int .u8 47] w fun e w' => ∃ v, e = .returned v ∧ w'.ownsRow w.heap.size 9 1 v q.length (sv q) ∧ Below w.heap.size w w' := HSp
  have HSp := Lib.hid HSp2
  have Hrows : Hid (∀ i, (row (q.map rdW) i).length ≤ 1048576) := Lib.hid (fun i => by rw [← HmT.out]; have := mT_rows l 240 (by omega) i; omega)
  have Hhlen : Hid (decide (l.length ≤ 240) = true) := Lib.hid (by simp; omega)
  obtain ⟨m, hm⟩ : ∃ m, q.length = m := ⟨_, rfl⟩
  rw [hm] at HSp hql hq0
  have Hm := Lib.hid hm
  have hs240 : decide ((240 : Int) < (s.size : Int)) = false := by have := Hn.out; simp; omega
  have hs240' : decide (240 < s.size) = false := by have := Hn.out; simp; omega
  have hs0 : decide ((0 : Int) < (s.size : Int)) = true := by have := Hn.out; simp; omega
  have hs0' : decide (0 < s.size) = true := by have := Hn.out; simp; omega
  clear HSp2 hq hm hne2 hll
  go_enter Tryd.func13, Tryd.ntmps13
  go_wp2_with fail
  refine HSp.out.mono ?_
  rintro e w1 ⟨v1, rfl, own1, hb1⟩
  obtain ⟨g, cap1, rfl⟩ := row_some own1 hq0
  have hcap : m ≤ cap1 := own_cap own1
  have Hcell : Hid (∀ j, j < m → w1.cell? ⟨g, j, none⟩ = some (.string ⟨(q.getD j []).toArray⟩)) := Lib.hid (fun j hj => by
    rw [own1.cellAt j (by omega)]
    have hjq : j < q.length := by rw [Hm.out]; exact hj
    simp [sv, List.getD_eq_getElem?_getD, hjq])
  have Hb1 := Lib.hid hb1
  have hs1 := hb1.size
  have hg1 : g < w1.heap.size := (own1.lt g rfl).2
  clear own1 hb1
  go_wp2_with fail
  go_loopw [4, 19] (fun v i wr => ∃ k X, k ≤ m ∧ i = .int .i64 (k : Int) ∧ OwnSS wr w1.heap.size v X ((q.map rdW).take k) ∧ Below w1.heap.size w1 wr) (fun _ i _ => m - (intOf i).toNat)
  case atStart => exact ⟨0, [], Nat.zero_le _, rfl, OwnSS.nil _ _, Below.refl _ _⟩
  case round =>
    obtain ⟨k, X, hk, rfl, hor, hbel⟩ := hrel
    have hsz := hbel.size
    by_cases hlt : k < m
    · have hkq : k < q.length := by rw [Hm.out]; exact hlt
      have hz := (hbel.cell (p := ⟨g, k, none⟩) hg1).trans (Hcell.out k hlt)
      have HL : Hid (((q.map rdW).take k).length = k) := Lib.hid (by rw [List.length_take, List.length_map]; omega)
      have hnx : (q.map rdW).take (k + 1) = (q.map rdW).take k ++ [rdW (q.getD k [])] := by
        rw [List.take_succ_eq_append_getElem (by rw [List.length_map]; exact hkq)]
        simp [List.getD_eq_getElem?_getD, hkq]
      have hplk := Hpl.out k
      obtain ⟨t, ht⟩ : ∃ t, q.getD k [] = t := ⟨_, rfl⟩
      rw [ht] at hz hnx hplk
      have Hnx := Lib.hid hnx
      have b0 : (0 : Int) ≤ (k : Int) := by omega
      have b1 : (k : Int) < (m : Int) := by omega
      obtain ⟨sk, hsk⟩ : ∃ sk : ByteArray, sk = ⟨t.toArray⟩ := ⟨_, rfl⟩
      rw [← hsk] at hz
      have hskz : sk.size = t.length := by rw [hsk, piece_size]
      have HSk := l1Split_any 43 sk t (Lib.hid (by rw [hsk])) sk.size (Lib.hid rfl) (by omega) wr
      obtain ⟨r, hr⟩ : ∃ r, spF 43 t = r := ⟨_, rfl⟩
      have hrl : r.length ≤ 241 := by rw [← hr]; have := spF_le 43 t; omega
      have hr0 : 0 < r.length := by rw [← hr]; exact List.length_pos_iff.2 (spF_ne 43 t)
      have Hrp : Hid (∀ j, (r.getD j []).length ≤ 240) := Lib.hid (fun j => by rw [← hr]; have := getD_len_le 43 t j; omega)
      have HrdW : Hid (rdW t = r.map rdl) := Lib.hid (by rw [rdW, hr])
      rw [hr] at HSk
      have HSk2 : Calls Tryd.prog 37 #[.string sk, .int .u8 43] wr fun e w' => ∃ v, e = .returned v ∧ w'.ownsRow wr.heap.size 9 1 v r.length (sv r) ∧ Below wr.heap.size wr w' := HSk
      have HSk := Lib.hid HSk2
      obtain ⟨mr, hmr⟩ : ∃ mr, r.length = mr := ⟨_, rfl⟩
      rw [hmr] at HSk hrl hr0
      have Hmr := Lib.hid hmr
      have Hor := Lib.hid hor
      have Hbel := Lib.hid hbel
      obtain ⟨wa, hwa⟩ : ∃ x, x = wr := ⟨_, rfl⟩
      subst hwa
      clear hnx hor hbel hkq hplk HSk2 hr hmr hsk hskz ht
      go_wp2_with fail
      refine HSk.out.mono ?_
      rintro e w3 ⟨v3, rfl, own3, hb3⟩
      obtain ⟨g3, cap3, rfl⟩ := row_some own3 hr0
      have hcap3 : mr ≤ cap3 := own_cap own3
      have Hcell3 : Hid (∀ j, j < mr → w3.cell? ⟨g3, j, none⟩ = some (.string ⟨(r.getD j []).toArray⟩)) := Lib.hid (fun j hj => by
        rw [own3.cellAt j (by omega)]
        have hjq : j < r.length := by rw [Hmr.out]; exact hj
        simp [sv, List.getD_eq_getElem?_getD, hjq])
      have Hb3 := Lib.hid hb3
      have hs3 := hb3.size
      have hg3 : g3 < w3.heap.size := (own3.lt g3 rfl).2
      clear own3 hb3 hz
      go_wp2_with fail
      go_loopw [7, 26] (fun v i wq => ∃ j : Nat, j ≤ mr ∧ i = .int .i64 (j : Int) ∧ wq.ownsRow w3.heap.size 3 1 v j (ns ((r.map rdl).take j)) ∧ Below w3.heap.size w3 wq) (fun _ i _ => mr - (intOf i).toNat)
      case atStart => exact ⟨0, Nat.zero_le _, rfl, World.ownsRow_nil _ _ _ _, Below.refl _ _⟩
      case round =>
        obtain ⟨j, hj, rfl, hoq, hbq⟩ := hrel
        have hsq := hbq.size
        by_cases hlt2 : j < mr
        · have hjq : j < r.length := by rw [Hmr.out]; exact hlt2
          have hz := (hbq.cell (p := ⟨g3, j, none⟩) hg3).trans (Hcell3.out j hlt2)
          have hnx : (r.map rdl).take (j + 1) = (r.map rdl).take j ++ [rdl (r.getD j [])] := by
            rw [List.take_succ_eq_append_getElem (by rw [List.length_map]; exact hjq)]
            simp [List.getD_eq_getElem?_getD, hjq]
          have hrpj := Hrp.out j
          obtain ⟨p, hp⟩ : ∃ p, r.getD j [] = p := ⟨_, rfl⟩
          rw [hp] at hz hnx hrpj
          obtain ⟨sp, hsp⟩ : ∃ sp : ByteArray, sp = ⟨p.toArray⟩ := ⟨_, rfl⟩
          rw [← hsp] at hz
          have hspz : sp.size ≤ 240 := by rw [hsp, piece_size]; exact hrpj
          obtain ⟨y, hy⟩ : ∃ y, rdl p = y := ⟨_, rfl⟩
          rw [hy] at hnx
          have Hnx2 := Lib.hid hnx
          have HRd : Hid (∀ W : World, Calls Tryd.prog 38 #[.string sp] W fun e w' => e = .returned (.int .i64 y) ∧ w' = W) := Lib.hid (fun W => by
            have h := l1Read_any sp (by omega) W
            rw [show rd sp = y by rw [← hy, rdl, hsp]] at h
            exact h)
          have c0 : (0 : Int) ≤ (j : Int) := by omega
          have c1 : (j : Int) < (mr : Int) := by omega
          have Ho6 := Lib.hid (hoq.alloc (.cells #[.int .i64 y] 3))
          have Hb6 := Lib.hid (hbq.alloc hsq (.cells #[.int .i64 y] 3))
          have hszW : (wr.alloc (.cells #[.int .i64 y] 3)).heap.size = wr.heap.size + 1 := by simp
          have Hck : Hid ((wr.alloc (.cells #[.int .i64 y] 3)).cell? ⟨wr.heap.size, 0, none⟩ = some (.int .i64 y)) := Lib.hid (by rw [cell_of_row _ _ _ _ _ _ (heap_alloc_new wr _)]; rfl)
          clear hnx hoq hbq hy hsp hp hjq
          go_wp2_with fail
          refine (HRd.out wr).mono ?_
          rintro e w' ⟨rfl, rfl⟩
          go_wp2_with (at_builtin; refine push_num _ rfl _ _ 49 rfl w3.heap.size i3 Tryd.underlying49 hi3 hz30 hz31 hz32 _ ((r.map rdl).take j) j rfl Ho6.out (by omega) y 1 _ rfl Hck.out (by rw [hszW]; omega) ?_)
          intro g9 c9 w9 own9 hgr9 _
          rw [← Hnx2.out] at own9
          have Ho9 := Lib.hid own9
          have Hb9 := Lib.hid (Hb6.out.grown hgr9 (by rw [hszW]; omega) (fun bb hb => (Ho6.out.lt bb hb).1))
          clear own9 hgr9
          go_wp2_with fail
          go_roundw
          case rel => exact ⟨j + 1, by omega, by go_num, Ho9.out, Hb9.out⟩
          case measure => simp [intOf]; omega
        · obtain rfl : j = mr := by omega
          have hkk : ¬ (j : Int) < j := by omega
          have e : (r.map rdl).take j = r.map rdl := List.take_of_length_le (by rw [List.length_map, Hmr.out]; exact Nat.le_refl _)
          rw [e, ← HrdW.out, show j = (rdW t).length by rw [HrdW.out, List.length_map, Hmr.out]] at hoq
          have hbw : Below wa.heap.size wa wr := Hb3.out.trans (hbq.mono hs3)
          obtain ⟨aq, cq, rfl, _⟩ := nums_shape hoq rfl
          have hoq2 := own_base hs3 hoq
          have HP := Lib.hid (newRow Hor.out hsz hbw hoq2)
          have Hb5 := Lib.hid ((Hbel.out.trans (hbw.mono hsz)).alloc (Nat.le_trans hsz hbw.size) (.cells #[.slice aq (rdW t).length cq] 49))
          have hs5 : w1.heap.size ≤ (wr.alloc (.cells #[.slice aq (rdW t).length cq] 49)).heap.size := Hb5.out.size
          obtain ⟨u, hu⟩ : ∃ u, (rdW t).length = u := ⟨_, rfl⟩
          rw [hu] at HP Hb5 hs5
          rw [hu]
          clear hoq hoq2 hbq hbw e hu
          go_wp2_with (at_builtin; refine push_row _ rfl _ _ 22 rfl w1.heap.size i2 Tryd.underlying22 hi hz0 hz1 hz2 _ X ((q.map rdW).take k) k HL.out rfl HP.out.own (by omega) (.slice aq u cq) (rdW t) HP.out.new HP.out.hv HP.out.hX 1 wr.heap.size rfl HP.out.cell rfl HP.out.size ?_)
          intro v6 w6 own6 hgr6 hat6
          rw [← Hnx.out] at own6
          have Ho6 := Lib.hid own6
          have Hb6 := Lib.hid (Hb5.out.grown hgr6 hs5 (fun bb hb => (HP.out.own.1.lt bb hb).1))
          clear own6 hgr6 hat6 Hb5
          go_wp2_with fail
          go_roundw
          case rel => exact ⟨k + 1, _, by omega, by go_num, Ho6.out, Hb6.out⟩
          case measure => simp [intOf]; omega
    · obtain rfl : k = m := by omega
      have hkk : ¬ (k : Int) < k := by omega
      have e2 : (q.map rdW).take k = q.map rdW := List.take_of_length_le (by rw [List.length_map, Hm.out]; exact Nat.le_refl _)
      rw [e2] at hor
      have Hlen : Hid (k = (q.map rdW).length) := Lib.hid (by rw [List.length_map, Hm.out])
      obtain ⟨ao, ca, rfl, _⟩ := hor.reads
      rw [← Hlen.out] at hor
      rw [← Hlen.out]
      have HRow := Lib.hid (rows_own hor)
      have HA := Lib.hid (wiGood_any 10 ao ca (q.map rdW) k wr Hlen (by omega) Hrows HRow)
      have Hor := Lib.hid hor
      have HBl := Lib.hid (Hb1.out.trans (hbel.mono hs1))
      clear e2 hor hbel
      cases hw : wiB 10 (q.map rdW)
      · rw [hw] at HA
        have Hno : Hid (mOK l = false) := Lib.hid (by rw [mOK, HmT.out, hw]; simp)
        have HR := Lib.hid (pR_no Hno.out)
        clear hw
        go_wp2_with fail
        refine HA.out.mono ?_
        rintro e w' ⟨rfl, rfl⟩
        go_wp2_with fail
        go_ret2
        rw [Hno.out, HR.out]
        exact ⟨_, [], rfl, OwnSS.nil _ _, HBl.out⟩
      · rw [hw] at HA
        have HT := Lib.hid (wiText_any wr ao ca (q.map rdW) k Hlen (Lib.hid hw) HRow.out)
        have hte := tT_eq (q.map rdW) s l Hl.out
        have Hio : Hid (mOK l = decide (Lib.join (rs8 (q.map rdW)) [47] = l)) := Lib.hid (by rw [mOK, Hhlen.out, HmT.out, hw]; rfl)
        cases hd : decide (Lib.join (rs8 (q.map rdW)) [47] = l)
        · rw [hd] at hte Hio
          have HR := Lib.hid (pR_no Hio.out)
          clear hw hd
          go_wp2_with fail
          refine HA.out.mono ?_
          rintro e w' ⟨rfl, rfl⟩
          go_wp2_with fail
          refine HT.out.mono ?_
          rintro e w5 ⟨rfl, hb5⟩
          have HB5 := Lib.hid (HBl.out.trans (hb5.mono HBl.out.size))
          clear hb5
          go_wp2_with fail
          go_ret2
          rw [Hio.out, HR.out]
          exact ⟨_, [], rfl, OwnSS.nil _ _, HB5.out⟩
        · rw [hd] at hte Hio
          have HR : Hid (pR l = q.map rdW) := Lib.hid (by rw [pR_yes HNE.out Hio.out, HmT.out])
          clear hw hd
          go_wp2_with fail
          refine HA.out.mono ?_
          rintro e w' ⟨rfl, rfl⟩
          go_wp2_with fail
          refine HT.out.mono ?_
          rintro e w5 ⟨rfl, hb5⟩
          have HB5 := Lib.hid (HBl.out.trans (hb5.mono HBl.out.size))
          have Ho5 := Lib.hid ((Hor.out.weaken hs1).later hb5)
          clear hb5
          go_wp2_with fail
          go_ret2
          rw [Hio.out, HR.out]
          exact ⟨_, X, rfl, Ho5.out, HB5.out⟩

end Go.Proofs.YtnhkabhchepieaaDoor
