/- What rounds a text is of: the model. -/
import Derived.Test.YtjldfdaaoeomdaaDoorPartsR
import Derived.Test.YtjldfdaaoeomdaaDoorParseI
import Derived.Test.YtjldfdaaoeomdaaDoorRndS2
import Derived.Test.YtjldfdaaoeomdaaDoorRowsI
namespace Go.Proofs.YtjldfdaaoeomdaaDoor
open Go.ChangeShapes Go.WideShapes Go.ChangeAt Go.RowKit
set_option linter.unusedVariables false


theorem nodot {s : ByteArray} {l : List UInt8} (h : l = s.data.toList) : (s.toList == [46]) = (l == [46]) := by
  rw [ByteArray.toList_eq, ← h]

set_option maxRecDepth 20000 in
set_option maxHeartbeats 2000000 in
theorem roParse_any (s : ByteArray) (l : List UInt8) (Hl : Hid (l = s.data.toList)) (n : Nat) (Hn : Hid (n = s.size)) (hs : n ≤ 1048576) (w : World) (Hm0 : Hid (∃ m : Int, w.cell? ⟨0, 0, none⟩ = some (.int .i64 m))) :
    Calls Tryd.prog 22 #[.string s] w fun e w' => ∃ v X, e = .returned (.tuple #[v, .bool (rpB l)]) ∧ OwnCS w' w.heap.size v X (rpR l) ∧ Below w.heap.size w w' := by
  cases hdot : (l == [46])
  · have hrB : rpB l = prOK l := by rw [rpB, hdot, Bool.false_or]
    have hrR : rpR l = prR l := by rw [rpR, hdot]; rfl
    rw [hrB, hrR]
    clear hrB hrR
    have hcmp : (s.toList == [46]) = false := by rw [nodot Hl.out, hdot]
    obtain ⟨i0, hi, hz0, hz1, hz2⟩ := info_parts info38
    have hll : l.length = n := by rw [Hl.out, Hn.out]; simp
    obtain ⟨q, hq⟩ : ∃ q, q = spG l := ⟨_, rfl⟩
    have Hok : Hid (prOK l = okQ q) := Lib.hid (by rw [hq]; rfl)
    have HokR : Hid (prOK l = true → prR l = q.map pR) := Lib.hid (fun h => by rw [prR, h, hq]; rfl)
    have Hpc : Hid (∀ t ∈ q, t.length ≤ 1048576) := Lib.hid (fun t ht => by rw [hq] at ht; have := spG_piece l t ht; omega)
    obtain ⟨m, hm⟩ : ∃ m, m = q.length := ⟨_, rfl⟩
    have hm1 : 0 < m := by rw [hm, hq]; exact List.length_pos_iff.2 (spG_ne l)
    have hm2 : m ≤ 1048577 := by have := spG_le l; rw [hm, hq]; omega
    have Hq := Lib.hid hq
    have Hm := Lib.hid hm
    clear hq hm hll hdot
    go_enter Tryd.func22, Tryd.ntmps22
    go_wp2_with fail
    refine (l1SplitG_any s l Hl n Hn hs w).mono ?_
    rintro e w1 ⟨v1, rfl, own1, hb1⟩
    rw [← Hq.out, ← Hm.out] at own1
    obtain ⟨g, cap1, rfl⟩ := row_some own1 hm1
    have hs1 := hb1.size
    have Hcell : Hid (∀ j, j < m → w1.cell? ⟨g, 0 + j, none⟩ = some (.string ⟨(q.getD j []).toArray⟩)) := fun j hj => by
      rw [Nat.zero_add, own1.cellAt j (by omega)]
      have hjq : j < q.length := by rw [← Hm.out]; exact hj
      simp [sv, List.getD_eq_getElem?_getD, hjq]
    have hg1 := (own1.lt g rfl).2
    clear own1
    go_wp2_with fail
    go_loopw [4, 15] (fun v i wr => ∃ (k : Nat) (X : List Value), k ≤ m ∧ i = .int .i64 k ∧ Hid ((q.take k).all pB = true) ∧ OwnCS wr w1.heap.size v X ((q.take k).map pR) ∧ Below w1.heap.size w1 wr) (fun _ i _ => m - (intOf i).toNat)
    case atStart => exact ⟨0, [], Nat.zero_le _, rfl, Lib.hid rfl, OwnCS.nil _ _, Below.refl _ _⟩
    case round =>
      obtain ⟨k, X, hk, rfl, hall, hor, hbel⟩ := hrel
      have hsz := hbel.size
      have Hor := Lib.hid hor
      clear hor
      by_cases hlt : k < m
      · have hz := (hbel.cell (p := ⟨g, 0 + k, none⟩) hg1).trans (Hcell.out k hlt)
        obtain ⟨t, ht⟩ : ∃ t, t = q.getD k [] := ⟨_, rfl⟩
        rw [← ht] at hz
        rw [Nat.zero_add] at hz
        have hjq : k < q.length := by rw [← Hm.out]; exact hlt
        have htk : Hid (q.take (k + 1) = q.take k ++ [t]) := by
          show q.take (k + 1) = q.take k ++ [t]
          rw [List.take_succ_eq_append_getElem hjq, ht]
          simp [List.getD_eq_getElem?_getD, hjq]
        have Htq : Hid (t ∈ q) := by
          show t ∈ q
          rw [ht]
          simp [List.getD_eq_getElem?_getD, hjq]
        obtain ⟨sk, hsk⟩ : ∃ sk : ByteArray, sk = ⟨t.toArray⟩ := ⟨_, rfl⟩
        rw [← hsk] at hz
        have Hsk : Hid (t = sk.data.toList) := Lib.hid (by rw [hsk])
        have hskz : sk.size ≤ 1048576 := by rw [hsk, piece_size]; exact Hpc.out t Htq.out
        have b0 : (0 : Int) ≤ (k : Int) := by omega
        have b1 : (k : Int) < (m : Int) := by omega
        have Hpar := Lib.hid (caParse_any sk t Hsk wr)
        clear ht hjq hsk
        go_wp2_with fail
        refine Hpar.out.mono ?_
        rintro e w5 ⟨v5, rfl, own5, hb5⟩
        obtain ⟨a5, c5, rfl, _⟩ := own_shape_s own5 rfl
        have Own5 := Lib.hid own5
        have Hor5 := Lib.hid (Hor.out.later hb5)
        have hbel5 : Below w1.heap.size w1 w5 := hbel.trans (hb5.mono hsz)
        have hsz5 := hbel5.size
        have hs55 := hb5.size
        clear own5 hb5 hbel
        cases hpb : pB t
        · have hno : prOK l = false := by
            rw [Hok.out, okQ]
            have : q.all pB = false := by
              rw [Bool.eq_false_iff]
              intro e
              rw [List.all_eq_true] at e
              have := e t Htq.out
              rw [hpb] at this
              cases this
            rw [this]; rfl
          have hR : prR l = [] := by rw [prR, hno]; rfl
          have Hno2 := Lib.hid hno
          have HR := Lib.hid hR
          have Hnil := Lib.hid (OwnCS.nil w5 w.heap.size)
          clear hno hR hpb
          go_wp2_with fail
          go_ret2
          rw [Hno2.out, HR.out]
          exact ⟨_, [], rfl, Hnil.out, hb1.trans (hbel5.mono hs1)⟩
        · have hall2 : Hid ((q.take (k + 1)).all pB = true) := by
            show (q.take (k + 1)).all pB = true
            rw [htk.out, List.all_append, hall.out, Bool.true_and]
            simp [hpb]
          have Hstep : Hid ((q.take k).map pR ++ [pR t] = (q.take (k + 1)).map pR) := Lib.hid (by rw [htk.out, List.map_append]; rfl)
          have Hlen : Hid (((q.take k).map pR).length = k) := Lib.hid (by rw [List.length_map, List.length_take, ← Hm.out]; omega)
          clear hpb
          go_wp2_with (at_builtin; refine wpList_append_lies _ rfl _ _ 26 rfl w1.heap.size 38 i0 (.slice none 0 0) 1 24 Tryd.underlying26 hi hz0 hz1 hz2 rfl (by decide) _ k X rfl (by have h := (Hor5.out.alloc (.cells #[.slice a5 (pR t).length c5] 38)).1; rw [Hlen.out] at h; exact h) ⟨w5.heap.size, 0, none⟩ 1 1 [.slice a5 (pR t).length c5] rfl rfl ?c1 ?c2 (by omega) ?c3 ?c4 ?c5 (w5.heap.size + 1) ?c6 ?_)
          case c1 => exact World.news_of_block (cs := #[.slice a5 (pR t).length c5]) (t := 38) (fr := (0, 0)) (heap_alloc_new _ _)
          case c2 => intro u hu; simp at hu; subst hu; rfl
          case c3 => unfold maxLen; omega
          case c4 => omega
          case c5 => simp; omega
          case c6 => simp
          intro g6 cap6 w6 hown hgr hat _
          have hp := OwnCS.push (v' := .slice (some ⟨g6, 0, none⟩) (k + 1) cap6) (H := w5.heap.size + 1) (Hor5.out.alloc (.cells #[.slice a5 (pR t).length c5] 38)) (own_base hsz (Own5.out.alloc _))
            (fun b hb e => by have h1 := (Own5.out.lt b hb).1; have h2 := (Hor.out.1.lt b e).2; omega)
            (fun i y b hy hb e => by
              have hi := (List.getElem?_eq_some_iff.1 hy).1
              have h2 := ((Hor.out.2.2.1 i y _ hy (List.getElem?_eq_getElem (by rw [← Hor.out.2.1]; exact hi))).1.lt b hb).2
              have h1 := (Own5.out.lt b e).1
              omega)
            hgr (by rw [Hlen.out]; exact hown) (by rcases hat with e | e
                                                   · exact .inl e.symm
                                                   · exact .inr (by rw [e]; rfl)) (by simp)
          rw [Hstep.out] at hp
          have Hp := Lib.hid hp
          have Hb6 := Lib.hid ((hbel5.alloc hsz5 _).grown hgr (by simp; omega) (fun b hb => (Hor5.out.1.lt b hb).1))
          clear hp hown hgr hat hbel5
          go_wp2_with fail
          go_roundw
          case rel => exact ⟨k + 1, _, by omega, by go_num, hall2, Hp.out, Hb6.out⟩
          case measure => simp [intOf]; omega
      · obtain rfl : k = m := by omega
        have e : q.take k = q := List.take_of_length_le (by rw [Hm.out]; exact Nat.le_refl _)
        rw [e] at hall Hor
        obtain ⟨M, hM⟩ : ∃ M, M = q.map pR := ⟨_, rfl⟩
        have HM := Lib.hid hM
        rw [← hM] at Hor
        obtain ⟨ao, cap2, rfl, hrows⟩ := Hor.out.rows
        have Hrows := Lib.hid hrows
        have Hlen : Hid (M.length = k) := Lib.hid (by rw [hM, List.length_map, ← Hm.out])
        have Hfin : Hid (prOK l = rndsB 10 M) := Lib.hid (by rw [Hok.out, okQ, hall.out, Bool.true_and, hM])
        have HLr : Hid (∀ i, (crow M i).length ≤ 9223372036854775807) := Lib.hid (fun i => by
          rw [hM]
          by_cases hi : i < (q.map pR).length
          · rw [← crow_get hi, List.getElem_map]
            have := pR_length (q[i]'(by simpa using hi))
            omega
          · rw [crow_none (by omega)]; simp)
        have hml : M.length ≤ 9223372036854775807 := by rw [Hlen.out]; omega
        have Hgood := Lib.hid (roGood_any 10 ao cap2 M _ wr rfl hml HLr Hrows)
        have Hw := Lib.hid (Hor.out.weaken hs1)
        clear hrows e hlt hk hM
        cases hrn : rndsB 10 M
        · have hno : prOK l = false := by rw [Hfin.out, hrn]
          have Hno2 := Lib.hid hno
          have HR : Hid (prR l = []) := Lib.hid (by rw [prR, hno]; rfl)
          have Hrn := Lib.hid hrn
          clear hno hrn
          go_wp2_with fail
          refine Hgood.out.mono ?_
          rintro e w5 ⟨rfl, hb5⟩
          rw [Hrn.out]
          have Hnil := Lib.hid (OwnCS.nil w5 w.heap.size)
          go_wp2_with fail
          go_ret2
          rw [Hno2.out, HR.out]
          exact ⟨_, [], rfl, Hnil.out, (hb1.trans (hbel.mono hs1)).trans (hb5.mono (hb1.trans (hbel.mono hs1)).size)⟩
        · have hno : prOK l = true := by rw [Hfin.out, hrn]
          have Hno2 := Lib.hid hno
          have HR : Hid (prR l = M) := Lib.hid (by rw [HM.out]; exact HokR.out hno)
          have Hrn := Lib.hid hrn
          clear hno hrn
          go_wp2_with fail
          refine Hgood.out.mono ?_
          rintro e w5 ⟨rfl, hb5⟩
          rw [Hrn.out]
          have Hx5 := Lib.hid (Hw.out.later hb5)
          go_wp2_with fail
          go_ret2
          rw [Hno2.out, HR.out]
          exact ⟨_, X, rfl, Hx5.out, (hb1.trans (hbel.mono hs1)).trans (hb5.mono (hb1.trans (hbel.mono hs1)).size)⟩
  · have hrB : rpB l = true := by rw [rpB, hdot, Bool.true_or]
    have hrR : rpR l = [] := by rw [rpR, hdot]; rfl
    rw [hrB, hrR]
    have hcmp : (s.toList == [46]) = true := by rw [nodot Hl.out, hdot]
    have Hnil := Lib.hid (OwnCS.nil w w.heap.size)
    clear hrB hrR hdot
    go_enter Tryd.func22, Tryd.ntmps22
    go_wp2_with fail
    go_ret2
    exact ⟨_, [], rfl, Hnil.out, Below.refl _ _⟩

theorem specPR_any (s : ByteArray) (l : List UInt8) (Hl : Hid (l = s.data.toList)) (n : Nat) (Hn : Hid (n = s.size)) (hs : n ≤ 1048576) (w : World) (Hm0 : Hid (∃ m : Int, w.cell? ⟨0, 0, none⟩ = some (.int .i64 m))) :
    Calls Tryd.prog 10 #[.string s] w fun e w' => ∃ v X, e = .returned (.tuple #[v, .bool (rpB l)]) ∧ OwnCS w' w.heap.size v X (rpR l) ∧ Below w.heap.size w w' := by
  go_enter Tryd.func10, Tryd.ntmps10
  go_wp2_with fail
  refine (roParse_any s l Hl n Hn hs w Hm0).mono ?_
  rintro e w1 ⟨v, X, rfl, own1, hb1⟩
  have Ho := Lib.hid own1
  clear own1
  go_wp2_with fail
  go_ret2
  exact ⟨_, X, rfl, Ho.out, hb1⟩

end Go.Proofs.YtjldfdaaoeomdaaDoor
