/- The first two groupings that tell all wires: the model. -/
import Derived.Test.YtcedacneagpjcaaFtP
namespace Go.Proofs.Ytcedacneagpjcaa
open Go.ChangeShapes Go.WideShapes Go.ChangeAt Go.RowKit
set_option linter.unusedVariables false


set_option maxHeartbeats 3200000 in
set_option maxRecDepth 20000 in
theorem cbFirst_pos (w : World) (n : Nat) (h1 : 1 ≤ n) (hn7 : n ≤ 7) (p : Option (List Int × List Int)) (Hp : Hid (p = f2 n)) :
    Calls Try.prog 36 #[.int .i64 (n : Int)] w fun e w' => ∃ v u, e = .returned (.tuple #[v, u]) ∧ w'.ownsRow w.heap.size 3 1 v (o1 p).length (ns (o1 p)) ∧ w'.ownsRow w.heap.size 3 1 u (o2 p).length (ns (o2 p)) ∧ Ap v u ∧ Below w.heap.size w w' := by
  have hlen := allG_len ⟨n, by omega⟩
  simp only at hlen
  obtain ⟨L, hL⟩ : ∃ L, L = allG n := ⟨_, rfl⟩
  have HL : Hid (∀ i, i < L.length → (row L i).length = n ∧ grB (row L i) = true) := fun i hi => by
    subst hL
    have h := allG_row hi
    exact ⟨h.1, good_of h.2 (by omega) (by omega)⟩
  obtain ⟨N, hN⟩ : ∃ N, N = L.length := ⟨_, rfl⟩
  have HN := Lib.hid hN
  have HLL := Lib.hid hL
  have Hp2 : Hid (p = L.findSome? (tw2 L)) := by show _ = _; rw [Hp.out, hL]; rfl
  rw [← hL, ← hN] at hlen
  have HA := fun W => Lib.hid (cbAll_nil W n hn7)
  rw [← hL] at HA
  have HAll := Lib.hid HA
  clear hL hN HA Hp
  go_enter Try.func36, Try.ntmps36
  go_wp2_with fail
  refine (HAll.out w).out.mono ?_
  rintro e w1 ⟨vC, XC, rfl, hOC, hb1⟩
  obtain ⟨g0, cap0, rfl, hg0⟩ := hOC.outer (by rw [← HN.out]; exact hlen.2)
  rw [← HN.out] at hOC ⊢
  have hs1 := hb1.size
  have HI := Lib.hid hOC
  have Hb1 := Lib.hid hb1
  clear hOC hb1
  go_wp2_with fail
  go_loopw [11] (fun i wr => ∃ (k : Nat), k ≤ N ∧ i = .int .i64 k ∧ Hid ((L.take k).findSome? (tw2 L) = none) ∧ Below w1.heap.size w1 wr) (fun i _ => N - (intOf i).toNat)
  case atStart => exact ⟨0, Nat.zero_le _, rfl, rfl, Below.refl _ _⟩
  case round =>
    obtain ⟨k, hk, rfl, HF, hbel⟩ := hrel
    by_cases hlt : k < N
    · obtain ⟨wa, hwa⟩ : ∃ q, q = wr := ⟨_, rfl⟩
      subst hwa
      have hsz := hbel.size
      obtain ⟨b1, c1, hx1, hc0, own1⟩ := cell_row HI.out HN.out HL.out k hlt
      have hc1 := cell_old hbel hc0
      have Own1 := Lib.hid own1
      have Hbel := Lib.hid hbel
      have hgdk := HL.out k (by rw [← HN.out]; exact hlt)
      have Hak : Hid (n = (row L k).length) := hgdk.1.symm
      have Hgk : Hid (grB (row L k) = true) := hgdk.2
      have Hfn := Lib.hid (findS_next (f := tw2 L) HF.out (by rw [← HN.out]; exact hlt))
      have Hfa : Hid (∀ y, tw2 L (row L k) = some y → L.findSome? (tw2 L) = some y) := fun y hy => findS_at HF.out (by rw [← HN.out]; exact hlt) hy
      clear hx1 hc0 own1 hbel hgdk
      go_wp2_with fail
      refine (HAll.out wa).out.mono ?_
      rintro e w2 ⟨vD, XD, rfl, hOD, hb2⟩
      obtain ⟨g2, cap2, rfl, hg2⟩ := hOD.outer (by rw [← HN.out]; exact hlen.2)
      rw [← HN.out] at hOD ⊢
      have hs2 := hb2.size
      have HI2 := Lib.hid hOD
      have Hb2 := Lib.hid hb2
      clear hOD hb2
      go_wp2_with fail
      go_loopw [18] (fun i wr => ∃ (q : Nat), q ≤ N ∧ i = .int .i64 q ∧ Hid ((L.take q).find? (telB (row L k)) = none) ∧ Below w2.heap.size w2 wr) (fun i _ => N - (intOf i).toNat)
      case atStart => exact ⟨0, Nat.zero_le _, rfl, rfl, Below.refl _ _⟩
      case round =>
        obtain ⟨q, hq, rfl, HG, hbq⟩ := hrel
        by_cases hql : q < N
        · have hszq := hbq.size
          obtain ⟨b2, c2, hx2, hc02, own2⟩ := cell_row HI2.out HN.out HL.out q hql
          have hc2 := cell_old hbq hc02
          have hgdq := HL.out q (by rw [← HN.out]; exact hql)
          have Haq : Hid (n = (row L q).length) := hgdq.1.symm
          have Hgq : Hid (grB (row L q) = true) := hgdq.2
          have hw2 : Below wa.heap.size wa wr := Hb2.out.trans (hbq.mono hs2)
          have hw1 : Below w1.heap.size w1 wr := Hbel.out.trans (hw2.mono hsz)
          have ownk := own_later Own1.out hw1
          have ownq := own_later own2 hbq
          have HT := Lib.hid (cbLike_pos wr b1 0 c1 b2 0 c2 (row L k) (row L q) n Hak Haq Hgk Hgq (fun i hi => by rw [Nat.zero_add]; exact own_num ownk Hak.out i hi) (fun i hi => by rw [Nat.zero_add]; exact own_num ownq Haq.out i hi))
          have htl := tel_like (l := row L k) (m := row L q)
          rw [← Hak.out] at htl
          have Htl := Lib.hid htl
          have Ownk := Lib.hid ownk
          have Ownq := Lib.hid ownq
          have Hw1 := Lib.hid (Hb1.out.trans (hw1.mono hs1))
          have Hbq := Lib.hid hbq
          have Hgn := Lib.hid (find_next (p := telB (row L k)) HG.out (by rw [← HN.out]; exact hql))
          have Hga := Lib.hid (find_at (p := telB (row L k)) HG.out (by rw [← HN.out]; exact hql))
          have hlo := hw2.size
          have HAp : Hid (Ap (.slice (some ⟨b1, 0, none⟩) n c1) (.slice (some ⟨b2, 0, none⟩) n c2)) := fun b hb hb' => by
            have h3 := (Own1.out.lt b hb).2
            have h4 := (own2.lt b hb').1
            have h5 := Hbel.out.size
            omega
          clear hx2 hc02 own2 hgdq hw2 hw1 ownk ownq htl hbq
          go_wp2_with fail
          refine HT.out.mono ?_
          rintro e w3 ⟨v3, X3, rfl, hO3, hb3⟩
          obtain ⟨ao3, cap3, rfl, _⟩ := hO3.reads
          have Hb3 := Lib.hid (Hbq.out.trans (hb3.mono hszq))
          have Hw3 := Lib.hid (Hw1.out.trans (hb3.mono Hw1.out.size))
          have Ownk3 := Lib.hid (own_later Ownk.out hb3)
          have Ownq3 := Lib.hid (own_later Ownq.out hb3)
          clear hO3 hb3 HT Ownk Ownq Hw1
          obtain ⟨Z, hZ⟩ : ∃ Z, (lkL (row L k) (row L q) n n).length = Z := ⟨_, rfl⟩
          have HZ := Lib.hid hZ
          rw [hZ]
          clear hZ
          by_cases hz : Z = 0
          · have ht : telB (row L k) (row L q) = true := Htl.out.1 (by rw [HZ.out]; exact hz)
            have hze : ((Z : Int) == 0) = true := by simp; omega
            have hpe : p = some (row L k, row L q) := by rw [Hp2.out]; exact Hfa.out _ (by unfold tw2; rw [Hga.out ht]; rfl)
            subst hpe
            have Hk : Hid (w3.ownsRow w.heap.size 3 1 (.slice (some ⟨b1, 0, none⟩) n c1) (o1 (some (row L k, row L q))).length (ns (o1 (some (row L k, row L q))))) := by show World.ownsRow _ _ _ _ _ (row L k).length (ns (row L k)); rw [← Hak.out]; exact Ownk3.out
            have Hq : Hid (w3.ownsRow w.heap.size 3 1 (.slice (some ⟨b2, 0, none⟩) n c2) (o2 (some (row L k, row L q))).length (ns (o2 (some (row L k, row L q))))) := by show World.ownsRow _ _ _ _ _ (row L q).length (ns (row L q)); rw [← Haq.out]; exact own_base (by omega) Ownq3.out
            clear ht hz Ownk3 Ownq3 Hp2
            go_wp2_with fail
            go_ret2
            exact ⟨_, _, rfl, Hk.out, Hq.out, HAp.out, Hw3.out⟩
          · have ht : telB (row L k) (row L q) = false := by
              cases h : telB (row L k) (row L q)
              · rfl
              · exact absurd (by rw [← HZ.out]; exact Htl.out.2 h) hz
            have hze : ((Z : Int) == 0) = false := by simp; omega
            have Hn2 := Lib.hid (Hgn.out ht)
            clear ht hz Ownk3 Ownq3
            go_wp2_with fail
            go_roundw
            case rel => exact ⟨q + 1, by omega, by go_num, Hn2, Hb3.out⟩
            case measure => simp [intOf]; omega
        · obtain rfl : q = N := by omega
          have hfind : L.find? (telB (row L k)) = none := by
            have h := HG.out
            rw [HN.out, List.take_length] at h
            exact h
          have Hn2 := Lib.hid (Hfn.out (by unfold tw2; rw [hfind]; rfl))
          have Hb3 := Lib.hid (Hbel.out.trans ((Hb2.out.trans (hbq.mono hs2)).mono hsz))
          clear hfind hbq
          go_wp2_with fail
          go_roundw
          case rel => exact ⟨k + 1, by omega, by go_num, Hn2, Hb3.out⟩
          case measure => simp [intOf]; omega
    · obtain rfl : k = N := by omega
      have hpe : p = none := by
        have h := HF.out
        rw [HN.out, List.take_length] at h
        rw [Hp2.out]; exact h
      subst hpe
      have Hbf := Lib.hid (Hb1.out.trans (hbel.mono hs1))
      clear hbel Hp2
      go_wp2_with fail
      go_ret2
      exact ⟨_, _, rfl, World.ownsRow_nil _ _ _ _, World.ownsRow_nil _ _ _ _, Ap.nil _, Hbf.out⟩

end Go.Proofs.Ytcedacneagpjcaa
