/- The plan along a tree: the program. -/
import Derived.Test.YtibjapfaljeclaaDoorTp
namespace Go.Proofs.YtibjapfaljeclaaDoor
open Go.ChangeShapes Go.WideShapes Go.ChangeAt Go.RowKit
set_option linter.unusedVariables false


set_option maxHeartbeats 4000000 in
set_option maxRecDepth 20000 in
theorem implTp_any (w : World) (f : Int) (ao : Option Addr) (cap : Nat) (l : List (Int × Int)) (n : Nat) (Hn : Hid (n = l.length)) (hs : n ≤ 1048576) (Hc : CallsAt w ao l) (HT : Hid (TabHere w)) :
    Calls Tryd.prog 8 #[.int .i64 f, .slice ao n cap] w fun e w' => ∃ v, e = .returned (.tuple #[v, .bool (isjR f l)]) ∧ w'.ownsRow w.heap.size 35 2 v (tpR f l).length (cs (tpR f l)) ∧ Below w.heap.size w w' := by
  have HA := Lib.hid Hc
  clear Hc
  cases hj : isjR f l
  · have Hno : Hid (tpR f l = []) := Lib.hid (by rw [tpR, hj]; rfl)
    have Hj := Lib.hid hj
    clear hj
    go_enter Tryd.func8, Tryd.ntmps8
    go_wp2_with fail
    refine (areJoined_any w f ao cap l n Hn hs HA.out).mono ?_
    rintro e w1 ⟨rfl, hb1⟩
    rw [Hj.out]
    go_wp2_with fail
    go_ret2
    exact ⟨.slice none 0 0, rfl, by rw [Hno.out]; exact World.ownsRow_nil _ _ _ _, hb1⟩
  · have hnet := isj_net hj
    have hfr := net_fr hnet
    obtain ⟨F, rfl⟩ := Int.eq_ofNat_of_zero_le (show 0 ≤ f by omega)
    have HJ : Hid (joinB F l = true) := Lib.hid (by rw [← isj_at hnet]; exact hj)
    have Hy := Lib.hid (tp_at hj)
    have htl := tp_len1 hj
    have HI := Lib.hid hj
    have Hg := Lib.hid hnet
    have Hgd := Lib.hid (net_gd hnet)
    obtain ⟨i0, hi, iz0, iz1, iz2⟩ := info_parts info35
    clear hj hnet
    by_cases h1 : F = 1
    · subst h1
      have Hr : Hid (tpR ((1 : Nat) : Int) l = []) := Lib.hid (by
        have e : tre l 1 1 = [] := List.eq_nil_of_length_eq_zero htl
        rw [Hy.out, e]; rfl)
      clear htl
      go_enter Tryd.func8, Tryd.ntmps8
      go_wp2_with fail
      refine (areJoined_any w ((1 : Nat) : Int) ao cap l n Hn hs HA.out).mono ?_
      rintro e w1 ⟨rfl, hb1⟩
      rw [HI.out]
      go_wp2_with fail
      go_ret2
      exact ⟨.slice none 0 0, rfl, by rw [Hr.out]; exact World.ownsRow_nil _ _ _ _, hb1⟩
    · have hne : ((F : Int) == 1) = false := by simp; omega
      go_enter Tryd.func8, Tryd.ntmps8
      go_wp2_with fail
      refine (areJoined_any w F ao cap l n Hn hs HA.out).mono ?_
      rintro e w1 ⟨rfl, hb1⟩
      rw [HI.out]
      have hs1 := hb1.size
      go_wp2_with fail
      refine (linksOf_any ao cap l n w1 Hn hs (Lib.hid (gd_two Hgd.out)) (Lib.hid (HA.out.kept hb1))).mono ?_
      rintro e w2 ⟨rfl, hb2⟩
      obtain ⟨S, hS⟩ : ∃ S, lkT l l.length = S := ⟨_, rfl⟩
      have HS : Hid (∀ v u, (S v).testBit u = adj l v u) := Lib.hid (fun v u => by rw [← hS, lk_bit, adjT_adj Hgd.out])
      have HSm : Hid (∀ v, S v < 1024) := Lib.hid (fun v => by rw [← hS]; exact lk_small (gd_two Hgd.out) l.length (Nat.le_refl _) v)
      rw [hS]
      have hb3 := hb1.trans (hb2.mono hs1)
      have hs3 := hb3.size
      obtain ⟨R, hR⟩ : ∃ R, tre l F 1 = R := ⟨_, rfl⟩
      clear hS hb1 hb2
      go_wp2_with fail
      refine (callsOut_any F l S 1 w2 Hgd HS HSm (Nat.one_lt_two_pow (by omega)) (Lib.hid (HT.out.kept hb3))).mono ?_
      rintro e w4 ⟨v4, rfl, own4, hb4⟩
      rw [hR] at own4 htl Hy
      obtain ⟨N, hN⟩ : ∃ N, R.length = N := ⟨_, rfl⟩
      rw [hN] at own4 htl
      have HNR : Hid (N = R.length) := Lib.hid hN.symm
      have hN9 : N ≤ 9 := by omega
      have hN1 : 1 ≤ N := by omega
      have own4 := own_base hs3 own4
      obtain ⟨g, c, rfl⟩ := own_apos' own4 (by omega)
      have hNc : N ≤ c := by
        rcases own4.2 with ⟨h, _⟩ | ⟨g', cap', cur, h, _, _, hc, _⟩
        · cases h
        · cases h; exact hc
      have HO4 := Lib.hid own4
      have Hb4 := Lib.hid (hb3.trans (hb4.mono hs3))
      have hk0 : (0 : Int) ≤ 1 := by omega
      have hk4 : (1 : Int) ≤ (N : Int) := by omega
      have hk5 : (N : Int) ≤ (c : Int) := by omega
      clear hR hN own4 hb3 hb4 htl
      go_upto_region 6 with (fail)
      refine wp_region_any (by kernel_rfl) ?_
      change wpAny _ _ _ _ _ _ _ (World.drew _)
      have HO4 := Lib.hid (own_later HO4.out (Below.refl w4.heap.size w4).drew)
      have Hb4 := Lib.hid Hb4.out.drew
      obtain ⟨w4', hw⟩ : ∃ w4', w4.drew = w4' := ⟨_, rfl⟩
      rw [hw] at HO4 Hb4 ⊢
      clear hw
      have hat4 := own_at HO4.out HNR.out
      by_cases hc1 : c = 1
      · subst hc1
        obtain rfl : N = 1 := by omega
        have HTa : Hid (CallsAt w4' (some ⟨g, 0, none⟩) R.tail) := Lib.hid (.inl (List.eq_nil_of_length_eq_zero (by rw [List.length_tail, ← HNR.out])))
        have Ht5 : Hid (0 = R.tail.length ∧ 0 ≤ 0 ∧ ((some ⟨g, 0, none⟩ : Option Addr) = none → 0 = 0)) := Lib.hid ⟨by rw [List.length_tail, ← HNR.out], by omega, fun h => by cases h⟩
        clear hat4
        refine wpAny_take (i := 0) (v := ?_) rfl (by kernel_rfl) (by kernel_rfl) (by kernel_rfl) (fun _ _ _ h => h) (Or.inl ⟨by rfl, ?y0⟩) ?_
        case y0 => intro w; go_simp; first | done | with_reducible rfl
        refine wpAny_take (i := 2) (v := ?_) rfl (by kernel_rfl) (by kernel_rfl) (by kernel_rfl) (fun _ _ _ h => h) (Or.inl ⟨by rfl, ?y2⟩) ?_
        case y2 => intro w; go_simp; first | done | with_reducible rfl
        refine wpAny_take (i := 3) (v := ?_) rfl (by kernel_rfl) (by kernel_rfl) (by kernel_rfl) (fun _ _ _ h => h) (Or.inl ⟨by rfl, ?y3⟩) ?_
        case y3 => intro w; go_simp; first | done | with_reducible rfl
        refine wpAny_ready (rs := [1]) (by kernel_rfl) (by simp) ?_
        refine AllReady.cons rfl (fun K hK => ?_) AllReady.nil
        go_simp
        go_wp2_with (go_at_call 22; refine (callsIn_any w.heap.size (.slice (some ⟨g, 0, none⟩) 1 1) R 1 w4' HNR (by omega) HO4.out).mono ?_; rintro e w5 ⟨v5, rfl, own5, hb5⟩)
        try (refine hK _ _ ?_; clear hK K)
        obtain ⟨a5, c5, rfl, hca5, hcc5, hn5⟩ := own_cases own5 (by rw [List.length_reverse]; exact HNR.out)
        have HC5 := Lib.hid hca5
        have H05 : Hid (1 = R.reverse.length ∧ 1 ≤ c5 ∧ (a5 = none → c5 = 0)) := Lib.hid ⟨by rw [List.length_reverse]; exact HNR.out, hcc5, hn5⟩
        have HO5 := Lib.hid (own_later HO4.out hb5)
        have Hb5 := Lib.hid (Hb4.out.trans (hb5.mono Hb4.out.size))
        have HTa5 := Lib.hid (HTa.out.kept hb5)
        clear own5 hca5 hcc5 hn5 hb5
        refine wpAny_ready (rs := [4]) (by kernel_rfl) (by simp) ?_
        refine AllReady.cons rfl (fun K hK => ?_) AllReady.nil
        go_simp
        try (refine hK _ _ ?_; clear hK K)
        refine wpAny_ready (rs := [5]) (by kernel_rfl) (by simp) ?_
        refine AllReady.cons rfl (fun K hK => ?_) AllReady.nil
        go_simp
        go_wp2_with (go_at_call 21; refine (concatA _ w5.heap.size 1 0 c5 0 a5 (some ⟨g, 0, none⟩) R.reverse R.tail H05 (Lib.hid ⟨Ht5.out.1, by omega, fun h => by cases h⟩) (by omega) (by omega) ⟨by simp, by simp⟩ (HC5.out.kept (bel_alloc _)) (HTa5.out.kept (bel_alloc _))).mono ?_; rintro e w7 ⟨v7, rfl, own7, hb7⟩)
        try (refine hK _ _ ?_; clear hK K)
        have hbA : Below w5.heap.size w5 (w5.alloc (.cells #[.slice a5 1 c5, .slice (some ⟨g, 0, none⟩) 0 0] 24)) := bel_alloc _
        have hbB := Hb5.out.trans (hbA.mono Hb5.out.size)
        have Hb7 := Lib.hid (hbB.trans (hb7.mono hbB.size))
        have Hf7 : Hid (w7.ownsRow w.heap.size 35 2 v7 (tpR (F : Int) l).length (cs (tpR (F : Int) l))) := Lib.hid (by rw [Hy.out]; exact own_base hbB.size own7)
        clear own7 hb7 hbA hbB
        refine wpAny_ready (rs := [6]) (by kernel_rfl) (by simp) ?_
        refine AllReady.cons rfl (fun K hK => ?_) AllReady.nil
        go_simp
        try (refine hK _ _ ?_; clear hK K)
        refine wpAny_ready (rs := [7]) (by kernel_rfl) (by simp) ?_
        refine AllReady.cons rfl (fun K hK => ?_) AllReady.nil
        go_simp
        try (refine hK _ _ ?_; clear hK K)
        refine wpAny_done (by kernel_rfl) ?_ _
        go_wp2_with fail
        go_ret2
        exact ⟨_, rfl, Hf7.out, Hb7.out⟩
      · have HTa : Hid (CallsAt w4' (some ⟨g, 2, none⟩) R.tail) := Lib.hid (calls_tail hat4)
        have Ht5 : Hid (N - 1 = R.tail.length ∧ N - 1 ≤ c - 1 ∧ ((some ⟨g, 2, none⟩ : Option Addr) = none → c - 1 = 0)) := Lib.hid ⟨by rw [List.length_tail, ← HNR.out], by omega, fun h => by cases h⟩
        clear hat4
        refine wpAny_take (i := 0) (v := ?_) rfl (by kernel_rfl) (by kernel_rfl) (by kernel_rfl) (fun _ _ _ h => h) (Or.inl ⟨by rfl, ?y0⟩) ?_
        case y0 => intro w; go_simp; first | done | with_reducible rfl
        refine wpAny_take (i := 2) (v := ?_) rfl (by kernel_rfl) (by kernel_rfl) (by kernel_rfl) (fun _ _ _ h => h) (Or.inl ⟨by rfl, ?y2⟩) ?_
        case y2 => intro w; go_simp; first | done | with_reducible rfl
        refine wpAny_take (i := 3) (v := ?_) rfl (by kernel_rfl) (by kernel_rfl) (by kernel_rfl) (fun _ _ _ h => h) (Or.inl ⟨by rfl, ?y3⟩) ?_
        case y3 => intro w; go_simp; first | done | with_reducible rfl
        refine wpAny_ready (rs := [1]) (by kernel_rfl) (by simp) ?_
        refine AllReady.cons rfl (fun K hK => ?_) AllReady.nil
        go_simp
        go_wp2_with (go_at_call 22; refine (callsIn_any w.heap.size (.slice (some ⟨g, 0, none⟩) N c) R N w4' HNR (by omega) HO4.out).mono ?_; rintro e w5 ⟨v5, rfl, own5, hb5⟩)
        try (refine hK _ _ ?_; clear hK K)
        obtain ⟨a5, c5, rfl, hca5, hcc5, hn5⟩ := own_cases own5 (by rw [List.length_reverse]; exact HNR.out)
        have HC5 := Lib.hid hca5
        have H05 : Hid (N = R.reverse.length ∧ N ≤ c5 ∧ (a5 = none → c5 = 0)) := Lib.hid ⟨by rw [List.length_reverse]; exact HNR.out, hcc5, hn5⟩
        have HO5 := Lib.hid (own_later HO4.out hb5)
        have Hb5 := Lib.hid (Hb4.out.trans (hb5.mono Hb4.out.size))
        have HTa5 := Lib.hid (HTa.out.kept hb5)
        clear own5 hca5 hcc5 hn5 hb5
        refine wpAny_ready (rs := [4]) (by kernel_rfl) (by simp) ?_
        refine AllReady.cons rfl (fun K hK => ?_) AllReady.nil
        go_simp
        try (refine hK _ _ ?_; clear hK K)
        refine wpAny_ready (rs := [5]) (by kernel_rfl) (by simp) ?_
        refine AllReady.cons rfl (fun K hK => ?_) AllReady.nil
        go_simp
        go_wp2_with (go_at_call 21; refine (concatA _ w5.heap.size N (N - 1) c5 (c - 1) a5 (some ⟨g, 2, none⟩) R.reverse R.tail H05 (Lib.hid ⟨Ht5.out.1, by omega, fun h => by cases h⟩) (by omega) (by omega) ⟨by simp, by simp⟩ (HC5.out.kept (bel_alloc _)) (HTa5.out.kept (bel_alloc _))).mono ?_; rintro e w7 ⟨v7, rfl, own7, hb7⟩)
        try (refine hK _ _ ?_; clear hK K)
        have hbA : Below w5.heap.size w5 (w5.alloc (.cells #[.slice a5 N c5, .slice (some ⟨g, 2, none⟩) (N - 1) (c - 1)] 24)) := bel_alloc _
        have hbB := Hb5.out.trans (hbA.mono Hb5.out.size)
        have Hb7 := Lib.hid (hbB.trans (hb7.mono hbB.size))
        have Hf7 : Hid (w7.ownsRow w.heap.size 35 2 v7 (tpR (F : Int) l).length (cs (tpR (F : Int) l))) := Lib.hid (by rw [Hy.out]; exact own_base hbB.size own7)
        clear own7 hb7 hbA hbB
        refine wpAny_ready (rs := [6]) (by kernel_rfl) (by simp) ?_
        refine AllReady.cons rfl (fun K hK => ?_) AllReady.nil
        go_simp
        try (refine hK _ _ ?_; clear hK K)
        refine wpAny_ready (rs := [7]) (by kernel_rfl) (by simp) ?_
        refine AllReady.cons rfl (fun K hK => ?_) AllReady.nil
        go_simp
        try (refine hK _ _ ?_; clear hK K)
        refine wpAny_done (by kernel_rfl) ?_ _
        go_wp2_with fail
        go_ret2
        exact ⟨_, rfl, Hf7.out, Hb7.out⟩

end Go.Proofs.YtibjapfaljeclaaDoor
