/- CastsOf, both sides. -/
import Derived.Test.YtaangjidkkpogaaFl
namespace Go.Proofs.Ytaangjidkkpogaa
open Go.ChangeShapes Go.WideShapes Go.ChangeAt Go.RowKit
set_option linter.unusedVariables false


theorem zero_strs (n : Nat) : (madeCells #[.string ⟨#[]⟩] n).toList = ts (List.replicate n ⟨#[]⟩) := by
  rw [toList_madeCells_one]
  simp [ts]
set_option maxRecDepth 20000 in
theorem ofStr_any {B0 : Nat} (w : World) (ao : Option Addr) (cap N : Nat) (L : List (List Bool)) (HN : Hid (N = L.length)) (hN : N ≤ 256) (own : w.ownsRow B0 60 1 (.slice ao N cap) N (ts (tc L))) :
    Calls Try.prog 47 #[.slice ao N cap, .func (.func 48) #[] #[]] w fun e w' => ∃ v, e = .returned v ∧ w'.ownsRow w.heap.size 9 1 v N (ts (tc L)) ∧ Below w.heap.size w w' := by
  obtain ⟨i0, hi, hz0, hz1, hz2⟩ := info_parts info9
  have Hz := Lib.hid (And.intro hz0 (And.intro hz1 hz2))
  have e57 : ∀ args w, (callFunc 48 args).run Try.prog w = .ok (.enter 48 args) w := enters_of Try.func48 (by kernel_rfl) rfl
  clear hz0 hz1 hz2
  by_cases hN0 : N = 0
  · have hL0 : L = [] := List.eq_nil_of_length_eq_zero (by rw [← HN.out]; exact hN0)
    subst hL0
    subst hN0
    clear own
    go_enter Try.func47, Try.ntmps47
    go_wp2_with (refine wpList_make_full _ rfl _ _ 31 rfl w.heap.size 9 i0 (.string ⟨#[]⟩) 1 Try.underlying31 hi Hz.out.1 Hz.out.2.1 .i64 .i64 _ _ 0 rfl rfl rfl rfl ?_ ?_ ?_ ?_)
    · rw [Hz.out.2.2]; omega
    · unfold maxLen; omega
    · exact Nat.le_refl _
    intro w1 hown hgr
    have Hown0 : Hid (w1.ownsRow w.heap.size 9 1 (.slice (some ⟨w.heap.size, 0, none⟩) 0 0) 0 (ts (tc []))) := Lib.hid (by have hz := zero_strs 0; rw [hz] at hown; exact hown)
    have Hgr := Lib.hid ((Below.refl w.heap.size w).grown hgr (Nat.le_refl _) (fun _ h => by cases h))
    clear hown hgr
    go_wp2_with fail
    go_rounds 1
    go_ret
    exact ⟨_, rfl, Hown0.out, Hgr.out⟩
  · obtain ⟨g, rfl, hcap, _, hb, HC⟩ := fit_cells own HN.out (by omega)
    clear own
    go_enter Try.func47, Try.ntmps47
    go_wp2_with (refine wpList_make_full _ rfl _ _ 31 rfl w.heap.size 9 i0 (.string ⟨#[]⟩) 1 Try.underlying31 hi Hz.out.1 Hz.out.2.1 .i64 .i64 _ _ N rfl rfl rfl rfl ?_ ?_ ?_ ?_)
    · rw [Hz.out.2.2]; omega
    · unfold maxLen; omega
    · exact Nat.le_refl _
    intro w1 hown hgr
    have Hown0 : Hid (w1.ownsRow w.heap.size 9 1 (.slice (some ⟨w.heap.size, 0, none⟩) N N) N (ts (tpart (tc L) 0))) := Lib.hid (by rw [tpart_zero, tc_len, ← HN.out, ← zero_strs]; exact hown)
    have Hgr := Lib.hid ((Below.refl w.heap.size w).grown hgr (Nat.le_refl _) (fun _ h => by cases h))
    clear hown hgr
    go_wp2_with fail
    go_loopw [13] (fun i wr => ∃ k : Nat, k ≤ N ∧ i = .int .i64 k ∧ wr.ownsRow w.heap.size 9 1 (.slice (some ⟨w.heap.size, 0, none⟩) N N) N (ts (tpart (tc L) k)) ∧ Below w.heap.size w wr) (fun i _ => N - (intOf i).toNat)
    case atStart => exact ⟨0, Nat.zero_le _, rfl, Hown0.out, Hgr.out⟩
    case round =>
      obtain ⟨k, hk, rfl, hor, hbel⟩ := hrel
      by_cases hlt : k < N
      · have hkl : k < L.length := by rw [← HN.out]; exact hlt
        have hc := (hbel.cell (p := ⟨g, k, none⟩) hb).trans (HC.out k hkl)
        obtain ⟨u0, z0⟩ := own_some hor k (by omega)
        have zf0 := hor.frozenAt k
        have hor3 := (hor.stored k (.string (ta (tc L) k))).1
        rw [ts_set, tpart_set (tc L) k (by rw [tc_len]; exact hkl)] at hor3
        have Hor3 := Lib.hid hor3
        have hv : cbs L[k] = ta (tc L) k := (tc_get L k hkl).symm
        rw [hv] at hc
        obtain ⟨z, hzz⟩ : ∃ z, ta (tc L) k = z := ⟨_, rfl⟩
        rw [hzz] at hc Hor3
        have HV := Lib.hid (text_any z wr)
        have Hbel := Lib.hid hbel
        clear hor3 hor hbel hv hzz
        go_wp2_with (go_at_fn 48; refine HV.out.mono ?_; rintro e w' ⟨rfl, rfl⟩)
        go_roundw
        case rel => exact ⟨k + 1, by omega, by go_num, Hor3.out, Hbel.out.setCell (Nat.le_refl _) _⟩
        case measure => simp [intOf]; omega
      · have hk' : k = N := by omega
        have hp : tpart (tc L) k = tc L := by rw [hk', HN.out, ← tc_len, tpart_all]
        rw [hp] at hor
        have Hor := Lib.hid hor
        clear hor hp hk'
        go_wp2
        go_ret
        exact ⟨_, rfl, Hor.out, hbel⟩
def coR (f : Int) (l : List Snd) : List ByteArray := tc (fitB f l)
theorem coR_len (f : Int) (l : List Snd) : (coR f l).length ≤ 1000 := by unfold coR; rw [tc_len]; have := fitB_len f l; omega
theorem implCO_any (w : World) (f : Int) (ao : Option Addr) (cap : Nat) (l : List Snd) (n : Nat) (Hn : Hid (n = l.length)) (hn : n ≤ 1048576) (hcap : n ≤ cap) (hc : SendsAt w ao l) :
    Calls Try.prog 20 #[.int .i64 f, .slice ao n cap] w fun e w' => ∃ v, e = .returned (.tuple #[v, .bool (clB f l)]) ∧ w'.ownsRow w.heap.size 9 1 v (coR f l).length (ts (coR f l)) ∧ Below w.heap.size w w' := by
  have HX := Lib.hid (implCF_any w f ao cap l n Hn hn hc)
  have hlen8 := fitB_len f l
  obtain ⟨r, hr⟩ : ∃ r, coR f l = r := ⟨_, rfl⟩
  have HR := Lib.hid hr
  rw [hr]
  clear hr hc
  go_enter Try.func20, Try.ntmps20
  go_wp2_with fail
  refine HX.out.mono ?_
  rintro e w1 ⟨v, M, HM, rfl, own, hb1⟩
  obtain ⟨ao2, cap2, rfl, _, _, _⟩ := strs_shape own (by rw [tc_len]; exact HM.out)
  have HO := Lib.hid (ofStr_any w1 ao2 cap2 M (fitB f l) HM (by rw [HM.out]; exact hlen8) own)
  have Hb1 := Lib.hid hb1
  clear own hb1
  go_wp2_with fail
  refine HO.out.mono ?_
  rintro e w2 ⟨v2, rfl, own2, hb2⟩
  have Own2 : Hid (w2.ownsRow w.heap.size 9 1 v2 r.length (ts r)) := Lib.hid (by
    have h := own_base own2 Hb1.out.size
    rw [HM.out, ← tc_len] at h
    rw [← HR.out]; exact h)
  have Hb2 := Lib.hid (Hb1.out.trans (hb2.mono Hb1.out.size))
  clear own2 hb2
  go_wp2_with fail
  go_ret2
  exact ⟨v2, rfl, Own2.out, Hb2.out⟩
theorem specCO_any (w : World) (f : Int) (ao : Option Addr) (cap : Nat) (l : List Snd) (n : Nat) (Hn : Hid (n = l.length)) (hn : n ≤ 1048576) (hcap : n ≤ cap) (hc : SendsAt w ao l) :
    Calls Try.prog 19 #[.int .i64 f, .slice ao n cap] w fun e w' => ∃ v, e = .returned (.tuple #[v, .bool (clB f l)]) ∧ w'.ownsRow w.heap.size 9 1 v (coR f l).length (ts (coR f l)) ∧ Below w.heap.size w w' := by
  have HG := Lib.hid (liGood_any w f ao cap l n Hn hn hc)
  cases hcl : clB f l
  · have hr : coR f l = [] := by unfold coR; rw [fitB_no hcl]; rfl
    rw [hr]
    rw [hcl] at HG
    clear hr hc hcl
    go_enter Try.func19, Try.ntmps19
    go_wp2_with fail
    refine HG.out.mono ?_
    rintro e w1 ⟨rfl, hb1⟩
    go_wp2_with fail
    go_ret2
    exact ⟨.slice none 0 0, rfl, World.ownsRow_nil _ _ _ _, hb1⟩
  · have HX := Lib.hid (fun w1 hw => liAll_any w1 f ao cap l n Hn hn hcap (hc.kept hw) hcl)
    obtain ⟨r, hr⟩ : ∃ r, coR f l = r := ⟨_, rfl⟩
    have HR := Lib.hid hr
    rw [hr]
    rw [hcl] at HG
    clear hr hc hcl
    go_enter Try.func19, Try.ntmps19
    go_wp2_with fail
    refine HG.out.mono ?_
    rintro e w1 ⟨rfl, hb1⟩
    have Hb1 := Lib.hid hb1
    clear hb1
    go_wp2_with fail
    refine (HX.out _ Hb1.out).mono ?_
    rintro e w2 ⟨ao2, M, cap2, HM, rfl, own, hb2⟩
    have Own2 : Hid (w2.ownsRow w.heap.size 9 1 (.slice ao2 M cap2) r.length (ts r)) := Lib.hid (by
      have h := own_base own Hb1.out.size
      rw [← HR.out, coR, tc_len, ← HM.out]; exact h)
    have Hb2 := Lib.hid (Hb1.out.trans (hb2.mono Hb1.out.size))
    clear own hb2
    go_wp2_with fail
    go_ret2
    exact ⟨_, rfl, Own2.out, Hb2.out⟩

end Go.Proofs.Ytaangjidkkpogaa
