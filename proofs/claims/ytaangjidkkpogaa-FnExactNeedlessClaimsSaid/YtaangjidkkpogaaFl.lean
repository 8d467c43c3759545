/- The fewest and the most liars, both sides. -/
import Derived.Test.YtaangjidkkpogaaMm
namespace Go.Proofs.Ytaangjidkkpogaa
open Go.ChangeShapes Go.WideShapes Go.ChangeAt Go.RowKit
set_option linter.unusedVariables false


def soB (f : Int) (l : List Snd) : Bool := clB f l && decide (0 < (fitB f l).length)
theorem implST_any (w : World) (f : Int) (ao : Option Addr) (cap : Nat) (l : List Snd) (n : Nat) (Hn : Hid (n = l.length)) (hn : n ≤ 1048576) (hcap : n ≤ cap) (hc : SendsAt w ao l) :
    Calls Try.prog 50 #[.int .i64 f, .slice ao n cap] w fun e w' => ∃ ao2 M cap2, Hid (M = (fitB f l).length) ∧ e = .returned (.tuple #[.slice ao2 M cap2, .bool (soB f l)]) ∧ w'.ownsRow w.heap.size 60 1 (.slice ao2 M cap2) M (ts (tc (fitB f l))) ∧ Below w.heap.size w w' := by
  have HX := Lib.hid (implCF_any w f ao cap l n Hn hn hc)
  obtain ⟨R, hR⟩ : ∃ R, fitB f l = R := ⟨_, rfl⟩
  have hs : soB f l = (clB f l && decide (0 < R.length)) := by rw [← hR]; rfl
  rw [hR] at HX ⊢
  rw [hs]
  clear hR hc hs
  cases hcl : clB f l
  · rw [hcl] at HX
    clear hcl
    go_enter Try.func50, Try.ntmps50
    go_wp2_with fail
    refine HX.out.mono ?_
    rintro e w1 ⟨v, M, HM, rfl, own, hb1⟩
    obtain ⟨ao2, cap2, rfl, _, _, _⟩ := strs_shape own (by rw [tc_len]; exact HM.out)
    have Own := Lib.hid own
    clear own
    go_wp2_with fail
    go_ret2
    exact ⟨ao2, M, cap2, HM, rfl, Own.out, hb1⟩
  · rw [hcl] at HX
    clear hcl
    go_enter Try.func50, Try.ntmps50
    go_wp2_with fail
    refine HX.out.mono ?_
    rintro e w1 ⟨v, M, HM, rfl, own, hb1⟩
    obtain ⟨ao2, cap2, rfl, _, _, _⟩ := strs_shape own (by rw [tc_len]; exact HM.out)
    have Own := Lib.hid own
    clear own
    go_wp2_with fail
    go_ret2
    exact ⟨ao2, M, cap2, HM, by rw [← HM.out]; simp, Own.out, hb1⟩
theorem fit_cells {w : World} {base : Nat} {e : TypeId} {ao : Option Addr} {M cap : Nat} {L : List (List Bool)} (own : w.ownsRow base e 1 (.slice ao M cap) M (ts (tc L))) (hM : M = L.length) (h0 : 0 < M) :
    ∃ g, ao = some ⟨g, 0, none⟩ ∧ M ≤ cap ∧ base ≤ g ∧ g < w.heap.size ∧ Hid (∀ j, (hj : j < L.length) → w.cell? ⟨g, j, none⟩ = some (.string (cbs L[j]))) := by
  obtain ⟨g, cap2, h⟩ := own_apos own h0
  simp only [Value.slice.injEq] at h
  obtain ⟨rfl, _, rfl⟩ := h
  refine ⟨g, rfl, own_cap3 own, (own.lt g rfl).1, (own.lt g rfl).2, Lib.hid (fun j hj => ?_)⟩
  have h1 := own.cellAt j (by omega)
  rw [ts_get _ j (by rw [tc_len]; exact hj), tc_get _ j hj] at h1
  exact h1
theorem fitB_clen {f : Int} {l : List Snd} : ∀ c ∈ fitB f l, c.length ≤ 100 := by
  intro c hc
  unfold fitB at hc
  split at hc
  · rename_i h
    have h1 := allF_mem hc
    have := (cl_parts h).1
    omega
  · simp at hc
theorem fitB_clen2 {f : Int} {l : List Snd} (h : clB f l = true) : ∀ c ∈ fitB f l, (c.length : Int) = f := by
  intro c hc
  unfold fitB at hc
  rw [if_pos h] at hc
  have h1 := allF_mem hc
  have := (cl_parts h).1
  omega
def flR (mx : Bool) (f : Int) (l : List Snd) : Int := if soB f l then foF mx (LF (fitB f l)) ((fitB f l).length - 1) else 0

theorem implFL_any (w : World) (f : Int) (ao : Option Addr) (cap : Nat) (l : List Snd) (n : Nat) (Hn : Hid (n = l.length)) (hn : n ≤ 1048576) (hcap : n ≤ cap) (hc : SendsAt w ao l) :
    Calls Try.prog 28 #[.int .i64 f, .slice ao n cap] w fun e w' => e = .returned (.tuple #[.int .i64 (flR false f l), .bool (soB f l)]) ∧ Below w.heap.size w w' := by
  have HX := Lib.hid (implST_any w f ao cap l n Hn hn hcap hc)
  have hlen8 := fitB_len f l
  have HLL : Hid (∀ c ∈ fitB f l, c.length ≤ 100) := fitB_clen
  obtain ⟨r, hr⟩ : ∃ r, flR false f l = r := ⟨_, rfl⟩
  cases hs : soB f l
  · have h0 : flR false f l = 0 := by unfold flR; rw [hs]; rfl
    rw [h0]
    rw [hs] at HX
    clear h0 hs hc hr
    go_enter Try.func28, Try.ntmps28
    go_wp2_with fail
    refine HX.out.mono ?_
    rintro e w1 ⟨ao2, M, cap2, HM, rfl, own, hb1⟩
    clear own
    go_wp2_with fail
    go_ret2
    exact ⟨rfl, hb1⟩
  · have hr2 : r = foF false (LF (fitB f l)) ((fitB f l).length - 1) := by rw [← hr]; unfold flR; rw [hs]; rfl
    have hl0 : 0 < (fitB f l).length := by simp [soB] at hs; exact hs.2
    rw [hs] at HX
    rw [hr]
    obtain ⟨L, hL⟩ : ∃ L, fitB f l = L := ⟨_, rfl⟩
    rw [hL] at HX hlen8 HLL hr2 hl0
    have HR := Lib.hid hr2
    clear hs hc hr hr2 hL
    go_enter Try.func28, Try.ntmps28
    go_wp2_with fail
    refine HX.out.mono ?_
    rintro e w1 ⟨ao2, M, cap2, HM, rfl, own, hb1⟩
    have hM0 : 0 < M := by rw [HM.out]; exact hl0
    obtain ⟨g, rfl, hcap2, _, _, HC⟩ := fit_cells own HM.out hM0
    have HM2 := Lib.hid HM.out
    have hM8 : M ≤ 256 := by rw [HM.out]; exact hlen8
    have Hb1 := Lib.hid hb1
    clear own hb1
    go_wp2_with fail
    refine (ofInt_any _ g cap2 M L HM2 hM8 hcap2 hM0 HLL HC).mono ?_
    rintro e w2 ⟨g2, cap3, rfl, own2, hb2⟩
    have Hb2 := Lib.hid (Hb1.out.trans (hb2.mono Hb1.out.size))
    have HC2 : Hid (∀ i : Nat, i < M → w2.cell? ⟨g2, i, none⟩ = some (.int .i64 (LF L i))) := Lib.hid (fun i hi => by
      have h1 := own2.cellAt i (by omega)
      rw [ns_get _ i (by rw [lfs_len, ← HM2.out]; exact hi), lfs_at L i (by rw [← HM2.out]; exact hi)] at h1
      exact h1)
    clear own2 hb2
    go_wp2_with fail
    refine (min_pos g2 cap3 (LF L) M w2 hM0 (by omega) HC2).mono ?_
    rintro e w' ⟨rfl, rfl⟩
    go_wp2_with fail
    go_ret2
    exact ⟨by rw [HR.out, ← HM2.out]; rfl, Hb2.out⟩
set_option maxRecDepth 20000 in
theorem specFL_any (w : World) (f : Int) (ao : Option Addr) (cap : Nat) (l : List Snd) (n : Nat) (Hn : Hid (n = l.length)) (hn : n ≤ 1048576) (hcap : n ≤ cap) (hc : SendsAt w ao l) :
    Calls Try.prog 27 #[.int .i64 f, .slice ao n cap] w fun e w' => e = .returned (.tuple #[.int .i64 (flR false f l), .bool (soB f l)]) ∧ Below w.heap.size w w' := by
  have HG := Lib.hid (liGood_any w f ao cap l n Hn hn hc)
  cases hcl : clB f l
  · have hs : soB f l = false := by simp [soB, hcl]
    have h0 : flR false f l = 0 := by unfold flR; rw [hs]; rfl
    rw [h0, hs]
    rw [hcl] at HG
    clear h0 hs hc hcl
    go_enter Try.func27, Try.ntmps27
    go_wp2_with fail
    refine HG.out.mono ?_
    rintro e w1 ⟨rfl, hb1⟩
    go_wp2_with fail
    go_ret2
    exact ⟨rfl, hb1⟩
  · have HX := Lib.hid (fun w1 hw => liAll_any w1 f ao cap l n Hn hn hcap (hc.kept hw) hcl)
    have hlen8 := fitB_len f l
    have HLL := Lib.hid (fitB_clen2 hcl)
    have hf8 := (cl_parts hcl).1
    have hsB : soB f l = decide (0 < (fitB f l).length) := by simp [soB, hcl]
    have hfl : flR false f l = if decide (0 < (fitB f l).length) then foF false (LF (fitB f l)) ((fitB f l).length - 1) else 0 := by unfold flR; rw [hsB]
    rw [hsB, hfl]
    rw [hcl] at HG
    obtain ⟨L, hL⟩ : ∃ L, fitB f l = L := ⟨_, rfl⟩
    rw [hL] at HX hlen8 HLL ⊢
    clear hc hcl hsB hfl hL
    by_cases hl0 : 0 < L.length
    · obtain ⟨r, hr⟩ : ∃ r, foF false (LF L) (L.length - 1) = r := ⟨_, rfl⟩
      have HR := Lib.hid hr
      rw [decide_eq_true hl0, if_pos rfl, hr]
      have HS : Hid (foS false f (LF L) L.length = r) := Lib.hid (by
        rw [← hr, show L.length = (L.length - 1) + 1 by omega]
        refine foS_F _ _ _ ?_ _
        have h1 := LF_at L 0 hl0
        have h2 := lrs_le L[0]
        have h3 := HLL.out _ (List.getElem_mem hl0)
        rw [show ((0 : Nat) : Int) = 0 from rfl] at h1
        rw [h1]; unfold op2; first | (simp; done) | (simp; omega))
      have hl0' := hl0
      clear hr
      go_enter Try.func27, Try.ntmps27
      go_wp2_with fail
      refine HG.out.mono ?_
      rintro e w1 ⟨rfl, hb1⟩
      have Hb1 := Lib.hid hb1
      clear hb1
      go_wp2_with fail
      refine (HX.out _ Hb1.out).mono ?_
      rintro e w2 ⟨ao2, M, cap2, HM, rfl, own, hb2⟩
      have hM0 : 0 < M := by rw [HM.out]; exact hl0
      obtain ⟨g, rfl, hcap2, _, hgs, HC⟩ := fit_cells own HM.out hM0
      have hM8 : M ≤ 256 := by rw [HM.out]; exact hlen8
      have hMz : ((M : Int) == 0) = false := by simp; omega
      have Hb2 := Lib.hid (Hb1.out.trans (hb2.mono Hb1.out.size))
      obtain ⟨H2, hH2⟩ : ∃ H2, w2.heap.size = H2 := ⟨_, rfl⟩
      have HH2 := Lib.hid hH2
      rw [hH2] at hgs
      clear own hb2 hH2 hl0 hl0'
      go_wp2_with fail
      go_loopw [7, 23] (fun v i wr => ∃ k : Nat, k ≤ M ∧ i = .int .i64 k ∧ v = .int .i64 (foS false f (LF L) k) ∧ Below H2 w2 wr) (fun _ i _ => M - (intOf i).toNat)
      case atStart => exact ⟨0, Nat.zero_le _, rfl, rfl, by rw [← HH2.out]; exact Below.refl _ _⟩
      case round =>
        obtain ⟨k, hk, rfl, rfl, hb3⟩ := hrel
        by_cases hlt : k < M
        · have hkl : k < L.length := by rw [← HM.out]; exact hlt
          have hc := (hb3.cell (p := ⟨g, k, none⟩) hgs).trans (HC.out k hkl)
          have hcl2 := HLL.out _ (List.getElem_mem hkl)
          have HV := Lib.hid (liLiars_any L[k] wr (by omega))
          rw [← LF_at L k hkl] at HV
          have HS2 : Hid (foS false f (LF L) (k + 1) = op2 false (foS false f (LF L) k) (LF L k)) := Lib.hid rfl
          obtain ⟨x, hx⟩ : ∃ x, LF L (k : Int) = x := ⟨_, rfl⟩
          obtain ⟨y, hy⟩ : ∃ y, foS false f (LF L) k = y := ⟨_, rfl⟩
          rw [hx] at HV HS2
          rw [hy] at HS2 ⊢
          generalize cbs L[k] = s at hc HV
          have Hb3 := Lib.hid hb3
          have hsz : H2 ≤ wr.heap.size := by have := hb3.size; have := HH2.out; omega
          clear hb3 hcl2 hx hy
          go_wp2_with fail
          refine HV.out.mono ?_
          rintro e w4 ⟨rfl, hb4⟩
          have Hb4 := Lib.hid (Hb3.out.trans (hb4.mono hsz))
          clear hb4
          go_wp2_with fail
          refine (l1Least_any y x _).mono ?_
          rintro e w' ⟨rfl, rfl⟩
          go_wp2_with fail
          go_roundw
          case rel => exact ⟨k + 1, by omega, by go_num, by rw [HS2.out], Hb4.out⟩
          case measure => simp [intOf]; omega
        · have hkM : k = M := by omega
          have HE : Hid (foS false f (LF L) k = r) := Lib.hid (by rw [hkM, HM.out]; exact HS.out)
          have Hb5 := Lib.hid (Hb2.out.trans (hb3.mono (by rw [← HH2.out]; exact Hb2.out.size)))
          rw [HE.out]
          clear hb3 hkM
          go_wp2_with fail
          go_ret2
          exact ⟨rfl, Hb5.out⟩
    · rw [decide_eq_false hl0]
      have hr0 : (if false = true then foF false (LF L) (L.length - 1) else 0) = 0 := by simp
      rw [hr0]
      clear hr0
      go_enter Try.func27, Try.ntmps27
      go_wp2_with fail
      refine HG.out.mono ?_
      rintro e w1 ⟨rfl, hb1⟩
      have Hb1 := Lib.hid hb1
      clear hb1
      go_wp2_with fail
      refine (HX.out _ Hb1.out).mono ?_
      rintro e w2 ⟨ao2, M, cap2, HM, rfl, own, hb2⟩
      have hM0 : M = 0 := by rw [HM.out]; omega
      have hMz : ((M : Int) == 0) = true := by rw [hM0]; rfl
      have Hb2 := Lib.hid (Hb1.out.trans (hb2.mono Hb1.out.size))
      clear own hb2 hM0 HM
      go_wp2_with fail
      go_ret2
      exact ⟨rfl, Hb2.out⟩

theorem implML_any (w : World) (f : Int) (ao : Option Addr) (cap : Nat) (l : List Snd) (n : Nat) (Hn : Hid (n = l.length)) (hn : n ≤ 1048576) (hcap : n ≤ cap) (hc : SendsAt w ao l) :
    Calls Try.prog 30 #[.int .i64 f, .slice ao n cap] w fun e w' => e = .returned (.tuple #[.int .i64 (flR true f l), .bool (soB f l)]) ∧ Below w.heap.size w w' := by
  have HX := Lib.hid (implST_any w f ao cap l n Hn hn hcap hc)
  have hlen8 := fitB_len f l
  have HLL : Hid (∀ c ∈ fitB f l, c.length ≤ 100) := fitB_clen
  obtain ⟨r, hr⟩ : ∃ r, flR true f l = r := ⟨_, rfl⟩
  cases hs : soB f l
  · have h0 : flR true f l = 0 := by unfold flR; rw [hs]; rfl
    rw [h0]
    rw [hs] at HX
    clear h0 hs hc hr
    go_enter Try.func30, Try.ntmps30
    go_wp2_with fail
    refine HX.out.mono ?_
    rintro e w1 ⟨ao2, M, cap2, HM, rfl, own, hb1⟩
    clear own
    go_wp2_with fail
    go_ret2
    exact ⟨rfl, hb1⟩
  · have hr2 : r = foF true (LF (fitB f l)) ((fitB f l).length - 1) := by rw [← hr]; unfold flR; rw [hs]; rfl
    have hl0 : 0 < (fitB f l).length := by simp [soB] at hs; exact hs.2
    rw [hs] at HX
    rw [hr]
    obtain ⟨L, hL⟩ : ∃ L, fitB f l = L := ⟨_, rfl⟩
    rw [hL] at HX hlen8 HLL hr2 hl0
    have HR := Lib.hid hr2
    clear hs hc hr hr2 hL
    go_enter Try.func30, Try.ntmps30
    go_wp2_with fail
    refine HX.out.mono ?_
    rintro e w1 ⟨ao2, M, cap2, HM, rfl, own, hb1⟩
    have hM0 : 0 < M := by rw [HM.out]; exact hl0
    obtain ⟨g, rfl, hcap2, _, _, HC⟩ := fit_cells own HM.out hM0
    have HM2 := Lib.hid HM.out
    have hM8 : M ≤ 256 := by rw [HM.out]; exact hlen8
    have Hb1 := Lib.hid hb1
    clear own hb1
    go_wp2_with fail
    refine (ofInt_any _ g cap2 M L HM2 hM8 hcap2 hM0 HLL HC).mono ?_
    rintro e w2 ⟨g2, cap3, rfl, own2, hb2⟩
    have Hb2 := Lib.hid (Hb1.out.trans (hb2.mono Hb1.out.size))
    have HC2 : Hid (∀ i : Nat, i < M → w2.cell? ⟨g2, i, none⟩ = some (.int .i64 (LF L i))) := Lib.hid (fun i hi => by
      have h1 := own2.cellAt i (by omega)
      rw [ns_get _ i (by rw [lfs_len, ← HM2.out]; exact hi), lfs_at L i (by rw [← HM2.out]; exact hi)] at h1
      exact h1)
    clear own2 hb2
    go_wp2_with fail
    refine (max_pos g2 cap3 (LF L) M w2 hM0 (by omega) HC2).mono ?_
    rintro e w' ⟨rfl, rfl⟩
    go_wp2_with fail
    go_ret2
    exact ⟨by rw [HR.out, ← HM2.out]; rfl, Hb2.out⟩
set_option maxRecDepth 20000 in
theorem specML_any (w : World) (f : Int) (ao : Option Addr) (cap : Nat) (l : List Snd) (n : Nat) (Hn : Hid (n = l.length)) (hn : n ≤ 1048576) (hcap : n ≤ cap) (hc : SendsAt w ao l) :
    Calls Try.prog 29 #[.int .i64 f, .slice ao n cap] w fun e w' => e = .returned (.tuple #[.int .i64 (flR true f l), .bool (soB f l)]) ∧ Below w.heap.size w w' := by
  have HG := Lib.hid (liGood_any w f ao cap l n Hn hn hc)
  cases hcl : clB f l
  · have hs : soB f l = false := by simp [soB, hcl]
    have h0 : flR true f l = 0 := by unfold flR; rw [hs]; rfl
    rw [h0, hs]
    rw [hcl] at HG
    clear h0 hs hc hcl
    go_enter Try.func29, Try.ntmps29
    go_wp2_with fail
    refine HG.out.mono ?_
    rintro e w1 ⟨rfl, hb1⟩
    go_wp2_with fail
    go_ret2
    exact ⟨rfl, hb1⟩
  · have HX := Lib.hid (fun w1 hw => liAll_any w1 f ao cap l n Hn hn hcap (hc.kept hw) hcl)
    have hlen8 := fitB_len f l
    have HLL := Lib.hid (fitB_clen2 hcl)
    have hf8 := (cl_parts hcl).1
    have hsB : soB f l = decide (0 < (fitB f l).length) := by simp [soB, hcl]
    have hfl : flR true f l = if decide (0 < (fitB f l).length) then foF true (LF (fitB f l)) ((fitB f l).length - 1) else 0 := by unfold flR; rw [hsB]
    rw [hsB, hfl]
    rw [hcl] at HG
    obtain ⟨L, hL⟩ : ∃ L, fitB f l = L := ⟨_, rfl⟩
    rw [hL] at HX hlen8 HLL ⊢
    clear hc hcl hsB hfl hL
    by_cases hl0 : 0 < L.length
    · obtain ⟨r, hr⟩ : ∃ r, foF true (LF L) (L.length - 1) = r := ⟨_, rfl⟩
      have HR := Lib.hid hr
      rw [decide_eq_true hl0, if_pos rfl, hr]
      have HS : Hid (foS true 0 (LF L) L.length = r) := Lib.hid (by
        rw [← hr, show L.length = (L.length - 1) + 1 by omega]
        refine foS_F _ _ _ ?_ _
        have h1 := LF_at L 0 hl0
        have h2 := lrs_le L[0]
        have h3 := HLL.out _ (List.getElem_mem hl0)
        rw [show ((0 : Nat) : Int) = 0 from rfl] at h1
        rw [h1]; unfold op2; first | (simp; done) | (simp; omega))
      have hl0' := hl0
      clear hr
      go_enter Try.func29, Try.ntmps29
      go_wp2_with fail
      refine HG.out.mono ?_
      rintro e w1 ⟨rfl, hb1⟩
      have Hb1 := Lib.hid hb1
      clear hb1
      go_wp2_with fail
      refine (HX.out _ Hb1.out).mono ?_
      rintro e w2 ⟨ao2, M, cap2, HM, rfl, own, hb2⟩
      have hM0 : 0 < M := by rw [HM.out]; exact hl0
      obtain ⟨g, rfl, hcap2, _, hgs, HC⟩ := fit_cells own HM.out hM0
      have hM8 : M ≤ 256 := by rw [HM.out]; exact hlen8
      have hMz : ((M : Int) == 0) = false := by simp; omega
      have Hb2 := Lib.hid (Hb1.out.trans (hb2.mono Hb1.out.size))
      obtain ⟨H2, hH2⟩ : ∃ H2, w2.heap.size = H2 := ⟨_, rfl⟩
      have HH2 := Lib.hid hH2
      rw [hH2] at hgs
      clear own hb2 hH2 hl0 hl0'
      go_wp2_with fail
      go_loopw [7, 22] (fun v i wr => ∃ k : Nat, k ≤ M ∧ i = .int .i64 k ∧ v = .int .i64 (foS true 0 (LF L) k) ∧ Below H2 w2 wr) (fun _ i _ => M - (intOf i).toNat)
      case atStart => exact ⟨0, Nat.zero_le _, rfl, rfl, by rw [← HH2.out]; exact Below.refl _ _⟩
      case round =>
        obtain ⟨k, hk, rfl, rfl, hb3⟩ := hrel
        by_cases hlt : k < M
        · have hkl : k < L.length := by rw [← HM.out]; exact hlt
          have hc := (hb3.cell (p := ⟨g, k, none⟩) hgs).trans (HC.out k hkl)
          have hcl2 := HLL.out _ (List.getElem_mem hkl)
          have HV := Lib.hid (liLiars_any L[k] wr (by omega))
          rw [← LF_at L k hkl] at HV
          have HS2 : Hid (foS true 0 (LF L) (k + 1) = op2 true (foS true 0 (LF L) k) (LF L k)) := Lib.hid rfl
          obtain ⟨x, hx⟩ : ∃ x, LF L (k : Int) = x := ⟨_, rfl⟩
          obtain ⟨y, hy⟩ : ∃ y, foS true 0 (LF L) k = y := ⟨_, rfl⟩
          rw [hx] at HV HS2
          rw [hy] at HS2 ⊢
          generalize cbs L[k] = s at hc HV
          have Hb3 := Lib.hid hb3
          have hsz : H2 ≤ wr.heap.size := by have := hb3.size; have := HH2.out; omega
          clear hb3 hcl2 hx hy
          go_wp2_with fail
          refine HV.out.mono ?_
          rintro e w4 ⟨rfl, hb4⟩
          have Hb4 := Lib.hid (Hb3.out.trans (hb4.mono hsz))
          clear hb4
          go_wp2_with fail
          refine (l1Most_any y x _).mono ?_
          rintro e w' ⟨rfl, rfl⟩
          go_wp2_with fail
          go_roundw
          case rel => exact ⟨k + 1, by omega, by go_num, by rw [HS2.out], Hb4.out⟩
          case measure => simp [intOf]; omega
        · have hkM : k = M := by omega
          have HE : Hid (foS true 0 (LF L) k = r) := Lib.hid (by rw [hkM, HM.out]; exact HS.out)
          have Hb5 := Lib.hid (Hb2.out.trans (hb3.mono (by rw [← HH2.out]; exact Hb2.out.size)))
          rw [HE.out]
          clear hb3 hkM
          go_wp2_with fail
          go_ret2
          exact ⟨rfl, Hb5.out⟩
    · rw [decide_eq_false hl0]
      have hr0 : (if false = true then foF true (LF L) (L.length - 1) else 0) = 0 := by simp
      rw [hr0]
      clear hr0
      go_enter Try.func29, Try.ntmps29
      go_wp2_with fail
      refine HG.out.mono ?_
      rintro e w1 ⟨rfl, hb1⟩
      have Hb1 := Lib.hid hb1
      clear hb1
      go_wp2_with fail
      refine (HX.out _ Hb1.out).mono ?_
      rintro e w2 ⟨ao2, M, cap2, HM, rfl, own, hb2⟩
      have hM0 : M = 0 := by rw [HM.out]; omega
      have hMz : ((M : Int) == 0) = true := by rw [hM0]; rfl
      have Hb2 := Lib.hid (Hb1.out.trans (hb2.mono Hb1.out.size))
      clear own hb2 hM0 HM
      go_wp2_with fail
      go_ret2
      exact ⟨rfl, Hb2.out⟩

def flF (f : Int) (l : List Snd) : Int := flR false f l
def flM (f : Int) (l : List Snd) : Int := flR true f l

end Go.Proofs.Ytaangjidkkpogaa
