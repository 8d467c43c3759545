/- WouldSay, both sides. -/
import Derived.Test.YtaangjidkkpogaaAg
namespace Go.Proofs.Ytaangjidkkpogaa
open Go.ChangeShapes Go.WideShapes Go.ChangeAt Go.RowKit
set_option linter.unusedVariables false


def inF (f x : Int) : Bool := decide (0 ≤ x ∧ x < f)
def wsB (f : Int) (l : List Snd) (x y : Int) : Bool := soB f l && (inF f x && inF f y)
def wsR (f : Int) (l : List Snd) (x y : Int) : Int := if wsB f l x y then agB (fitB f l) (fun c => sayB c x y true) else 0
theorem wsR_no {f : Int} {l : List Snd} {x y : Int} (h : wsB f l x y = false) : wsR f l x y = 0 := by unfold wsR; rw [h]; rfl
theorem isF_any (f x : Int) (w : World) : Calls Try.prog 43 #[.int .i64 f, .int .i64 x] w fun e w' => e = .returned (.bool (inF f x)) ∧ w = w' := isFriend_any f x w
theorem l1F_any (f x : Int) (w : World) : Calls Try.prog 62 #[.int .i64 x, .int .i64 0, .int .i64 (f - 1)] w fun e w' => e = .returned (.bool (inF f x)) ∧ w = w' := by
  have h := l1In_any x 0 (f - 1) w
  have e : decide (0 ≤ x ∧ x ≤ f - 1) = inF f x := by unfold inF; congr 1; apply propext; omega
  rw [e] at h
  exact h
theorem so_parts {f : Int} {l : List Snd} (h : soB f l = true) : clB f l = true ∧ 0 < (fitB f l).length := by simpa [soB] using h
theorem implWS_any (w : World) (f : Int) (ao : Option Addr) (cap : Nat) (l : List Snd) (n : Nat) (Hn : Hid (n = l.length)) (hn : n ≤ 1048576) (hcap : n ≤ cap) (hc : SendsAt w ao l) (x y : Int) :
    Calls Try.prog 39 #[.int .i64 f, .slice ao n cap, .int .i64 x, .int .i64 y] w fun e w' => e = .returned (.tuple #[.int .i64 (wsR f l x y), .bool (wsB f l x y)]) ∧ Below w.heap.size w w' := by
  have HX := Lib.hid (implST_any w f ao cap l n Hn hn hcap hc)
  have hlen8 := fitB_len f l
  cases hs : soB f l
  · have h1 : wsB f l x y = false := by simp [wsB, hs]
    rw [wsR_no h1, h1]
    rw [hs] at HX
    clear h1 hs hc
    go_enter Try.func39, Try.ntmps39
    go_wp2_with fail
    refine HX.out.mono ?_
    rintro e w1 ⟨ao2, M, cap2, HM, rfl, own, hb1⟩
    clear own
    go_wp2_with fail
    go_ret2
    exact ⟨rfl, hb1⟩
  · rw [hs] at HX
    cases hx : inF f x
    · have h1 : wsB f l x y = false := by simp [wsB, hx]
      rw [wsR_no h1, h1]
      have HI := Lib.hid (fun w => isF_any f x w)
      rw [hx] at HI
      clear h1 hs hc hx
      go_enter Try.func39, Try.ntmps39
      go_wp2_with fail
      refine HX.out.mono ?_
      rintro e w1 ⟨ao2, M, cap2, HM, rfl, own, hb1⟩
      clear own
      go_wp2_with fail
      refine (HI.out _).mono ?_
      rintro e w' ⟨rfl, rfl⟩
      go_wp2_with fail
      go_ret2
      exact ⟨rfl, hb1⟩
    · have HI := Lib.hid (fun w => isF_any f x w)
      rw [hx] at HI
      cases hy : inF f y
      · have h1 : wsB f l x y = false := by simp [wsB, hy]
        rw [wsR_no h1, h1]
        have HJ := Lib.hid (fun w => isF_any f y w)
        rw [hy] at HJ
        clear h1 hs hc hx hy
        go_enter Try.func39, Try.ntmps39
        go_wp2_with fail
        refine HX.out.mono ?_
        rintro e w1 ⟨ao2, M, cap2, HM, rfl, own, hb1⟩
        clear own
        go_wp2_with fail
        refine (HI.out _).mono ?_
        rintro e w' ⟨rfl, rfl⟩
        go_wp2_with fail
        refine (HJ.out _).mono ?_
        rintro e w' ⟨rfl, rfl⟩
        go_wp2_with fail
        go_ret2
        exact ⟨rfl, hb1⟩
      · have h1 : wsB f l x y = true := by simp [wsB, hs, hx, hy]
        have HJ := Lib.hid (fun w => isF_any f y w)
        rw [hy] at HJ
        have hr : wsR f l x y = agB (fitB f l) (fun c => sayB c x y true) := by unfold wsR; rw [h1]; rfl
        have hl0 := (so_parts hs).2
        have hx' : 0 ≤ x ∧ x < f := by simpa [inF] using hx
        have hy' : 0 ≤ y ∧ y < f := by simpa [inF] using hy
        have hf8 := (cl_parts (so_parts hs).1).1
        have HP : Hid (∀ c ∈ fitB f l, ∀ w : World, Calls Try.prog 65 #[.string (cbs c), .agg #[.int .i64 x, .int .i64 y, .bool true]] w fun e w' => e = .returned (.bool ((fun c => sayB c x y true) c)) ∧ Below w.heap.size w w') := Lib.hid (fun c hcm w => by
          have hcl := fitB_clen2 (so_parts hs).1 c hcm
          exact says_any c x y true w (by omega) (by omega) (by omega))
        rw [h1, hr]
        obtain ⟨L, hL⟩ : ∃ L, fitB f l = L := ⟨_, rfl⟩
        rw [hL] at HX hlen8 hl0 HP ⊢
        have HA := Lib.hid (fun w g cap2 M HM hM hcap2 hM1 HC => agC_any w g cap2 M L HM hM hcap2 hM1 HC x y true (fun c => sayB c x y true) HP)
        generalize agB L (fun c => sayB c x y true) = r at HA ⊢
        clear h1 hs hc hx hy hr hx' hy' HP hL
        go_enter Try.func39, Try.ntmps39
        go_wp2_with fail
        refine HX.out.mono ?_
        rintro e w1 ⟨ao2, M, cap2, HM, rfl, own, hb1⟩
        have hM0 : 0 < M := by rw [HM.out]; exact hl0
        obtain ⟨g, rfl, hcap2, _, hgs, HC⟩ := fit_cells own HM.out hM0
        have hM8 : M ≤ 256 := by rw [HM.out]; exact hlen8
        have Hb1 := Lib.hid hb1
        clear own hb1
        go_wp2_with fail
        refine (HI.out _).mono ?_
        rintro e w' ⟨rfl, rfl⟩
        go_wp2_with fail
        refine (HJ.out _).mono ?_
        rintro e w' ⟨rfl, rfl⟩
        go_wp2_with fail
        refine (HA.out _ g cap2 M HM hM8 hcap2 hM0 HC).mono ?_
        rintro e w3 ⟨rfl, hb3⟩
        have Hb3 := Lib.hid (Hb1.out.trans (hb3.mono Hb1.out.size))
        clear hb3
        go_wp2_with fail
        go_ret2
        exact ⟨rfl, Hb3.out⟩
set_option maxRecDepth 20000 in
theorem specWS_any (w : World) (f : Int) (ao : Option Addr) (cap : Nat) (l : List Snd) (n : Nat) (Hn : Hid (n = l.length)) (hn : n ≤ 1048576) (hcap : n ≤ cap) (hc : SendsAt w ao l) (x y : Int) :
    Calls Try.prog 38 #[.int .i64 f, .slice ao n cap, .int .i64 x, .int .i64 y] w fun e w' => e = .returned (.tuple #[.int .i64 (wsR f l x y), .bool (wsB f l x y)]) ∧ Below w.heap.size w w' := by
  have HG := Lib.hid (liGood_any w f ao cap l n Hn hn hc)
  cases hcl : clB f l
  · have hs : wsB f l x y = false := by simp [wsB, soB, hcl]
    rw [wsR_no hs, hs]
    rw [hcl] at HG
    clear hs hc hcl
    go_enter Try.func38, Try.ntmps38
    go_wp2_with fail
    refine HG.out.mono ?_
    rintro e w1 ⟨rfl, hb1⟩
    go_wp2_with fail
    go_ret2
    exact ⟨rfl, hb1⟩
  · rw [hcl] at HG
    have hf8 := (cl_parts hcl).1
    have HI := Lib.hid (fun w => l1F_any f x w)
    have HJ := Lib.hid (fun w => l1F_any f y w)
    cases hx : inF f x
    · have h1 : wsB f l x y = false := by simp [wsB, hx]
      rw [wsR_no h1, h1]
      rw [hx] at HI
      clear h1 hc hcl hx
      go_enter Try.func38, Try.ntmps38
      go_wp2_with fail
      refine HG.out.mono ?_
      rintro e w1 ⟨rfl, hb1⟩
      go_wp2_with fail
      refine (HI.out _).mono ?_
      rintro e w' ⟨rfl, rfl⟩
      go_wp2_with fail
      go_ret2
      exact ⟨rfl, hb1⟩
    · rw [hx] at HI
      cases hy : inF f y
      · have h1 : wsB f l x y = false := by simp [wsB, hy]
        rw [wsR_no h1, h1]
        rw [hy] at HJ
        clear h1 hc hcl hx hy
        go_enter Try.func38, Try.ntmps38
        go_wp2_with fail
        refine HG.out.mono ?_
        rintro e w1 ⟨rfl, hb1⟩
        go_wp2_with fail
        refine (HI.out _).mono ?_
        rintro e w' ⟨rfl, rfl⟩
        go_wp2_with fail
        refine (HJ.out _).mono ?_
        rintro e w' ⟨rfl, rfl⟩
        go_wp2_with fail
        go_ret2
        exact ⟨rfl, hb1⟩
      · rw [hy] at HJ
        have HX := Lib.hid (fun w1 hw => liAll_any w1 f ao cap l n Hn hn hcap (hc.kept hw) hcl)
        have hlen8 := fitB_len f l
        have HLL := Lib.hid (fitB_clen2 hcl)
        have hx' : 0 ≤ x ∧ x < f := by simpa [inF] using hx
        have hy' : 0 ≤ y ∧ y < f := by simpa [inF] using hy
        have hsB : wsB f l x y = decide (0 < (fitB f l).length) := by simp [wsB, soB, hcl, hx, hy]
        have hfl : wsR f l x y = if decide (0 < (fitB f l).length) then agB (fitB f l) (fun c => sayB c x y true) else 0 := by unfold wsR; rw [hsB]
        rw [hsB, hfl]
        obtain ⟨L, hL⟩ : ∃ L, fitB f l = L := ⟨_, rfl⟩
        rw [hL] at HX hlen8 HLL ⊢
        clear hc hcl hsB hfl hL hx hy
        by_cases hl0 : 0 < L.length
        · obtain ⟨p, hp⟩ : ∃ p : List Bool → Bool, (fun c => sayB c x y true) = p := ⟨_, rfl⟩
          obtain ⟨r, hr⟩ : ∃ r, agB L p = r := ⟨_, rfl⟩
          have HR := Lib.hid hr
          have HPe : Hid (∀ c, sayB c x y true = p c) := Lib.hid (fun c => by rw [← hp])
          rw [decide_eq_true hl0, if_pos rfl, hp, hr]
          clear hr hp
          go_enter Try.func38, Try.ntmps38
          go_wp2_with fail
          refine HG.out.mono ?_
          rintro e w1 ⟨rfl, hb1⟩
          have Hb1 := Lib.hid hb1
          clear hb1
          go_wp2_with fail
          refine (HI.out _).mono ?_
          rintro e w' ⟨rfl, rfl⟩
          go_wp2_with fail
          refine (HJ.out _).mono ?_
          rintro e w' ⟨rfl, rfl⟩
          go_wp2_with fail
          refine (HX.out _ Hb1.out).mono ?_
          rintro e w2 ⟨ao2, M, cap2, HM, rfl, own, hb2⟩
          have hM0 : 0 < M := by rw [HM.out]; exact hl0
          obtain ⟨g, rfl, hcap2, _, hgs, HC⟩ := fit_cells own HM.out hM0
          have hM8 : M ≤ 256 := by rw [HM.out]; exact hlen8
          have hMz : ((M : Int) == 0) = false := by simp; omega
          have Hb2 := Lib.hid (Hb1.out.trans (hb2.mono Hb1.out.size))
          obtain ⟨H2, hH2⟩ : ∃ H2, w2.heap.size = H2 := ⟨_, rfl⟩
          have HH2 := Lib.hid hH2
          rw [hH2] at hgs
          clear own hb2 hH2 hl0
          go_wp2_with fail
          go_loopw [11, 40] (fun v i wr => ∃ k q : Nat, k ≤ M ∧ i = .int .i64 k ∧ Hid (q = (L.take k).countP p) ∧ v = .int .i64 (q : Int) ∧ Below H2 w2 wr) (fun _ i _ => M - (intOf i).toNat)
          case atStart => exact ⟨0, 0, Nat.zero_le _, rfl, Lib.hid rfl, rfl, by rw [← HH2.out]; exact Below.refl _ _⟩
          case round =>
            obtain ⟨k, q, hk, rfl, HQ, rfl, hb3⟩ := hrel
            have hqk : q ≤ k := by rw [HQ.out]; refine Nat.le_trans List.countP_le_length ?_; simp; omega
            by_cases hlt : k < M
            · have hkl : k < L.length := by rw [← HM.out]; exact hlt
              have hc := (hb3.cell (p := ⟨g, k, none⟩) hgs).trans (HC.out k hkl)
              have hcl2 := HLL.out _ (List.getElem_mem hkl)
              have HV := Lib.hid (liSays_any L[k] x y wr (by omega) (by omega))
              have hse : (hon L[k] y == hon L[k] x) = p L[k] := by
                rw [← HPe.out, ← say_eq]
                cases (hon L[k] y == hon L[k] x) <;> rfl
              rw [hse] at HV
              have hT := cnt_take L p k hkl
              rw [← HQ.out] at hT
              generalize cbs L[k] = s at hc HV
              have Hb3 := Lib.hid hb3
              clear hb3 hcl2 hse
              cases hp : p L[k]
              · rw [hp] at HV hT
                have HT : Hid (q = (L.take (k + 1)).countP p) := Lib.hid (by rw [hT]; rfl)
                clear hT hp
                go_wp2_with fail
                refine HV.out.mono ?_
                rintro e w' ⟨rfl, m, rfl⟩
                have Hb4 := Lib.hid (below_drewN Hb3.out m)
                go_wp2_with fail
                go_roundw
                case rel => exact ⟨k + 1, q, by omega, by go_num, HT, rfl, Hb4.out⟩
                case measure => simp [intOf]; omega
              · rw [hp] at HV hT
                have HT : Hid (q + 1 = (L.take (k + 1)).countP p) := Lib.hid (by rw [hT]; rfl)
                clear hT hp
                go_wp2_with fail
                refine HV.out.mono ?_
                rintro e w' ⟨rfl, m, rfl⟩
                have Hb4 := Lib.hid (below_drewN Hb3.out m)
                go_wp2_with fail
                go_roundw
                case rel => exact ⟨k + 1, q + 1, by omega, by go_num, HT, by go_num, Hb4.out⟩
                case measure => simp [intOf]; omega
            · have hkM : k = M := by omega
              have HE : Hid (r = agN q M) := Lib.hid (by rw [← HR.out, HQ.out, hkM, HM.out, List.take_of_length_le (Nat.le_refl _)]; rfl)
              have Hb5 := Lib.hid (Hb2.out.trans (hb3.mono (by rw [← HH2.out]; exact Hb2.out.size)))
              clear HQ hb3
              by_cases h0 : q = 0
              · have HE2 : Hid (r = -1) := Lib.hid (by rw [HE.out, agN, if_neg (by omega), if_pos h0])
                have hq0 : ((q : Int) == 0) = true := by simp; omega
                go_wp2_with fail
                go_ret2
                exact ⟨by rw [HE2.out]; rfl, Hb5.out⟩
              · have hq0 : ((q : Int) == 0) = false := by simp; omega
                by_cases h1 : q = M
                · have HE2 : Hid (r = 1) := Lib.hid (by rw [HE.out, agN, if_pos h1])
                  have hq1 : ((q : Int) == (M : Int)) = true := by simp; omega
                  go_wp2_with fail
                  go_ret2
                  exact ⟨by rw [HE2.out]; rfl, Hb5.out⟩
                · have HE2 : Hid (r = 0) := Lib.hid (by rw [HE.out, agN, if_neg h1, if_neg h0])
                  have hq1 : ((q : Int) == (M : Int)) = false := by simp; omega
                  go_wp2_with fail
                  go_ret2
                  exact ⟨by rw [HE2.out]; rfl, Hb5.out⟩
        · rw [decide_eq_false hl0]
          have hr0 : (if false = true then agB L (fun c => sayB c x y true) else 0) = 0 := by simp
          rw [hr0]
          clear hr0
          go_enter Try.func38, Try.ntmps38
          go_wp2_with fail
          refine HG.out.mono ?_
          rintro e w1 ⟨rfl, hb1⟩
          have Hb1 := Lib.hid hb1
          clear hb1
          go_wp2_with fail
          refine (HI.out _).mono ?_
          rintro e w' ⟨rfl, rfl⟩
          go_wp2_with fail
          refine (HJ.out _).mono ?_
          rintro e w' ⟨rfl, rfl⟩
          go_wp2_with fail
          refine (HX.out _ Hb1.out).mono ?_
          rintro e w2 ⟨ao2, M, cap2, HM, rfl, own, hb2⟩
          have hM0 : M = 0 := by rw [HM.out]; omega
          have hMz : ((M : Int) == 0) = true := by rw [hM0]; rfl
          have Hb2 := Lib.hid (Hb1.out.trans (hb2.mono Hb1.out.size))
          clear own hb2 hM0 HM
          go_wp2_with fail
          go_ret2
          exact ⟨rfl, Hb2.out⟩

end Go.Proofs.Ytaangjidkkpogaa
