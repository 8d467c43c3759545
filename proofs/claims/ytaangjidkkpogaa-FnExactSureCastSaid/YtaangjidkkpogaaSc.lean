/- SureCast, the model's way. -/
import Derived.Test.YtaangjidkkpogaaScI
namespace Go.Proofs.Ytaangjidkkpogaa
open Go.ChangeShapes Go.WideShapes Go.ChangeAt Go.RowKit
set_option linter.unusedVariables false


/-- The sign behind k casts: that of the first, or ?. -/
def fsg (L : List (List Bool)) (i k : Nat) : UInt8 := if (L.take k).all (fun c => hon c i == hon (L.getD 0 []) i) then cby (hon (L.getD 0 []) i) else 63
theorem fsg_sgn (L : List (List Bool)) (i : Nat) (h : 0 < L.length) : fsg L i L.length = sgn L i := by
  unfold fsg sgn sgN
  rw [List.take_length]
  obtain ⟨c0, L', rfl⟩ : ∃ c L', L = c :: L' := by cases L with | nil => simp at h | cons c L' => exact ⟨c, L', rfl⟩
  have e0 : (c0 :: L').getD 0 [] = c0 := rfl
  rw [e0]
  cases hb : hon c0 i
  · by_cases ha : (c0 :: L').all (fun c => hon c i == false) = true
    · rw [if_pos ha]
      rw [List.all_eq_true] at ha
      have h0 : (c0 :: L').countP (fun c => hon c i) = 0 := by
        rw [List.countP_eq_zero]
        intro c hc
        have := ha c hc
        simpa using this
      rw [h0, if_neg (by simp), if_pos rfl]; rfl
    · rw [if_neg ha]
      have h1 : (c0 :: L').countP (fun c => hon c i) ≠ (c0 :: L').length := by
        intro h2
        rw [List.countP_eq_length] at h2
        have := h2 c0 (by simp)
        rw [hb] at this; cases this
      have h2 : (c0 :: L').countP (fun c => hon c i) ≠ 0 := by
        intro h3
        rw [List.countP_eq_zero] at h3
        apply ha
        rw [List.all_eq_true]
        intro c hc
        have := h3 c hc
        simpa using this
      rw [if_neg h1, if_neg h2]
  · by_cases ha : (c0 :: L').all (fun c => hon c i == true) = true
    · rw [if_pos ha]
      rw [List.all_eq_true] at ha
      have h0 : (c0 :: L').countP (fun c => hon c i) = (c0 :: L').length := by
        rw [List.countP_eq_length]
        intro c hc
        have := ha c hc
        simpa using this
      rw [if_pos h0]; rfl
    · rw [if_neg ha]
      have h1 : (c0 :: L').countP (fun c => hon c i) ≠ (c0 :: L').length := by
        intro h2
        rw [List.countP_eq_length] at h2
        apply ha
        rw [List.all_eq_true]
        intro c hc
        have := h2 c hc
        simpa using this
      have h2 : (c0 :: L').countP (fun c => hon c i) ≠ 0 := by
        intro h3
        rw [List.countP_eq_zero] at h3
        have := h3 c0 (by simp)
        rw [hb] at this; simp at this
      rw [if_neg h1, if_neg h2]
theorem all_take (L : List (List Bool)) (p : List Bool → Bool) (k : Nat) (h : k < L.length) : (L.take (k + 1)).all p = ((L.take k).all p && p L[k]) := by
  rw [List.take_succ_eq_append_getElem h, List.all_append]; simp
theorem not_all {L : List (List Bool)} {p : List Bool → Bool} {k : Nat} (h : k < L.length) (hp : p L[k] = false) : L.all p = false := by
  rw [List.all_eq_false]; exact ⟨L[k], List.getElem_mem h, by rw [hp]; simp⟩
set_option maxHeartbeats 400000 in
set_option maxRecDepth 20000 in
theorem specSC_any (w : World) (f : Int) (ao : Option Addr) (cap : Nat) (l : List Snd) (n : Nat) (Hn : Hid (n = l.length)) (hn : n ≤ 1048576) (hcap : n ≤ cap) (hc : SendsAt w ao l) :
    Calls Try.prog 25 #[.int .i64 f, .slice ao n cap] w fun e w' => e = .returned (.tuple #[.string (scR f l), .bool (soB f l)]) ∧ Below w.heap.size w w' := by
  have HG := Lib.hid (liGood_any w f ao cap l n Hn hn hc)
  cases hcl : clB f l
  · have hs : soB f l = false := by simp [soB, hcl]
    have h1 : scR f l = ⟨#[]⟩ := by unfold scR; rw [hs]; rfl
    rw [h1, hs]
    rw [hcl] at HG
    clear h1 hs hc hcl
    go_enter Try.func25, Try.ntmps25
    go_wp2_with fail
    refine HG.out.mono ?_
    rintro e w1 ⟨rfl, hb1⟩
    go_wp2_with fail
    go_ret2
    exact ⟨rfl, hb1⟩
  · have HX := Lib.hid (fun w1 hw => liAll_any w1 f ao cap l n Hn hn hcap (hc.kept hw) hcl)
    have hlen8 := fitB_len f l
    have HLL := Lib.hid (fitB_clen2 hcl)
    have hsB : soB f l = decide (0 < (fitB f l).length) := by simp [soB, hcl]
    have hfl : scR f l = if decide (0 < (fitB f l).length) then sgs (fitB f l) f.toNat else ⟨#[]⟩ := by unfold scR; rw [hsB]
    rw [hsB, hfl]
    rw [hcl] at HG
    obtain ⟨F, rfl, hF1, hF8⟩ := cl_in hcl
    rw [Int.toNat_natCast]
    obtain ⟨L, hL⟩ : ∃ L, fitB (F : Int) l = L := ⟨_, rfl⟩
    rw [hL] at HX hlen8 HLL ⊢
    clear hc hcl hsB hfl hL
    by_cases hl0 : 0 < L.length
    · obtain ⟨R, hR⟩ : ∃ R, sgs L F = R := ⟨_, rfl⟩
      rw [decide_eq_true hl0, if_pos rfl, hR]
      have HR := Lib.hid hR
      have Hsg := Lib.hid (fun k => sgs_push L k)
      have Hsz := Lib.hid (fun k => sgs_size L k)
      obtain ⟨S, hS⟩ : ∃ S, sgs L = S := ⟨_, rfl⟩
      have HS0 : Hid (S 0 = ⟨#[]⟩) := Lib.hid (by rw [← hS]; rfl)
      rw [hS] at HR Hsg Hsz
      have Hl0 := Lib.hid hl0
      clear hR hS hl0
      go_enter Try.func25, Try.ntmps25
      go_wp2_with fail
      refine HG.out.mono ?_
      rintro e w1 ⟨rfl, hb1⟩
      have Hb1 := Lib.hid hb1
      clear hb1
      go_wp2_with fail
      refine (HX.out _ Hb1.out).mono ?_
      rintro e w2 ⟨ao2, M, cap2, HM, rfl, own, hb2⟩
      have hM0 : 0 < M := by rw [HM.out]; exact Hl0.out
      obtain ⟨g, rfl, hcap2, _, hgs, HC⟩ := fit_cells own HM.out hM0
      have hM8 : M ≤ 256 := by rw [HM.out]; exact hlen8
      have hMz : ((M : Int) == 0) = false := by simp; omega
      have Hb2 := Lib.hid (Hb1.out.trans (hb2.mono Hb1.out.size))
      obtain ⟨H2, hH2⟩ : ∃ H2, w2.heap.size = H2 := ⟨_, rfl⟩
      have HH2 := Lib.hid hH2
      rw [hH2] at hgs
      have c0 := HC.out 0 Hl0.out
      have HL0 : Hid (L.getD 0 [] = L[0]'Hl0.out) := Lib.hid (by rw [List.getD_eq_getElem?_getD, List.getElem?_eq_getElem Hl0.out]; rfl)
      have C0 := Lib.hid c0
      clear own hb2 hH2 c0
      go_wp2_with fail
      go_loopw [7, 8] (fun v i wr => ∃ k : Nat, k ≤ F ∧ i = .int .i64 k ∧ v = .string (S k) ∧ wr = w2) (fun _ i _ => F - (intOf i).toNat)
      case atStart => exact ⟨0, Nat.zero_le _, rfl, by rw [HS0.out], rfl⟩
      case round =>
        obtain ⟨k, hk, rfl, rfl, rfl⟩ := hrel
        by_cases hlt : k < F
        · have c0 := C0.out
          have hq0 : k < (L[0]'Hl0.out).length := by have := HLL.out _ (List.getElem_mem Hl0.out); omega
          have hct := cbs_cut (L[0]'Hl0.out) k hq0
          have hsz0 : (cbs (L[0]'Hl0.out)).size = F := by rw [cbs_size]; have := HLL.out _ (List.getElem_mem Hl0.out); omega
          have Hf0 : Hid (∀ j, fsg L k j = if (L.take j).all (fun c => hon c k == hon (L[0]'Hl0.out) k) then cby (hon (L[0]'Hl0.out) k) else 63) := Lib.hid (fun j => by unfold fsg; rw [HL0.out])
          have HSg := Lib.hid (fsg_sgn L k Hl0.out)
          generalize hon (L[0]'Hl0.out) k = b0 at hct Hf0
          generalize cbs (L[0]'Hl0.out) = s0 at c0 hct hsz0
          obtain ⟨t0, ht0⟩ : ∃ t, (⟨#[cby b0]⟩ : ByteArray) = t := ⟨_, rfl⟩
          rw [ht0] at hct
          have HT0 := Lib.hid ht0
          have hzs : (S k).size = k := Hsz.out k
          have hz0 : ¬ 9223372036854775807 < (S k).size + t0.size := by rw [← ht0, hzs]; show ¬ 9223372036854775807 < k + 1; omega
          have hz1 : ¬ 9223372036854775807 < (S k).size + 1 := by rw [hzs]; omega
          have HP := Lib.hid (Hsg.out k)
          obtain ⟨s, hs⟩ : ∃ s, S k = s := ⟨_, rfl⟩
          rw [hs] at HP hz0 hz1 ⊢
          have Hss := Lib.hid hs
          clear ht0 hzs hs
          go_wp2_with fail
          go_loop [9, 36] (fun v i => ∃ j : Nat, j ≤ M ∧ i = .int .i64 j ∧ v = .string t0 ∧ Hid ((L.take j).all (fun c => hon c k == b0) = true)) (fun _ i => M - (intOf i).toNat)
          case atStart => exact ⟨0, Nat.zero_le _, rfl, rfl, Lib.hid rfl⟩
          case round =>
            obtain ⟨j, hj, rfl, rfl, HAl⟩ := hrel
            by_cases hltj : j < M
            · have hjl : j < L.length := by rw [← HM.out]; exact hltj
              have hcj := HC.out j hjl
              have hqj : k < L[j].length := by have := HLL.out _ (List.getElem_mem hjl); omega
              have hctj := cbs_cut L[j] k hqj
              have hszj : (cbs L[j]).size = F := by rw [cbs_size]; have := HLL.out _ (List.getElem_mem hjl); omega
              have hAT := all_take L (fun c => hon c k == b0) j hjl
              have hNA : (hon L[j] k == b0) = false → L.all (fun c => hon c k == b0) = false := fun h => not_all (p := fun c => hon c k == b0) hjl h
              rw [HAl.out] at hAT
              have hAT : (L.take (j + 1)).all (fun c => hon c k == b0) = (hon L[j] k == b0) := by rw [hAT]; rfl
              generalize hon L[j] k = b at hctj hAT hNA
              generalize cbs L[j] = sj at hcj hctj hszj
              have hcmp : ((⟨#[cby b]⟩ : ByteArray).toList == t0.toList) = (b == b0) := by
                rw [← HT0.out]
                cases b <;> cases b0 <;> simp [cby, Lib.toList_data]
              obtain ⟨t, ht⟩ : ∃ t, (⟨#[cby b]⟩ : ByteArray) = t := ⟨_, rfl⟩
              rw [ht] at hcmp hctj
              clear ht c0
              cases hb : (b == b0)
              · have HE : Hid (sgn L k = 63) := Lib.hid (by rw [← HSg.out, Hf0.out, List.take_length, hNA hb]; rfl)
                rw [hb] at hcmp
                clear hNA hAT hb
                go_wp2_with fail
                go_round
                case rel => exact ⟨k + 1, by omega, by go_num, by rw [← HP.out, HE.out], by trivial⟩
                case measure => simp [intOf]; omega
              · rw [hb] at hcmp hAT
                have HAT := Lib.hid hAT
                clear hNA hAT hb
                go_wp2_with fail
                go_round
                case rel => exact ⟨j + 1, by omega, by go_num, rfl, HAT⟩
                case measure => simp [intOf]; omega
            · have HE : Hid (sgn L k = cby b0) := Lib.hid (by
                rw [← HSg.out, Hf0.out, List.take_length]
                have h2 := HAl.out
                rw [List.take_of_length_le (by rw [← HM.out]; omega)] at h2
                rw [if_pos h2])
              clear HAl c0
              go_wp2_with fail
              go_round
              case rel => exact ⟨k + 1, by omega, by go_num, by rw [← HP.out, HE.out, HT0.out], by trivial⟩
              case measure => simp [intOf]; omega
        · have hkF : k = F := by omega
          have HE : Hid (S k = R) := Lib.hid (by rw [hkF]; exact HR.out)
          rw [HE.out]
          clear hkF
          go_wp2_with fail
          go_ret2
          exact ⟨rfl, Hb2.out⟩
    · rw [decide_eq_false hl0]
      have hr0 : (if false = true then sgs L F else ⟨#[]⟩) = ⟨#[]⟩ := by simp
      rw [hr0]
      clear hr0
      go_enter Try.func25, Try.ntmps25
      go_wp2_with fail
      refine HG.out.mono ?_
      rintro e w1 ⟨rfl, hb1⟩
      have Hb1 := Lib.hid hb1
      clear hb1
      go_wp2_with fail
      refine (HX.out _ Hb1.out).mono ?_
      rintro e w2 ⟨ao2, M, cap2, HM, rfl, own, hb2⟩
      have hM0 : M = 0 := by rw [HM.out]; omega
      have hMz : ((M : Int) == 0) = true := by rw [hM0]; rfl
      have Hb2 := Lib.hid (Hb1.out.trans (hb2.mono Hb1.out.size))
      clear own hb2 hM0 HM
      go_wp2_with fail
      go_ret2
      exact ⟨rfl, Hb2.out⟩

end Go.Proofs.Ytaangjidkkpogaa
