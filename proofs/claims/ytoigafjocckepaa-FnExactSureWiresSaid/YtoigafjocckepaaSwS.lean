/- Sure wires: the model. -/
import Derived.Test.YtoigafjocckepaaSw0
namespace Go.Proofs.Ytoigafjocckepaa
open Go.ChangeShapes Go.WideShapes Go.ChangeAt Go.RowKit
set_option linter.unusedVariables false


set_option maxHeartbeats 1600000 in
set_option maxRecDepth 20000 in
theorem specSW_any (w : World) (f : Int) (ao : Option Addr) (cap : Nat) (L : List (List Int)) (n : Nat) (Hn : Hid (n = L.length)) (hn : n ≤ 1048576) (hL : Hid (∀ i, (row L i).length ≤ 1048576)) (Hc : RowsAt w ao L) (s : ByteArray) (hs : s.size ≤ 1048576) (m : Int) :
    Calls Try.prog 28 #[.int .i64 f, .slice ao n cap, .string s, .int .i64 m] w fun e w' => e = .returned (.tuple #[.string (swR f L s m), .bool (swB f L s m)]) ∧ Below w.heap.size w w' := by
  have HC := Lib.hid Hc
  have Hask := Lib.hid (wiAsked_any f ao cap L n s m w Hn hn hL HC hs)
  clear Hc
  cases hg : askB f L s m
  · have hB : swB f L s m = false := by simp [swB, hg]
    have hR : swR f L s m = ⟨#[]⟩ := by simp [swR, hB]
    rw [hR, hB]
    rw [hg] at Hask
    clear hg hR hB
    go_enter Try.func28, Try.ntmps28
    go_wp2_with fail
    refine Hask.out.mono ?_
    rintro e w1 ⟨rfl, hb1⟩
    go_wp2_with fail
    go_ret2
    exact ⟨rfl, hb1⟩
  · have hp := ask_parts hg
    have hw := wi_parts hp.1
    rw [hg] at Hask
    have hft := ftR_fitL hg
    obtain ⟨F, rfl⟩ := Int.eq_ofNat_of_zero_le (a := f) (by omega)
    obtain ⟨M, rfl⟩ := Int.eq_ofNat_of_zero_le (a := m) hp.2.2.1.1
    have Hg := Lib.hid hp.1
    have hF : F ≤ 10 := by omega
    have hM : M ≤ 10 := by omega
    simp only [Int.toNat_natCast] at hft
    have hWF := fun W h => wiFit_any W ao cap L n s F M Hn Hg h hF hM
    have hlb : (fitL L s F M).length ≤ 11264 := by rw [fitL_len hF]; exact fitM_len hF L s M hM
    have hKr := fitL_ris L s M hF
    have hRF : swB (F : Int) L s (M : Int) = true → swR (F : Int) L s (M : Int) = swT (fitL L s F M) F := fun h => by simp [swR, h]
    obtain ⟨K, hK0⟩ : ∃ q, fitL L s F M = q := ⟨_, rfl⟩
    rw [hK0] at hft hRF hlb hKr
    simp only [hK0] at hWF
    have HWF := Lib.hid hWF
    have HKr := Lib.hid hKr
    obtain ⟨z, hz⟩ : ∃ z, K.length = z := ⟨_, rfl⟩
    have Hz := Lib.hid hz
    have hzl : (ftR (F : Int) L s (M : Int)).length = z := by rw [hft, List.length_map, hz]
    by_cases h0 : z = 0
    · have hB : swB (F : Int) L s (M : Int) = false := by simp [swB, hzl, h0]
      have hR : swR (F : Int) L s (M : Int) = ⟨#[]⟩ := by simp [swR, hB]
      rw [hB, hR]
      have hze : ((z : Int) == 0) = true := by simp; omega
      clear hg hp hw hft hK0 hB hRF hWF hR hKr hz hzl h0
      go_enter Try.func28, Try.ntmps28
      go_wp2_with fail
      refine Hask.out.mono ?_
      rintro e w1 ⟨rfl, hb1⟩
      have Hb1 := Lib.hid hb1
      clear hb1
      go_wp2_with fail
      refine (HWF.out w1 (HC.out.kept Hb1.out)).mono ?_
      rintro e w2 ⟨v, X, rfl, hO, hb2⟩
      have hs1 := Hb1.out.size
      have Hb2 := Lib.hid (Hb1.out.trans (hb2.mono hs1))
      obtain ⟨a2, c2, rfl, _⟩ := hO.reads
      rw [Hz.out]
      clear hb2 hO
      go_wp2_with fail
      go_ret2
      exact ⟨rfl, Hb2.out⟩
    · have hB : swB (F : Int) L s (M : Int) = true := by simp [swB, hg, hzl, h0]
      rw [hB, hRF hB]
      have hze : ((z : Int) == 0) = false := by rw [beq_eq_false_iff_ne]; omega
      have hz1 : 0 < z := by omega
      obtain ⟨RES, hRES⟩ : ∃ q, swT K F = q := ⟨_, rfl⟩
      rw [hRES]
      have HRES := Lib.hid hRES
      rw [hz] at hlb
      clear hg hp hw hft hK0 hB hRF hWF hKr hz hzl h0 hRES
      go_enter Try.func28, Try.ntmps28
      go_wp2_with fail
      refine Hask.out.mono ?_
      rintro e w1 ⟨rfl, hb1⟩
      have Hb1 := Lib.hid hb1
      clear hb1
      go_wp2_with fail
      refine (HWF.out w1 (HC.out.kept Hb1.out)).mono ?_
      rintro e w2 ⟨v, X, rfl, hO, hb2⟩
      have hs1 := Hb1.out.size
      have Hb2 := Lib.hid (Hb1.out.trans (hb2.mono hs1))
      obtain ⟨gO, cO, rfl, _⟩ := hO.outer (by rw [Hz.out]; exact hz1)
      rw [Hz.out] at hO ⊢
      have HO := Lib.hid hO
      clear hb2 hO
      go_wp2_with fail
      go_loopw [11, 12] (fun v i wr => ∃ k : Nat, k ≤ F ∧ i = .int .i64 k ∧ v = .string (swT K k) ∧ w2 = wr) (fun _ i _ => F - (intOf i).toNat)
      case atStart => exact ⟨0, Nat.zero_le _, rfl, rfl, rfl⟩
      case round =>
        obtain ⟨x, hx, rfl, rfl, rfl⟩ := hrel
        by_cases hlt : x < F
        · have hxi : (x : Int) < F := by omega
          have hsu := swT_succ K x
          have hsz := swT_size K x
          obtain ⟨S, hS⟩ : ∃ S, swT K x = S := ⟨_, rfl⟩
          rw [hS] at hsu hsz
          rw [hS]
          rw [Hz.out] at hsu
          have Hsu := Lib.hid hsu
          have hs2 : ¬ S.size + 1 > 9223372036854775807 := by omega
          clear hS hsu
          go_wp2_with fail
          go_loopw [13, 37] (fun v i wr => ∃ k : Nat, k ≤ z ∧ i = .int .i64 k ∧ v = .int .i64 ((hc K x k : Nat) : Int) ∧ w2 = wr) (fun _ i _ => z - (intOf i).toNat)
          case atStart => exact ⟨0, Nat.zero_le _, rfl, rfl, rfl⟩
          case round =>
            obtain ⟨k, hk, rfl, rfl, rfl⟩ := hrel
            by_cases hlt2 : k < z
            · have hkL : k < K.length := by rw [Hz.out]; exact hlt2
              obtain ⟨a1, c1, hx1, hc0, own1⟩ := HO.out.cellOf Hz.out.symm k hkL
              have hris : risB (F : Int) (row K k) = true := by rw [← row_get hkL]; exact HKr.out _ (List.getElem_mem _)
              have hrl := ris_len (by omega : (F : Int) ≤ 10) hris
              obtain ⟨_, _, hve, hna⟩ := nums_shape own1 rfl
              simp only [Value.slice.injEq, true_and] at hve
              have hna1 : NumsAt w2 a1 (row K k) := by rw [hve.1]; exact hna
              have hcs : hc K x (k + 1) = hc K x k + (if seen (row K k) (row K k).length (x : Int) then 1 else 0) := rfl
              have hcl := hc_le K x k
              have HH : Hid (Calls Try.prog 47 #[.slice a1 (row K k).length c1, .int .i64 (x : Int)] w2 fun e w' => e = .returned (.bool (seen (row K k) (row K k).length (x : Int))) ∧ w2 = w') := by
                rcases hna1 with h | ⟨b, off, h, hcc⟩
                · rw [h]
                  exact l1Has_zero a1 c1 (x : Int) w2
                · subst h
                  exact l1Has_pos b off c1 (row K k) (row K k).length (x : Int) w2 (by omega) hcc
              obtain ⟨ln, hln⟩ : ∃ ln, (row K k).length = ln := ⟨_, rfl⟩
              rw [hln] at hc0 HH hcs
              have hk1 : (0 : Int) ≤ k := by omega
              have hk2 : (k : Int) < z := by omega
              obtain ⟨c0, hcc0⟩ : ∃ c, hc K x k = c := ⟨_, rfl⟩
              rw [hcc0] at hcs hcl
              rw [hcc0]
              cases hse : seen (row K k) ln (x : Int)
              · rw [hse] at HH hcs
                have Hcs : Hid (((hc K x (k + 1) : Nat) : Int) = (c0 : Int)) := by show _ = _; rw [hcs]; simp
                clear own1 hris hve hna hna1 hcs hln hx1 hcc0 hse
                go_wp2_with fail
                refine HH.out.mono ?_
                rintro e w' ⟨rfl, rfl⟩
                go_wp2_with fail
                go_roundw
                case rel => exact ⟨k + 1, by omega, by go_num, by rw [Hcs.out], by trivial⟩
                case measure => simp [intOf]; omega
              · rw [hse] at HH hcs
                have Hcs : Hid (((hc K x (k + 1) : Nat) : Int) = (c0 : Int) + 1) := by show _ = _; rw [hcs]; simp
                have hw1 : IntKind.i64.wrap ((c0 : Int) + 1) = (c0 : Int) + 1 := IntWalk.i64_in _ (by omega)
                clear own1 hris hve hna hna1 hcs hln hx1 hcc0 hse
                go_wp2_with fail
                refine HH.out.mono ?_
                rintro e w' ⟨rfl, rfl⟩
                go_wp2_with fail
                go_roundw
                case rel => exact ⟨k + 1, by omega, by go_num, by rw [Hcs.out], by trivial⟩
                case measure => simp [intOf]; omega
            · obtain rfl : k = z := by omega
              obtain ⟨c, hc0⟩ : ∃ c, hc K x k = c := ⟨_, rfl⟩
              rw [hc0] at Hsu ⊢
              by_cases hc1 : c = 0
              · have e : sgU k c = 111 := by simp [sgU, hc1]
                rw [e] at Hsu
                have hce : ((c : Int) == 0) = true := by simp; omega
                clear hc0 hc1 e
                go_wp2_with fail
                go_roundw
                case rel => exact ⟨x + 1, by omega, by go_num, by rw [Hsu.out], by trivial⟩
                case measure => simp [intOf]; omega
              · have hce : ((c : Int) == 0) = false := by rw [beq_eq_false_iff_ne]; omega
                by_cases hc2 : c = k
                · have e : sgU k c = 120 := by simp [sgU, hc2]; omega
                  rw [e] at Hsu
                  have hce2 : ((c : Int) == (k : Int)) = true := by simp; omega
                  clear hc0 hc1 hc2 e
                  go_wp2_with fail
                  go_roundw
                  case rel => exact ⟨x + 1, by omega, by go_num, by rw [Hsu.out], by trivial⟩
                  case measure => simp [intOf]; omega
                · have e : sgU k c = 63 := by simp [sgU, hc1, hc2]
                  rw [e] at Hsu
                  have hce2 : ((c : Int) == (k : Int)) = false := by rw [beq_eq_false_iff_ne]; omega
                  clear hc0 hc1 hc2 e
                  go_wp2_with fail
                  go_roundw
                  case rel => exact ⟨x + 1, by omega, by go_num, by rw [Hsu.out], by trivial⟩
                  case measure => simp [intOf]; omega
        · obtain rfl : x = F := by omega
          have hre := HRES.out
          rw [hre]
          clear hre
          go_wp2_with fail
          go_ret2
          exact ⟨rfl, Hb2.out⟩

end Go.Proofs.Ytoigafjocckepaa
