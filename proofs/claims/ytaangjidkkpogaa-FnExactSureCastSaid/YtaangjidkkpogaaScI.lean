/- SureCast, the program's way. -/
import Derived.Test.YtaangjidkkpogaaWs
namespace Go.Proofs.Ytaangjidkkpogaa
open Go.ChangeShapes Go.WideShapes Go.ChangeAt Go.RowKit
set_option linter.unusedVariables false


/-- The sign that all casts have for a friend: h, l or ?. -/
def sgN (q n : Nat) : UInt8 := if q = n then 104 else if q = 0 then 108 else 63
def sgn (L : List (List Bool)) (i : Nat) : UInt8 := sgN (L.countP fun c => hon c i) L.length
def sgs (L : List (List Bool)) (k : Nat) : ByteArray := ⟨((List.range k).map (sgn L)).toArray⟩
theorem sgs_zero (L : List (List Bool)) : sgs L 0 = ⟨#[]⟩ := rfl
theorem sgs_size (L : List (List Bool)) (k : Nat) : (sgs L k).size = k := by simp [sgs, ByteArray.size]
theorem sgs_push (L : List (List Bool)) (k : Nat) : sgs L k ++ ⟨#[sgn L k]⟩ = sgs L (k + 1) := by
  apply ByteArray.ext
  rw [ByteArray.data_append]
  simp [sgs, List.range_succ]
def scR (f : Int) (l : List Snd) : ByteArray := if soB f l then sgs (fitB f l) f.toNat else ⟨#[]⟩
theorem agN_sg (q n : Nat) : (agN q n = 1 ∧ sgN q n = 104) ∨ (agN q n = -1 ∧ sgN q n = 108) ∨ (agN q n = 0 ∧ sgN q n = 63) := by
  unfold agN sgN
  by_cases h : q = n
  · simp [h]
  · by_cases h0 : q = 0
    · subst h0; simp [h]
    · simp [h, h0]
set_option maxHeartbeats 1600000 in
set_option maxRecDepth 20000 in
theorem implSC_any (w : World) (f : Int) (ao : Option Addr) (cap : Nat) (l : List Snd) (n : Nat) (Hn : Hid (n = l.length)) (hn : n ≤ 1048576) (hcap : n ≤ cap) (hc : SendsAt w ao l) :
    Calls Try.prog 26 #[.int .i64 f, .slice ao n cap] w fun e w' => e = .returned (.tuple #[.string (scR f l), .bool (soB f l)]) ∧ Below w.heap.size w w' := by
  have HX := Lib.hid (implST_any w f ao cap l n Hn hn hcap hc)
  have hlen8 := fitB_len f l
  cases hs : soB f l
  · have h1 : scR f l = ⟨#[]⟩ := by unfold scR; rw [hs]; rfl
    rw [h1]
    rw [hs] at HX
    clear h1 hs hc
    go_enter Try.func26, Try.ntmps26
    go_wp2_with fail
    refine HX.out.mono ?_
    rintro e w1 ⟨ao2, M, cap2, HM, rfl, own, hb1⟩
    clear own
    go_wp2_with fail
    go_ret2
    exact ⟨rfl, hb1⟩
  · rw [hs] at HX
    have h1 : scR f l = sgs (fitB f l) f.toNat := by unfold scR; rw [hs]; rfl
    have hl0 := (so_parts hs).2
    obtain ⟨F, rfl, hF1, hF8⟩ := cl_in (so_parts hs).1
    have HLL := Lib.hid (fitB_clen2 (so_parts hs).1)
    rw [h1, Int.toNat_natCast]
    obtain ⟨L, hL⟩ : ∃ L, fitB (F : Int) l = L := ⟨_, rfl⟩
    rw [hL] at HX hlen8 hl0 HLL ⊢
    have HA : Hid (∀ i : Nat, i < F → ∀ w g cap2 M, Hid (M = L.length) → M ≤ 256 → M ≤ cap2 → 1 ≤ M → Hid (∀ j, (hj : j < L.length) → w.cell? ⟨g, j, none⟩ = some (.string (cbs L[j]))) →
        Calls Try.prog 51 #[.slice (some ⟨g, 0, none⟩) M cap2, .func (.func 52) #[] #[], .int .i64 (i : Int)] w fun e w' => e = .returned (.int .i64 (agN (L.countP fun c => hon c i) L.length)) ∧ Below w.heap.size w w') := Lib.hid (fun i hi w g cap2 M HM hM hcap2 hM1 HC =>
      agI_any w g cap2 M L HM hM hcap2 hM1 HC (i : Int) (fun c => hon c i) (Lib.hid (fun c hcm w => (isHonest_any c i w (by have := HLL.out c hcm; omega) (by have := HLL.out c hcm; omega)).mono (fun e w' h => ⟨h.1, by rw [h.2]; exact Below.refl _ _⟩))))
    obtain ⟨R, hR⟩ : ∃ R, sgs L F = R := ⟨_, rfl⟩
    rw [hR]
    have HR := Lib.hid hR
    have Hsg := Lib.hid (fun k => sgs_push L k)
    have Hsz := Lib.hid (fun k => sgs_size L k)
    obtain ⟨S, hS⟩ : ∃ S, sgs L = S := ⟨_, rfl⟩
    have HS0 : Hid (S 0 = ⟨#[]⟩) := Lib.hid (by rw [← hS]; rfl)
    rw [hS] at HR Hsg Hsz
    clear h1 hs hc hR hS hL
    go_enter Try.func26, Try.ntmps26
    go_wp2_with fail
    refine HX.out.mono ?_
    rintro e w1 ⟨ao2, M, cap2, HM, rfl, own, hb1⟩
    have hM0 : 0 < M := by rw [HM.out]; exact hl0
    obtain ⟨g, rfl, hcap2, _, hgs, HC⟩ := fit_cells own HM.out hM0
    have hM8 : M ≤ 256 := by rw [HM.out]; exact hlen8
    obtain ⟨H1, hH1⟩ : ∃ H1, w1.heap.size = H1 := ⟨_, rfl⟩
    have HH1 := Lib.hid hH1
    have Hb1 := Lib.hid hb1
    rw [hH1] at hgs
    clear own hb1 hl0 hH1
    go_wp2_with fail
    go_loopw [8, 19] (fun v i wr => ∃ k : Nat, k ≤ F ∧ i = .int .i64 k ∧ v = .string (S k) ∧ Below H1 w1 wr) (fun _ i _ => F - (intOf i).toNat)
    case atStart => exact ⟨0, Nat.zero_le _, rfl, by rw [HS0.out], by rw [← HH1.out]; exact Below.refl _ _⟩
    case round =>
      obtain ⟨k, hk, rfl, rfl, hb3⟩ := hrel
      by_cases hlt : k < F
      · have HCr : Hid (∀ j, (hj : j < L.length) → wr.cell? ⟨g, j, none⟩ = some (.string (cbs L[j]))) := Lib.hid (fun j hj => (hb3.cell (p := ⟨g, j, none⟩) hgs).trans (HC.out j hj))
        have HV := Lib.hid (HA.out k hlt wr g cap2 M HM hM8 hcap2 hM0 HCr)
        have hsz : H1 ≤ wr.heap.size := by have := hb3.size; have := HH1.out; omega
        have Hb3 := Lib.hid hb3
        have hz : ¬ 9223372036854775807 < (S k).size + 1 := by rw [Hsz.out]; omega
        have HP := Lib.hid (Hsg.out k)
        have hsd : sgn L k = sgN (L.countP fun c => hon c k) L.length := rfl
        rw [hsd] at HP
        have hcase := agN_sg (L.countP fun c => hon c k) L.length
        generalize (L.countP fun c => hon c k) = q at HV HP hcase
        generalize hn2 : L.length = m at HV HP hcase
        obtain ⟨s, hs⟩ : ∃ s, S k = s := ⟨_, rfl⟩
        rw [hs] at HP hz ⊢
        clear hb3 hsd hs
        rcases hcase with ⟨ha, hg⟩ | ⟨ha, hg⟩ | ⟨ha, hg⟩
        · rw [ha] at HV
          rw [hg] at HP
          clear ha hg hn2
          go_wp2_with fail
          refine HV.out.mono ?_
          rintro e w4 ⟨rfl, hb4⟩
          have Hb4 := Lib.hid (Hb3.out.trans (hb4.mono hsz))
          clear hb4
          go_wp2_with fail
          go_roundw
          case rel => exact ⟨k + 1, by omega, by go_num, by rw [← HP.out], Hb4.out⟩
          case measure => simp [intOf]; omega
        · rw [ha] at HV
          rw [hg] at HP
          clear ha hg hn2
          go_wp2_with fail
          refine HV.out.mono ?_
          rintro e w4 ⟨rfl, hb4⟩
          have Hb4 := Lib.hid (Hb3.out.trans (hb4.mono hsz))
          clear hb4
          go_wp2_with fail
          go_roundw
          case rel => exact ⟨k + 1, by omega, by go_num, by rw [← HP.out], Hb4.out⟩
          case measure => simp [intOf]; omega
        · rw [ha] at HV
          rw [hg] at HP
          clear ha hg hn2
          go_wp2_with fail
          refine HV.out.mono ?_
          rintro e w4 ⟨rfl, hb4⟩
          have Hb4 := Lib.hid (Hb3.out.trans (hb4.mono hsz))
          clear hb4
          go_wp2_with fail
          go_roundw
          case rel => exact ⟨k + 1, by omega, by go_num, by rw [← HP.out], Hb4.out⟩
          case measure => simp [intOf]; omega
      · have hkF : k = F := by omega
        have HE : Hid (S k = R) := Lib.hid (by rw [hkF]; exact HR.out)
        have Hb5 := Lib.hid (Hb1.out.trans (hb3.mono (by rw [← HH1.out]; exact Hb1.out.size)))
        rw [HE.out]
        clear hb3 hkF
        go_wp2_with fail
        go_ret2
        exact ⟨rfl, Hb5.out⟩

end Go.Proofs.Ytaangjidkkpogaa
