/- Sure wires: the program. -/
import Derived.Test.YtoigafjocckepaaSw0
namespace Go.Proofs.Ytoigafjocckepaa
open Go.ChangeShapes Go.WideShapes Go.ChangeAt Go.RowKit
set_option linter.unusedVariables false


theorem infoU8 : (Try.prog.info? 5).map (fun i => (i.zero, i.size, i.bytes)) = some (some (.int .u8 0), 1, 1) := by kernel_rfl
/-- Bytes in memory. -/
def us8 (l : List UInt8) : List Value := l.map fun x => .int .u8 (x.toNat : Int)
theorem us8_set (l : List UInt8) (i : Nat) (a : UInt8) : (us8 l).set i (.int .u8 (a.toNat : Int)) = us8 (l.set i a) := by simp [us8, List.map_set]
theorem zero_us8 (n : Nat) : (madeCells #[.int .u8 0] (n * 1)).toList = us8 (List.replicate n 0) := by
  rw [Nat.mul_one, toList_madeCells_one]
  simp [us8]
theorem us8_get (l : List UInt8) (i : Nat) (h : i < l.length) : (us8 l)[i]? = some (.int .u8 (l[i].toNat : Int)) := by simp [us8, h]
/-- The signs while they are told. -/
def swp (K : List (List Int)) (n k : Nat) : List UInt8 := swU K k ++ List.replicate (n - k) 0
theorem swp_set (K : List (List Int)) (n k : Nat) (h : k < n) : (swp K n k).set k (sgU K.length (hc K k K.length)) = swp K n (k + 1) := by
  unfold swp
  rw [swU_succ, List.set_append_right _ _ (by rw [swU_len]; omega), swU_len, Nat.sub_self, show n - k = (n - (k + 1)) + 1 by omega, List.replicate_succ]
  simp

set_option maxHeartbeats 1600000 in
set_option maxRecDepth 20000 in
theorem implSW_any (w : World) (f : Int) (ao : Option Addr) (cap : Nat) (L : List (List Int)) (n : Nat) (Hn : Hid (n = L.length)) (hn : n ≤ 1048576) (hL : Hid (∀ i, (row L i).length ≤ 1048576)) (Hc : RowsAt w ao L) (s : ByteArray) (hs : s.size ≤ 1048576) (m : Int) :
    Calls Try.prog 29 #[.int .i64 f, .slice ao n cap, .string s, .int .i64 m] w fun e w' => e = .returned (.tuple #[.string (swR f L s m), .bool (swB f L s m)]) ∧ Below w.heap.size w w' := by
  obtain ⟨i5, hi5, hz50, hz51, hz52⟩ := info_parts infoU8
  have H5 := Lib.hid (And.intro hz50 (And.intro hz51 hz52))
  have Hft := Lib.hid (fittingTo_any w f ao cap L n Hn hn hL Hc s hs m)
  clear Hc hz50 hz51 hz52
  cases hg : askB f L s m
  · have hB : swB f L s m = false := by simp [swB, hg]
    have hR : swR f L s m = ⟨#[]⟩ := by simp [swR, hB]
    rw [hR, hB]
    rw [hg] at Hft
    clear hg hR hB
    go_enter Try.func29, Try.ntmps29
    go_wp2_with fail
    refine Hft.out.mono ?_
    rintro e w1 ⟨v, rfl, own1, hb1⟩
    obtain ⟨a2, c2, rfl, _⟩ := wl_at own1 rfl
    clear own1
    go_wp2_with fail
    go_ret2
    exact ⟨rfl, hb1⟩
  · rw [hg] at Hft
    have hp := ask_parts hg
    have hw := wi_parts hp.1
    have hbl := ftR_len f L s m
    have hft := ftR_fitL hg
    obtain ⟨F, rfl⟩ := Int.eq_ofNat_of_zero_le (a := f) (by omega)
    have hF : F ≤ 10 := by omega
    have hF1 : 1 ≤ F := by omega
    have hKr := fitL_ris L s m.toNat hF
    have hRF : swB (F : Int) L s m = true → swR (F : Int) L s m = swT (fitL L s F m.toNat) F := fun h => by simp [swR, h]
    simp only [Int.toNat_natCast] at hft
    obtain ⟨K, hK0⟩ : ∃ q, fitL L s F m.toNat = q := ⟨_, rfl⟩
    rw [hK0] at hft hKr hRF
    obtain ⟨z, hz⟩ : ∃ z, K.length = z := ⟨_, rfl⟩
    have hzl : (ftR (F : Int) L s m).length = z := by rw [hft, List.length_map, hz]
    rw [hzl] at Hft hbl
    rw [hft] at Hft
    by_cases h0 : z = 0
    · have hB : swB (F : Int) L s m = false := by simp [swB, hzl, h0]
      have hR : swR (F : Int) L s m = ⟨#[]⟩ := by simp [swR, hB]
      rw [hB, hR]
      have hze : ((z : Int) == 0) = true := by simp; omega
      have HzM : Hid (z = (K.map bw).length) := by show _ = _; rw [List.length_map, hz]
      clear hg hp hw hft hK0 hB hRF hR hKr hz hzl h0
      go_enter Try.func29, Try.ntmps29
      go_wp2_with fail
      refine Hft.out.mono ?_
      rintro e w1 ⟨v, rfl, own1, hb1⟩
      obtain ⟨a2, c2, rfl, _⟩ := wl_at own1 HzM.out
      clear own1
      go_wp2_with fail
      go_ret2
      exact ⟨rfl, hb1⟩
    · have hB : swB (F : Int) L s m = true := by simp [swB, hg, hzl, h0]
      rw [hB, hRF hB]
      have hze : ((z : Int) == 0) = false := by rw [beq_eq_false_iff_ne]; omega
      have hz1 : 0 < z := by omega
      have HzM : Hid (z = (K.map bw).length) := by show _ = _; rw [List.length_map, hz]
      have Hz := Lib.hid hz
      have HKm : Hid (∀ x, x ∈ K.map bw → x < 1024) := by
        intro x hx
        rw [List.mem_map] at hx
        obtain ⟨l, hl, rfl⟩ := hx
        exact bw_lt (by omega : (F : Int) ≤ 10) (hKr l hl)
      have Hcm : Hid (∀ x, cm (K.map bw) (2 ^ x) z = hc K x z) := fun x => cm_hc K hKr x z (by omega)
      obtain ⟨KM, hKM⟩ : ∃ q, K.map bw = q := ⟨_, rfl⟩
      rw [hKM] at Hft HzM HKm Hcm
      obtain ⟨RES, hRES⟩ : ∃ q, swT K F = q := ⟨_, rfl⟩
      rw [hRES]
      have HRES := Lib.hid hRES
      clear hg hp hw hft hK0 hB hRF hKr hz hzl h0 hRES hKM
      go_enter Try.func29, Try.ntmps29
      go_wp2_with fail
      refine Hft.out.mono ?_
      rintro e w1 ⟨v, rfl, own1, hb1⟩
      obtain ⟨a2, c2, rfl, hwl⟩ := wl_at own1 HzM.out
      have Hwl := Lib.hid hwl
      have Hb1 := Lib.hid hb1
      have hs1 := hb1.size
      clear own1 hb1 hwl
      go_wp2_with (refine wpList_make_full _ rfl _ _ 61 rfl w.heap.size 5 i5 (.int .u8 0) 1 Try.underlying61 hi5 H5.out.1 H5.out.2.1 .i64 .i64 _ _ F rfl rfl rfl rfl ?_ ?_ ?_ ?_)
      · rw [H5.out.2.2]; omega
      · unfold maxLen; omega
      · exact hs1
      intro w4 hown hgr
      have hown2 : w4.ownsRow w1.heap.size 5 1 (.slice (some ⟨w1.heap.size, 0, none⟩) F F) F (us8 (List.replicate F 0)) := by
        rw [← zero_us8]
        have hown3 : w4.ownsRow w.heap.size 5 1 (.slice (some ⟨w1.heap.size, 0, none⟩) F F) F (madeCells #[.int .u8 0] (F * 1)).toList := by simpa using hown
        refine ⟨hown3.1, ?_⟩
        rcases hown3.2 with ⟨hv, _⟩ | ⟨g, cap, cur, hv, _, rest⟩
        · cases hv
        · cases hv; exact .inr ⟨_, _, cur, rfl, Nat.le_refl _, rest⟩
      have H0 := Lib.hid hown2
      have Hb4 := Lib.hid (Hb1.out.grown hgr hs1 (fun _ h => by cases h))
      have Hwl4 := Lib.hid (Hwl.out.kept ((Below.refl w1.heap.size w1).grown hgr (Nat.le_refl _) (fun _ h => by cases h)))
      have Hbb := Lib.hid ((Below.refl w1.heap.size w1).grown hgr (Nat.le_refl _) (fun _ h => by cases h))
      obtain ⟨g, hg⟩ : ∃ g, w1.heap.size = g := ⟨_, rfl⟩
      rw [hg] at H0 hs1
      rw [hg]
      have Hp0 : Hid (swp K F 0 = List.replicate F 0) := by show _ = _; simp [swp, swU]
      clear hown hgr hown2
      go_wp2_with fail
      go_loopw [33] (fun i wr => ∃ k : Nat, k ≤ F ∧ i = .int .i64 k ∧ wr.ownsRow g 5 1 (.slice (some ⟨g, 0, none⟩) F F) F (us8 (swp K F k)) ∧ Below g w1 wr) (fun i _ => F - (intOf i).toNat)
      case atStart => exact ⟨0, Nat.zero_le _, rfl, by rw [Hp0.out]; exact H0.out, by rw [← hg]; exact Hbb.out⟩
      case round =>
        obtain ⟨k, hk, rfl, hor, hbel⟩ := hrel
        by_cases hlt : k < F
        · have hk1 : (0 : Int) ≤ k := by omega
          have hk2 : (k : Int) < F := by omega
          have hset := swp_set K F k hlt
          have hsz : g ≤ wr.heap.size := by have := hbel.size; omega
          have hWi := fun W => with_any 0 k (by omega) (by omega) W
          simp only [wv, Nat.zero_or] at hWi
          have hp2 := pow_small k (by omega)
          have hwlr : WLAt wr a2 KM := Hwl.out.kept (by rw [hg]; exact hbel)
          have Hcm2 := Lib.hid (fun W (hb : Below wr.heap.size wr W) => countMeeting_any W a2 c2 KM z (2 ^ k) HzM (by omega) HKm hp2 (Lib.hid (hwlr.kept hb)))
          rw [Hcm.out k] at Hcm2
          rw [Hz.out] at hset
          obtain ⟨c, hc0⟩ : ∃ c, hc K k z = c := ⟨_, rfl⟩
          rw [hc0] at Hcm2 hset
          simp only [wv] at Hcm2
          obtain ⟨P, hP⟩ : ∃ P : Int, ((2 ^ k : Nat) : Int) = P := ⟨_, rfl⟩
          simp only [hP] at hWi Hcm2
          have HWi := Lib.hid hWi
          have Hset := Lib.hid hset
          have Hor := Lib.hid hor
          have Hbel := Lib.hid hbel
          clear hor hbel hWi hwlr hset hc0 hP hp2
          go_wp2_with fail
          refine (HWi.out _).mono ?_
          rintro e w5 ⟨rfl, hb5⟩
          go_wp2_with fail
          refine (Hcm2.out w5 hb5).mono ?_
          rintro e w6 ⟨rfl, hb6⟩
          have hb56 : Below wr.heap.size wr w6 := hb5.trans (hb6.mono hb5.size)
          have own6 := own_later Hor.out hb56
          have Hb6 := Lib.hid (Hbel.out.trans (hb56.mono hsz))
          obtain ⟨u0, z0⟩ := own_some own6 k (by omega)
          have zf0 := own6.frozenAt k
          have hst := (own6.stored k (.int .u8 ((sgU z c).toNat : Int))).1
          rw [us8_set, Hset.out] at hst
          have Hst := Lib.hid hst
          have Hbs := Lib.hid (Hb6.out.setCell (p := ⟨g, k, none⟩) (Nat.le_refl _) (.int .u8 ((sgU z c).toNat : Int)))
          clear hb5 hb6 hb56 own6 hst
          by_cases hc2 : c = z
          · have e : sgU z c = 120 := by simp [sgU, hc2]; omega
            rw [e] at Hst Hbs
            have hce2 : ((c : Int) == (z : Int)) = true := by simp; omega
            clear hc2 e
            go_wp2_with fail
            go_roundw
            case rel => exact ⟨k + 1, by omega, by go_num, Hst.out, Hbs.out⟩
            case measure => simp [intOf]; omega
          · have hce2 : ((c : Int) == (z : Int)) = false := by rw [beq_eq_false_iff_ne]; omega
            by_cases hc1 : c = 0
            · have e : sgU z c = 111 := by simp [sgU, hc1]
              rw [e] at Hst Hbs
              have hce : ((c : Int) == 0) = true := by simp; omega
              clear hc2 hc1 e
              go_wp2_with fail
              go_roundw
              case rel => exact ⟨k + 1, by omega, by go_num, Hst.out, Hbs.out⟩
              case measure => simp [intOf]; omega
            · have hce : ((c : Int) == 0) = false := by rw [beq_eq_false_iff_ne]; omega
              have e : sgU z c = 63 := by simp [sgU, hc1, hc2]
              rw [e] at Hst Hbs
              clear hc2 hc1 e
              go_wp2_with fail
              go_roundw
              case rel => exact ⟨k + 1, by omega, by go_num, Hst.out, Hbs.out⟩
              case measure => simp [intOf]; omega
        · obtain rfl : k = F := by omega
          have hp : swp K k k = swU K k := by simp [swp]
          rw [hp] at hor
          have hconv := run_convert_bytes_back (P := Try.prog) wr 61 9 5 ⟨g, 0, none⟩ k (swU K k) Try.underlying61 Try.underlying5 Try.underlying9 (fun j hj => by
            rw [swU_len] at hj
            have e := hor.cellAt j (by omega)
            rw [us8_get _ j (by rw [swU_len]; exact hj)] at e
            rw [add_at, Nat.zero_add]; exact e)
          rw [swU_len] at hconv
          have hre : (⟨(swU K k).toArray⟩ : ByteArray) = RES := HRES.out
          rw [hre] at hconv
          have Hbf := Lib.hid (Hb1.out.trans (hbel.mono hs1))
          clear hor hp hre hbel
          go_wp2_with fail
          go_ret2
          exact ⟨rfl, Hbf.out⟩

end Go.Proofs.Ytoigafjocckepaa
