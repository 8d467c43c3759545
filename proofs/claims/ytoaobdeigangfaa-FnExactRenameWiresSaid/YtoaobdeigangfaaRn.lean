/- Wires under new names: the model and the program. -/
import Derived.Test.YtoaobdeigangfaaNm
import Derived.Test.YtoaobdeigangfaaAnI
import Derived.Test.YtoaobdeigangfaaAnS
namespace Go.Proofs.Ytoaobdeigangfaa
open Go.ChangeShapes Go.WideShapes Go.ChangeAt Go.RowKit
set_option linter.unusedVariables false


/-- The groups under new names, the first k of them. -/
def rnTo (l nm : List Int) : Nat → List Int | 0 => List.replicate l.length 0 | k + 1 => (rnTo l nm k).set (na nm k).toNat (na l k)

theorem rnTo_length (l nm : List Int) : ∀ k, (rnTo l nm k).length = l.length
  | 0 => by simp [rnTo]
  | k + 1 => by simp [rnTo, rnTo_length l nm k]

def rnB (l nm : List Int) : Bool := grB l && specNam (l.length : Int) nm

def rnR (l nm : List Int) : List Int := if rnB l nm then anL (rnTo l nm l.length) else []

theorem rnR_length (l nm : List Int) : (rnR l nm).length ≤ 1000 := by
  unfold rnR
  split
  · rename_i h
    simp only [rnB, Bool.and_eq_true] at h
    have := grB_len h.1
    rw [anL_length, rnTo_length]; omega
  · simp

theorem specNam_in {n : Nat} {nm : List Int} (h : specNam (n : Int) nm = true) : nm.length = n ∧ ∀ i, i < n → 0 ≤ na nm i ∧ na nm i < n := by
  simp only [specNam, inTo, Bool.and_eq_true, decide_eq_true_eq, List.all_eq_true, List.mem_range] at h
  refine ⟨by omega, fun i hi => ?_⟩
  have := h.2.1 i (by omega)
  omega

theorem toldAnew_any (ao : Option Addr) (cap : Nat) (l : List Int) (n : Nat) (w : World) (Hn : Hid (n = l.length)) (hl : n ≤ 1000) (h1 : 0 < n) (hc : NumsAt w ao l) :
    Calls Try.prog 56 #[.slice ao n cap] w fun e w' => ∃ v, e = .returned v ∧ w'.ownsRow w.heap.size 3 1 v n (ns (anL l)) ∧ Below w.heap.size w w' := by
  rcases hc with h | ⟨b, off, rfl, hc⟩
  · subst h; have := Hn.out; simp at this; omega
  · exact toldAnew_pos b off cap l n w Hn hl h1 (by rw [Hn.out]; exact hc)

theorem cbAnew_any (ao : Option Addr) (cap : Nat) (l : List Int) (n : Nat) (w : World) (Hn : Hid (n = l.length)) (hl : n ≤ 1000) (h1 : 0 < n) (hc : NumsAt w ao l) :
    Calls Try.prog 55 #[.slice ao n cap] w fun e w' => ∃ v, e = .returned v ∧ w'.ownsRow w.heap.size 3 1 v n (ns (anL l)) ∧ Below w.heap.size w w' := by
  rcases hc with h | ⟨b, off, rfl, hc⟩
  · subst h; have := Hn.out; simp at this; omega
  · exact cbAnew_pos b off cap l n w Hn hl (by rw [Hn.out]; exact hc)

set_option maxHeartbeats 800000 in
set_option maxRecDepth 20000 in
theorem specRn_yes (w : World) (ao bo : Option Addr) (ka kb : Nat) (l m : List Int) (n k : Nat) (Hn : Hid (n = l.length)) (hn : n ≤ 1048576) (Ha : Hid (NumsAt w ao l)) (hka : n ≤ ka) (Hk : Hid (k = m.length)) (hk : k ≤ 1048576) (Hb : Hid (NumsAt w bo m)) (hkb : k ≤ kb) (Hg : Hid (grB l = true)) (Hs : Hid (specNam (n : Int) m = true)) :
    Calls Try.prog 34 #[.slice ao n ka, .slice bo k kb] w fun e w' => ∃ v, e = .returned (.tuple #[v, .bool true]) ∧ w'.ownsRow w.heap.size 3 1 v n (ns (anL (rnTo l m n))) ∧ Below w.heap.size w w' := by
  obtain ⟨i3, hi3, hz30, hz31, hz32⟩ := info_parts info3
  have Hz := Lib.hid (And.intro hz30 (And.intro hz31 hz32))
  have hl := grB_len Hg.out
  have hnn := Hn.out
  have hsp := specNam_in Hs.out
  have hkn : k = n := by rw [Hk.out]; exact hsp.1
  subst hkn
  have HR := Lib.hid hsp.2
  obtain ⟨b, off, Hao, Hac⟩ : ∃ b off, Hid (ao = some ⟨b, off, none⟩) ∧ Hid (∀ i, i < k → w.cell? ⟨b, off + i, none⟩ = some (.int .i64 (na l i))) := by
    rcases Ha.out with h | ⟨b, off, h, hc⟩
    · subst h; simp at hl
    · exact ⟨b, off, h, fun i hi => hc i (by rw [← Hn.out]; exact hi)⟩
  obtain ⟨b2, off2, Hbo, Hbc⟩ : ∃ b off, Hid (bo = some ⟨b, off, none⟩) ∧ Hid (∀ i, i < k → w.cell? ⟨b, off + i, none⟩ = some (.int .i64 (na m i))) := by
    rcases Hb.out with h | ⟨b, off, h, hc⟩
    · subst h; have := Hk.out; simp at this; omega
    · exact ⟨b, off, h, fun i hi => hc i (by rw [← Hk.out]; exact hi)⟩
  have hk12 : k ≤ 12 := by omega
  have hk1 : 1 ≤ k := by omega
  clear hl hnn hsp hz30 hz31 hz32
  go_enter Try.func34, Try.ntmps34
  go_wp2_with fail
  refine (cbGood_any ao ka l k w Hn hn Ha.out).mono ?_
  rintro e w' ⟨rfl, rfl⟩
  rw [Hg.out]
  go_wp2_with fail
  refine (caNames_any bo kb m k (k : Int) w Hk hk hkb (by omega) (by omega) Hb.out).mono ?_
  rintro e w' ⟨rfl, rfl⟩
  rw [Hs.out]
  go_wp2_with (refine wpList_make_full _ rfl _ _ 22 rfl w.heap.size 3 i3 (.int .i64 0) 1 Try.underlying22 hi3 Hz.out.1 Hz.out.2.1 .i64 .i64 _ _ k rfl rfl rfl rfl ?_ ?_ ?_ ?_)
  · rw [Hz.out.2.2]; omega
  · unfold maxLen; omega
  · exact Nat.le_refl _
  intro w1 hown hgr
  have hown2 : w1.ownsRow w.heap.size 3 1 (.slice (some ⟨w.heap.size, 0, none⟩) k k) k (ns (List.replicate k 0)) := by rw [← zero_nums, Nat.mul_one]; simpa using hown
  have HA0 : Hid (w1.ownsRow w.heap.size 3 1 (.slice (some ⟨w.heap.size, 0, none⟩) k k) k (ns (rnTo l m 0))) := by show World.ownsRow _ _ _ _ _ _ _; simp only [rnTo, ← Hn.out]; exact hown2
  have HB0 : Hid (Below w.heap.size w w1) := (Below.refl _ _).grown hgr (Nat.le_refl _) (fun _ h => by cases h)
  obtain ⟨g, hg⟩ : ∃ g, g = w.heap.size := ⟨_, rfl⟩
  have hgw : w.heap.size ≤ g := by omega
  have Hgw : Hid (w.heap.size = g) := hg.symm
  rw [← hg] at HA0 ⊢
  rw [Hao.out, Hbo.out]
  clear hown hgr hown2 hg Ha Hb
  go_wp2_with fail
  go_loopw [24] (fun i wr => ∃ j : Nat, j ≤ k ∧ i = .int .i64 j ∧ wr.ownsRow g 3 1 (.slice (some ⟨g, 0, none⟩) k k) k (ns (rnTo l m j)) ∧ Below w.heap.size w wr) (fun i _ => k - (intOf i).toNat)
  case atStart => exact ⟨0, Nat.zero_le _, rfl, HA0.out, HB0.out⟩
  case round =>
    obtain ⟨j, hj, rfl, hor, hbel⟩ := hrel
    by_cases hlt : j < k
    · have h0 := cell_old hbel (Hac.out j hlt)
      have h2 := cell_old hbel (Hbc.out j hlt)
      have hr := HR.out j hlt
      obtain ⟨q, hq⟩ := Int.eq_ofNat_of_zero_le hr.1
      rw [hq] at h2
      have hq1 : (0 : Int) ≤ q := by omega
      have hq2 : (q : Int) < k := by omega
      obtain ⟨u0, z0⟩ := own_some hor q (by omega)
      have zf0 := hor.frozenAt q
      have hst := (hor.stored q (.int .i64 (na l j))).1
      rw [ns_set, show (rnTo l m j).set q (na l j) = rnTo l m (j + 1) by simp only [rnTo, hq]; rfl] at hst
      have Hst := Lib.hid hst
      have Hbs : Hid (Below w.heap.size w (wr.setCell ⟨g, q, none⟩ (.int .i64 (na l j)))) := hbel.setCell (p := ⟨g, q, none⟩) hgw _
      clear hst hor hbel hq hr
      go_wp2_with fail
      go_roundw
      case rel => exact ⟨j + 1, by omega, by go_num, Hst.out, Hbs.out⟩
      case measure => simp [intOf]; omega
    · obtain rfl : j = k := by omega
      have hna := nums_at hor (by rw [rnTo_length]; exact Hn.out)
      obtain ⟨NM, hNM⟩ : ∃ NM, rnTo l m j = NM := ⟨_, rfl⟩
      rw [hNM] at hna hor
      have HNM := Lib.hid hNM
      have HNl : Hid (j = NM.length) := by show _ = _; rw [← hNM, rnTo_length]; exact Hn.out
      have Hna := Lib.hid hna
      have hsz := hbel.size
      have Hbel := Lib.hid hbel
      clear hna hor hbel hNM
      go_wp2_with fail
      refine (cbAnew_any _ j NM j wr HNl (by omega) (by omega) Hna.out).mono ?_
      rintro e w3 ⟨v, rfl, hO, hb3⟩
      have HO := Lib.hid (own_base hsz hO)
      have Hb3 := Lib.hid (Hbel.out.trans (hb3.mono hsz))
      clear hO hb3
      go_wp2_with fail
      go_ret2
      exact ⟨v, rfl, by rw [HNM.out]; exact HO.out, Hb3.out⟩

theorem specRn_no1 (w : World) (ao bo : Option Addr) (ka kb : Nat) (l m : List Int) (n k : Nat) (Hn : Hid (n = l.length)) (hn : n ≤ 1048576) (Ha : NumsAt w ao l) (Hg : Hid (grB l = false)) :
    Calls Try.prog 34 #[.slice ao n ka, .slice bo k kb] w fun e w' => e = .returned (.tuple #[.slice none 0 0, .bool false]) ∧ w = w' := by
  go_enter Try.func34, Try.ntmps34
  go_wp2_with fail
  refine (cbGood_any ao ka l n w Hn hn Ha).mono ?_
  rintro e w' ⟨rfl, rfl⟩
  rw [Hg.out]
  go_wp2_with fail
  go_ret2
  exact ⟨rfl, rfl⟩

theorem specRn_no2 (w : World) (ao bo : Option Addr) (ka kb : Nat) (l m : List Int) (n k : Nat) (Hn : Hid (n = l.length)) (hn : n ≤ 1048576) (Ha : NumsAt w ao l) (Hk : Hid (k = m.length)) (hk : k ≤ 1048576) (Hb : NumsAt w bo m) (hkb : k ≤ kb) (Hg : Hid (grB l = true)) (Hs : Hid (specNam (n : Int) m = false)) :
    Calls Try.prog 34 #[.slice ao n ka, .slice bo k kb] w fun e w' => e = .returned (.tuple #[.slice none 0 0, .bool false]) ∧ w = w' := by
  have hl := grB_len Hg.out
  have hnn := Hn.out
  have hk12 : n ≤ 12 := by omega
  have hk1 : 1 ≤ n := by omega
  clear hl hnn
  go_enter Try.func34, Try.ntmps34
  go_wp2_with fail
  refine (cbGood_any ao ka l n w Hn hn Ha).mono ?_
  rintro e w' ⟨rfl, rfl⟩
  rw [Hg.out]
  go_wp2_with fail
  refine (caNames_any bo kb m k (n : Int) w Hk hk hkb (by omega) (by omega) Hb).mono ?_
  rintro e w' ⟨rfl, rfl⟩
  rw [Hs.out]
  go_wp2_with fail
  go_ret2
  exact ⟨rfl, rfl⟩

theorem specRn_any (w : World) (ao : Option Addr) (ka : Nat) (l : List Int) (n : Nat) (Hn : Hid (n = l.length)) (hn : n ≤ 1048576) (Ha : NumsAt w ao l) (hka : n ≤ ka) (bo : Option Addr) (kb : Nat) (m : List Int) (k : Nat) (Hk : Hid (k = m.length)) (hk : k ≤ 1048576) (Hb : NumsAt w bo m) (hkb : k ≤ kb) :
    Calls Try.prog 34 #[.slice ao n ka, .slice bo k kb] w fun e w' => ∃ v, e = .returned (.tuple #[v, .bool (rnB l m)]) ∧ w'.ownsRow w.heap.size 3 1 v (rnR l m).length (ns (rnR l m)) ∧ Below w.heap.size w w' := by
  cases hg : grB l
  · have hB : rnB l m = false := by simp [rnB, hg]
    have hR : rnR l m = [] := by simp [rnR, hB]
    rw [hR, hB]
    refine (specRn_no1 w ao bo ka kb l m n k Hn hn Ha hg).mono ?_
    rintro e w' ⟨rfl, rfl⟩
    exact ⟨_, rfl, World.ownsRow_nil _ _ _ _, Below.refl _ _⟩
  · cases hs : specNam (n : Int) m
    · have hB : rnB l m = false := by simp [rnB, hg, ← Hn.out, hs]
      have hR : rnR l m = [] := by simp [rnR, hB]
      rw [hR, hB]
      refine (specRn_no2 w ao bo ka kb l m n k Hn hn Ha Hk hk Hb hkb hg hs).mono ?_
      rintro e w' ⟨rfl, rfl⟩
      exact ⟨_, rfl, World.ownsRow_nil _ _ _ _, Below.refl _ _⟩
    · have hB : rnB l m = true := by simp [rnB, hg, ← Hn.out, hs]
      have hR : rnR l m = anL (rnTo l m n) := by simp [rnR, hB, ← Hn.out]
      have hL : (rnR l m).length = n := by rw [hR, anL_length, rnTo_length]; exact Hn.out.symm
      rw [hL, hR, hB]
      exact specRn_yes w ao bo ka kb l m n k Hn hn Ha hka Hk hk Hb hkb hg hs

set_option maxHeartbeats 800000 in
set_option maxRecDepth 20000 in
theorem implRn_yes (w : World) (ao bo : Option Addr) (ka kb : Nat) (l m : List Int) (n k : Nat) (Hn : Hid (n = l.length)) (hn : n ≤ 1048576) (Ha : Hid (NumsAt w ao l)) (hka : n ≤ ka) (Hk : Hid (k = m.length)) (hk : k ≤ 1048576) (Hb : Hid (NumsAt w bo m)) (hkb : k ≤ kb) (Hg : Hid (grB l = true)) (Hs : Hid (specNam (n : Int) m = true)) :
    Calls Try.prog 35 #[.slice ao n ka, .slice bo k kb] w fun e w' => ∃ v, e = .returned (.tuple #[v, .bool true]) ∧ w'.ownsRow w.heap.size 3 1 v n (ns (anL (rnTo l m n))) ∧ Below w.heap.size w w' := by
  obtain ⟨i3, hi3, hz30, hz31, hz32⟩ := info_parts info3
  have Hz := Lib.hid (And.intro hz30 (And.intro hz31 hz32))
  have hl := grB_len Hg.out
  have hnn := Hn.out
  have hsp := specNam_in Hs.out
  have hkn : k = n := by rw [Hk.out]; exact hsp.1
  subst hkn
  have HR := Lib.hid hsp.2
  obtain ⟨b, off, Hao, Hac⟩ : ∃ b off, Hid (ao = some ⟨b, off, none⟩) ∧ Hid (∀ i, i < k → w.cell? ⟨b, off + i, none⟩ = some (.int .i64 (na l i))) := by
    rcases Ha.out with h | ⟨b, off, h, hc⟩
    · subst h; simp at hl
    · exact ⟨b, off, h, fun i hi => hc i (by rw [← Hn.out]; exact hi)⟩
  obtain ⟨b2, off2, Hbo, Hbc⟩ : ∃ b off, Hid (bo = some ⟨b, off, none⟩) ∧ Hid (∀ i, i < k → w.cell? ⟨b, off + i, none⟩ = some (.int .i64 (na m i))) := by
    rcases Hb.out with h | ⟨b, off, h, hc⟩
    · subst h; have := Hk.out; simp at this; omega
    · exact ⟨b, off, h, fun i hi => hc i (by rw [← Hk.out]; exact hi)⟩
  have hk12 : k ≤ 12 := by omega
  have hk1 : 1 ≤ k := by omega
  clear hl hnn hsp hz30 hz31 hz32
  go_enter Try.func35, Try.ntmps35
  go_wp2_with fail
  refine (isGr_any ao ka l k w Hn hn Ha.out).mono ?_
  rintro e w' ⟨rfl, rfl⟩
  rw [Hg.out]
  go_wp2_with fail
  refine (nameAll_any bo kb m k (k : Int) w Hk hk (by omega) (by omega) Hb.out).mono ?_
  rintro e w' ⟨rfl, rfl⟩
  rw [Hs.out]
  go_wp2_with (refine wpList_make_full _ rfl _ _ 22 rfl w.heap.size 3 i3 (.int .i64 0) 1 Try.underlying22 hi3 Hz.out.1 Hz.out.2.1 .i64 .i64 _ _ k rfl rfl rfl rfl ?_ ?_ ?_ ?_)
  · rw [Hz.out.2.2]; omega
  · unfold maxLen; omega
  · exact Nat.le_refl _
  intro w1 hown hgr
  have hown2 : w1.ownsRow w.heap.size 3 1 (.slice (some ⟨w.heap.size, 0, none⟩) k k) k (ns (List.replicate k 0)) := by rw [← zero_nums, Nat.mul_one]; simpa using hown
  have HA0 : Hid (w1.ownsRow w.heap.size 3 1 (.slice (some ⟨w.heap.size, 0, none⟩) k k) k (ns (rnTo l m 0))) := by show World.ownsRow _ _ _ _ _ _ _; simp only [rnTo, ← Hn.out]; exact hown2
  have HB0 : Hid (Below w.heap.size w w1) := (Below.refl _ _).grown hgr (Nat.le_refl _) (fun _ h => by cases h)
  obtain ⟨g, hg⟩ : ∃ g, g = w.heap.size := ⟨_, rfl⟩
  have hgw : w.heap.size ≤ g := by omega
  have Hgw : Hid (w.heap.size = g) := hg.symm
  rw [← hg] at HA0 ⊢
  rw [Hao.out, Hbo.out]
  clear hown hgr hown2 hg Ha Hb
  go_wp2_with fail
  go_loopw [24] (fun i wr => ∃ j : Nat, j ≤ k ∧ i = .int .i64 j ∧ wr.ownsRow g 3 1 (.slice (some ⟨g, 0, none⟩) k k) k (ns (rnTo l m j)) ∧ Below w.heap.size w wr) (fun i _ => k - (intOf i).toNat)
  case atStart => exact ⟨0, Nat.zero_le _, rfl, HA0.out, HB0.out⟩
  case round =>
    obtain ⟨j, hj, rfl, hor, hbel⟩ := hrel
    by_cases hlt : j < k
    · have h0 := cell_old hbel (Hac.out j hlt)
      have h2 := cell_old hbel (Hbc.out j hlt)
      have hr := HR.out j hlt
      obtain ⟨q, hq⟩ := Int.eq_ofNat_of_zero_le hr.1
      rw [hq] at h2
      have hq1 : (0 : Int) ≤ q := by omega
      have hq2 : (q : Int) < k := by omega
      obtain ⟨u0, z0⟩ := own_some hor q (by omega)
      have zf0 := hor.frozenAt q
      have hst := (hor.stored q (.int .i64 (na l j))).1
      rw [ns_set, show (rnTo l m j).set q (na l j) = rnTo l m (j + 1) by simp only [rnTo, hq]; rfl] at hst
      have Hst := Lib.hid hst
      have Hbs : Hid (Below w.heap.size w (wr.setCell ⟨g, q, none⟩ (.int .i64 (na l j)))) := hbel.setCell (p := ⟨g, q, none⟩) hgw _
      clear hst hor hbel hq hr
      go_wp2_with fail
      go_roundw
      case rel => exact ⟨j + 1, by omega, by go_num, Hst.out, Hbs.out⟩
      case measure => simp [intOf]; omega
    · obtain rfl : j = k := by omega
      have hna := nums_at hor (by rw [rnTo_length]; exact Hn.out)
      obtain ⟨NM, hNM⟩ : ∃ NM, rnTo l m j = NM := ⟨_, rfl⟩
      rw [hNM] at hna hor
      have HNM := Lib.hid hNM
      have HNl : Hid (j = NM.length) := by show _ = _; rw [← hNM, rnTo_length]; exact Hn.out
      have Hna := Lib.hid hna
      have hsz := hbel.size
      have Hbel := Lib.hid hbel
      clear hna hor hbel hNM
      go_wp2_with fail
      refine (toldAnew_any _ j NM j wr HNl (by omega) (by omega) Hna.out).mono ?_
      rintro e w3 ⟨v, rfl, hO, hb3⟩
      have HO := Lib.hid (own_base hsz hO)
      have Hb3 := Lib.hid (Hbel.out.trans (hb3.mono hsz))
      clear hO hb3
      go_wp2_with fail
      go_ret2
      exact ⟨v, rfl, by rw [HNM.out]; exact HO.out, Hb3.out⟩

theorem implRn_no1 (w : World) (ao bo : Option Addr) (ka kb : Nat) (l m : List Int) (n k : Nat) (Hn : Hid (n = l.length)) (hn : n ≤ 1048576) (Ha : NumsAt w ao l) (Hg : Hid (grB l = false)) :
    Calls Try.prog 35 #[.slice ao n ka, .slice bo k kb] w fun e w' => e = .returned (.tuple #[.slice none 0 0, .bool false]) ∧ w = w' := by
  go_enter Try.func35, Try.ntmps35
  go_wp2_with fail
  refine (isGr_any ao ka l n w Hn hn Ha).mono ?_
  rintro e w' ⟨rfl, rfl⟩
  rw [Hg.out]
  go_wp2_with fail
  go_ret2
  exact ⟨rfl, rfl⟩

theorem implRn_no2 (w : World) (ao bo : Option Addr) (ka kb : Nat) (l m : List Int) (n k : Nat) (Hn : Hid (n = l.length)) (hn : n ≤ 1048576) (Ha : NumsAt w ao l) (Hk : Hid (k = m.length)) (hk : k ≤ 1048576) (Hb : NumsAt w bo m) (hkb : k ≤ kb) (Hg : Hid (grB l = true)) (Hs : Hid (specNam (n : Int) m = false)) :
    Calls Try.prog 35 #[.slice ao n ka, .slice bo k kb] w fun e w' => e = .returned (.tuple #[.slice none 0 0, .bool false]) ∧ w = w' := by
  have hl := grB_len Hg.out
  have hnn := Hn.out
  have hk12 : n ≤ 12 := by omega
  have hk1 : 1 ≤ n := by omega
  clear hl hnn
  go_enter Try.func35, Try.ntmps35
  go_wp2_with fail
  refine (isGr_any ao ka l n w Hn hn Ha).mono ?_
  rintro e w' ⟨rfl, rfl⟩
  rw [Hg.out]
  go_wp2_with fail
  refine (nameAll_any bo kb m k (n : Int) w Hk hk (by omega) (by omega) Hb).mono ?_
  rintro e w' ⟨rfl, rfl⟩
  rw [Hs.out]
  go_wp2_with fail
  go_ret2
  exact ⟨rfl, rfl⟩

theorem implRn_any (w : World) (ao : Option Addr) (ka : Nat) (l : List Int) (n : Nat) (Hn : Hid (n = l.length)) (hn : n ≤ 1048576) (Ha : NumsAt w ao l) (hka : n ≤ ka) (bo : Option Addr) (kb : Nat) (m : List Int) (k : Nat) (Hk : Hid (k = m.length)) (hk : k ≤ 1048576) (Hb : NumsAt w bo m) (hkb : k ≤ kb) :
    Calls Try.prog 35 #[.slice ao n ka, .slice bo k kb] w fun e w' => ∃ v, e = .returned (.tuple #[v, .bool (rnB l m)]) ∧ w'.ownsRow w.heap.size 3 1 v (rnR l m).length (ns (rnR l m)) ∧ Below w.heap.size w w' := by
  cases hg : grB l
  · have hB : rnB l m = false := by simp [rnB, hg]
    have hR : rnR l m = [] := by simp [rnR, hB]
    rw [hR, hB]
    refine (implRn_no1 w ao bo ka kb l m n k Hn hn Ha hg).mono ?_
    rintro e w' ⟨rfl, rfl⟩
    exact ⟨_, rfl, World.ownsRow_nil _ _ _ _, Below.refl _ _⟩
  · cases hs : specNam (n : Int) m
    · have hB : rnB l m = false := by simp [rnB, hg, ← Hn.out, hs]
      have hR : rnR l m = [] := by simp [rnR, hB]
      rw [hR, hB]
      refine (implRn_no2 w ao bo ka kb l m n k Hn hn Ha Hk hk Hb hkb hg hs).mono ?_
      rintro e w' ⟨rfl, rfl⟩
      exact ⟨_, rfl, World.ownsRow_nil _ _ _ _, Below.refl _ _⟩
    · have hB : rnB l m = true := by simp [rnB, hg, ← Hn.out, hs]
      have hR : rnR l m = anL (rnTo l m n) := by simp [rnR, hB, ← Hn.out]
      have hL : (rnR l m).length = n := by rw [hR, anL_length, rnTo_length]; exact Hn.out.symm
      rw [hL, hR, hB]
      exact implRn_yes w ao bo ka kb l m n k Hn hn Ha hka Hk hk Hb hkb hg hs

end Go.Proofs.Ytoaobdeigangfaa
