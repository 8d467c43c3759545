/- The text of tests: the model. -/
import Derived.Test.YtnhkabhchepieaaDoorStr
import Derived.Test.YtnhkabhchepieaaDoorWi
import Derived.Test.YtnhkabhchepieaaDoorJoinN
namespace Go.Proofs.YtnhkabhchepieaaDoor
open Go.ChangeShapes Go.WideShapes Go.ChangeAt Go.RowKit
set_option linter.unusedVariables false

def dg (l : List Int) : List (List UInt8) := l.map fun x => [dgt x]
theorem dg_len (l : List Int) : (dg l).length = l.length := by simp [dg]
theorem dg_get (l : List Int) (j : Nat) (h : j < l.length) : (dg l).getD j [] = [dgt (na l j)] := by
  simp [dg, na, List.getD_eq_getElem?_getD, h]
theorem dg_le (l : List Int) : ∀ p, p ∈ dg l → p.length ≤ 1 := by
  intro p hp
  simp only [dg, List.mem_map] at hp
  obtain ⟨x, _, rfl⟩ := hp
  exact Nat.le_refl _
def wT (l : List Int) : List UInt8 := Lib.join (dg l) [43]
theorem wT_jn (l : List Int) : jn 43 (dg l) l.length = wT l := by unfold wT; rw [← jn_all, dg_len]
theorem wT_le (l : List Int) : (wT l).length ≤ 2 * l.length := by rw [← wT_jn]; exact jn_le 43 (dg_le l) _
def rs8 (L : List (List Int)) : List (List UInt8) := L.map wT
theorem rs8_len (L : List (List Int)) : (rs8 L).length = L.length := by simp [rs8]
theorem rs8_get (L : List (List Int)) (k : Nat) (h : k < L.length) : (rs8 L).getD k [] = wT (row L k) := by
  simp [rs8, row, List.getD_eq_getElem?_getD, h]
theorem rs8_le {f : Int} {L : List (List Int)} (h : wiB f L = true) : ∀ p, p ∈ rs8 L → p.length ≤ 20 := by
  intro p hp
  simp only [rs8, List.mem_map] at hp
  obtain ⟨l, hl, rfl⟩ := hp
  obtain ⟨i, hi, e⟩ := List.getElem_of_mem hl
  have h1 := wT_le l
  have h2 := (wi_row h hi).2.2
  rw [← row_get hi, e] at h2
  omega
def tT (L : List (List Int)) : ByteArray := ⟨(Lib.join (rs8 L) [47]).toArray⟩
def tsB (L : List (List Int)) : Bool := wiB 10 L
def tsR (L : List (List Int)) : ByteArray := if wiB 10 L then tT L else ⟨#[]⟩
theorem ba_app (s t : ByteArray) : (s ++ t).data.toList = s.data.toList ++ t.data.toList := by rw [ByteArray.data_append]; simp
theorem ba_size (s : ByteArray) : s.size = s.data.toList.length := by simp
theorem wi_at {f : Int} {L : List (List Int)} (h : wiB f L = true) (hf : f ≤ 10) {k j : Nat} (hk : k < L.length) (hj : j < (row L k).length) : 0 ≤ na (row L k) j ∧ na (row L k) j < 10 := by
  have := up_parts (ris_at (wi_row h hk).1 hj)
  omega
theorem rows_own {w : World} {base : Nat} {ao : Option Addr} {n cap : Nat} {X : List Value} {L : List (List Int)} (h : OwnSS w base (.slice ao n cap) X L) : RowsAt w ao L := by
  obtain ⟨ao', cap', e, hr⟩ := h.rows
  cases e
  exact hr

theorem nts_dg {l : List Int} (h : ∀ j, j < l.length → 0 ≤ na l j ∧ na l j < 10) : nts l = dg l := by
  unfold nts dg
  apply List.map_congr_left
  intro x hx
  obtain ⟨j, hj, rfl⟩ := List.getElem_of_mem hx
  have h1 := h j hj
  rw [← na_get l j hj] at h1
  simp [nt, h1.2]

set_option maxHeartbeats 1600000 in
set_option maxRecDepth 20000 in
theorem wiText_any (w : World) (ao : Option Addr) (cap : Nat) (L : List (List Int)) (n : Nat) (Hn : Hid (n = L.length)) (Hg : Hid (wiB 10 L = true)) (Hc : Hid (RowsAt w ao L)) :
    Calls Tryd.prog 31 #[.slice ao n cap] w fun e w' => e = .returned (.string (tT L)) ∧ Below w.heap.size w w' := by
  have hn12 : n ≤ 12 := by have := (wi_parts Hg.out).2.1; have := Hn.out; omega
  go_enter Tryd.func31, Tryd.ntmps31
  go_wp2_with fail
  go_loopw [3, 10] (fun v i wr => ∃ (k : Nat) (s : ByteArray), k ≤ n ∧ i = .int .i64 k ∧ v = .string s ∧ s.data.toList = jn 47 (rs8 L) k ∧ Below w.heap.size w wr) (fun _ i _ => n - (intOf i).toNat)
  case atStart => exact ⟨0, _, Nat.zero_le _, rfl, rfl, rfl, Below.refl _ _⟩
  case round =>
    obtain ⟨k, s0, hk, rfl, rfl, hst, hbel⟩ := hrel
    by_cases hlt : k < n
    · have hsz := hbel.size
      have hkL : k < L.length := by rw [← Hn.out]; exact hlt
      have hr := (wi_row Hg.out hkL).2
      have Hx0 : Hid (∀ j, j < (row L k).length → 0 ≤ na (row L k) j ∧ na (row L k) j < 10) := fun j hj => wi_at Hg.out (by omega) hkL hj
      have hgl := rs8_get L k hkL
      have hj47 := jn_le 47 (rs8_le Hg.out) k
      rcases (Hc.out.kept hbel) with h0 | ⟨b, off, A, C, rfl, hcell, _⟩
      · exfalso; rw [h0] at hkL; simp at hkL
      obtain ⟨hc1, hc2⟩ := hcell k hkL
      have hnx0 := fun (h : k = 0) => (show jn 47 (rs8 L) (k + 1) = jn 47 (rs8 L) k ++ wT (row L k) by rw [jn, if_pos h, hgl])
      have hnx1 := fun (h : ¬ k = 0) => (show jn 47 (rs8 L) (k + 1) = (jn 47 (rs8 L) k ++ [47]) ++ wT (row L k) by rw [jn, if_neg h, hgl])
      obtain ⟨l, hl⟩ : ∃ l, row L k = l := ⟨_, rfl⟩
      rw [hl] at hc1 hc2 hr Hx0
      simp only [hl] at hnx0 hnx1
      obtain ⟨m, hm⟩ : ∃ m, l.length = m := ⟨_, rfl⟩
      rw [hm] at hc1 hr Hx0
      have Hm := Lib.hid hm.symm
      have Hx := Hx0
      rcases hc2 with h0 | ⟨b1, off1, hA, hnum⟩
      · exfalso; rw [h0] at hm; simp at hm; omega
      rw [hA] at hc1
      rw [hm] at hnum
      have Hnum := Lib.hid hnum
      have hs0 : s0.size ≤ 252 := by rw [ba_size, hst]; have : 21 * k ≤ 21 * 12 := Nat.mul_le_mul_left 21 (by omega); omega
      have hk1 : (0 : Int) ≤ k := by omega
      have hk2 : (k : Int) < n := by omega
      have q0 : ¬ 9223372036854775807 < s0.size + 1 := by omega
      by_cases hk0 : k = 0
      · have hk00 : ¬ (0 : Int) < k := by omega
        have hkD : decide (0 < k) = false := by rw [decide_eq_false_iff_not]; omega
        have hk01 : decide ((k : Int) > 0) = false := by rw [decide_eq_false_iff_not]; omega
        obtain ⟨T0, hT0⟩ : ∃ T0, jn 47 (rs8 L) k = T0 := ⟨_, rfl⟩
        have HNX : Hid (T0 ++ wT l = jn 47 (rs8 L) (k + 1)) := Lib.hid (by rw [hnx0 hk0, hT0])
        have HT0 : Hid (s0.data.toList = T0) := Lib.hid (by rw [hst, hT0])
        have HT1 : Hid (T0.length ≤ 253) := Lib.hid (by rw [← HT0.out, ← ba_size]; omega)
        clear hst hT0 hnx0 hnx1 hl hm hA hnum hgl hj47 hcell Hx0 hkL hk0
        go_wp2_with fail
        go_loopw [3, 21] (fun v i wq => ∃ (j : Nat) (s : ByteArray), j ≤ m ∧ i = .int .i64 j ∧ v = .string s ∧ s.data.toList = T0 ++ jn 43 (dg l) j ∧ Below wr.heap.size wr wq) (fun _ i _ => m - (intOf i).toNat)
        case atStart => exact ⟨0, _, Nat.zero_le _, rfl, rfl, by rw [show jn 43 (dg l) 0 = [] from rfl, List.append_nil]; exact HT0.out, Below.refl _ _⟩
        case round =>
          obtain ⟨j, s, hj, rfl, rfl, hst, hbq⟩ := hrel
          by_cases hlt2 : j < m
          · have hz := cell_old hbq (Hnum.out j hlt2)
            have HX := Hx.out j hlt2
            have hgt := dg_get l j (by rw [← Hm.out]; exact hlt2)
            have hle := jn_le 43 (dg_le l) j
            have hss : s.size ≤ 300 := by rw [ba_size, hst, List.length_append]; have := HT1.out; omega
            obtain ⟨x, hxe⟩ : ∃ x, na l j = x := ⟨_, rfl⟩
            rw [hxe] at hz HX hgt
            have HX2 := Lib.hid HX
            have hsq := hbq.size
            have hj1 : (0 : Int) ≤ j := by omega
            have hj2 : (j : Int) < m := by omega
            have q1 : ¬ 9223372036854775807 < s.size + 1 := by omega
            have q2 : ¬ 9223372036854775807 < s.size + 2 := by omega
            have q3 : ¬ 9223372036854775807 < s.size + 1 + 1 := by omega
            by_cases hj0 : j = 0
            · have hj00 : ¬ (0 : Int) < j := by omega
              have hj01 : decide ((j : Int) > 0) = false := by rw [decide_eq_false_iff_not]; omega
              have Hnx : Hid ((s ++ ⟨#[dgt x]⟩).data.toList = T0 ++ jn 43 (dg l) (j + 1)) := Lib.hid (by rw [ba_app, hst, jn, if_pos hj0, hgt, List.append_assoc])
              clear hst hxe hgt hle hss HX hj0
              go_wp2_with fail
              refine (l1Num_any x _ HX2.out.1 HX2.out.2).mono ?_
              rintro e w2 ⟨rfl, hb2⟩
              have Hb2 := Lib.hid (hbq.trans (hb2.mono hsq))
              clear hb2
              go_wp2_with fail
              go_roundw
              case rel => exact ⟨j + 1, _, by omega, by go_num, rfl, Hnx.out, Hb2.out⟩
              case measure => simp [intOf]; omega
            · have hj00 : (0 : Int) < j := by omega
              have hj01 : decide ((j : Int) > 0) = true := by rw [decide_eq_true_iff]; omega
              have Hnx : Hid ((s ++ ⟨#[43]⟩ ++ ⟨#[dgt x]⟩).data.toList = T0 ++ jn 43 (dg l) (j + 1)) := Lib.hid (by rw [ba_app, ba_app, hst, jn, if_neg hj0, hgt, List.append_assoc, List.append_assoc, List.append_assoc])
              clear hst hxe hgt hle hss HX hj0
              go_wp2_with fail
              refine (l1Num_any x _ HX2.out.1 HX2.out.2).mono ?_
              rintro e w2 ⟨rfl, hb2⟩
              have Hb2 := Lib.hid (hbq.trans (hb2.mono hsq))
              clear hb2
              go_wp2_with fail
              go_roundw
              case rel => exact ⟨j + 1, _, by omega, by go_num, rfl, Hnx.out, Hb2.out⟩
              case measure => simp [intOf]; omega
          · have hjm : m = j := by omega
            have Hnx : Hid (s.data.toList = jn 47 (rs8 L) (k + 1)) := Lib.hid (by rw [hst, ← hjm, Hm.out, wT_jn]; exact HNX.out)
            have Hb3 := Lib.hid (hbel.trans (hbq.mono hsz))
            have hjl : ¬ (j : Int) < m := by omega
            clear hst
            go_wp2_with fail
            go_roundw
            case rel => exact ⟨k + 1, _, by omega, by go_num, rfl, Hnx.out, Hb3.out⟩
            case measure => simp [intOf]; omega
      · have hk00 : (0 : Int) < k := by omega
        have hkN : 0 < k := by omega
        have hkD : decide (0 < k) = true := by rw [decide_eq_true_iff]; exact hkN
        have hk01 : decide ((k : Int) > 0) = true := by rw [decide_eq_true_iff]; omega
        obtain ⟨T0, hT0⟩ : ∃ T0, jn 47 (rs8 L) k ++ [47] = T0 := ⟨_, rfl⟩
        have HNX : Hid (T0 ++ wT l = jn 47 (rs8 L) (k + 1)) := Lib.hid (by rw [hnx1 hk0, hT0])
        have HT0 : Hid ((s0 ++ ⟨#[47]⟩).data.toList = T0) := Lib.hid (by rw [ba_app, hst, ← hT0])
        have HT1 : Hid (T0.length ≤ 253) := Lib.hid (by rw [← hT0, List.length_append, ← hst, ← ba_size]; simp; omega)
        clear hst hT0 hnx0 hnx1 hl hm hA hnum hgl hj47 hcell Hx0 hkL hk0
        go_wp2_with fail
        go_loopw [3, 21] (fun v i wq => ∃ (j : Nat) (s : ByteArray), j ≤ m ∧ i = .int .i64 j ∧ v = .string s ∧ s.data.toList = T0 ++ jn 43 (dg l) j ∧ Below wr.heap.size wr wq) (fun _ i _ => m - (intOf i).toNat)
        case atStart => exact ⟨0, _, Nat.zero_le _, rfl, rfl, by rw [show jn 43 (dg l) 0 = [] from rfl, List.append_nil]; exact HT0.out, Below.refl _ _⟩
        case round =>
          obtain ⟨j, s, hj, rfl, rfl, hst, hbq⟩ := hrel
          by_cases hlt2 : j < m
          · have hz := cell_old hbq (Hnum.out j hlt2)
            have HX := Hx.out j hlt2
            have hgt := dg_get l j (by rw [← Hm.out]; exact hlt2)
            have hle := jn_le 43 (dg_le l) j
            have hss : s.size ≤ 300 := by rw [ba_size, hst, List.length_append]; have := HT1.out; omega
            obtain ⟨x, hxe⟩ : ∃ x, na l j = x := ⟨_, rfl⟩
            rw [hxe] at hz HX hgt
            have HX2 := Lib.hid HX
            have hsq := hbq.size
            have hj1 : (0 : Int) ≤ j := by omega
            have hj2 : (j : Int) < m := by omega
            have q1 : ¬ 9223372036854775807 < s.size + 1 := by omega
            have q2 : ¬ 9223372036854775807 < s.size + 2 := by omega
            have q3 : ¬ 9223372036854775807 < s.size + 1 + 1 := by omega
            by_cases hj0 : j = 0
            · have hj00 : ¬ (0 : Int) < j := by omega
              have hj01 : decide ((j : Int) > 0) = false := by rw [decide_eq_false_iff_not]; omega
              have Hnx : Hid ((s ++ ⟨#[dgt x]⟩).data.toList = T0 ++ jn 43 (dg l) (j + 1)) := Lib.hid (by rw [ba_app, hst, jn, if_pos hj0, hgt, List.append_assoc])
              clear hst hxe hgt hle hss HX hj0
              go_wp2_with fail
              refine (l1Num_any x _ HX2.out.1 HX2.out.2).mono ?_
              rintro e w2 ⟨rfl, hb2⟩
              have Hb2 := Lib.hid (hbq.trans (hb2.mono hsq))
              clear hb2
              go_wp2_with fail
              go_roundw
              case rel => exact ⟨j + 1, _, by omega, by go_num, rfl, Hnx.out, Hb2.out⟩
              case measure => simp [intOf]; omega
            · have hj00 : (0 : Int) < j := by omega
              have hj01 : decide ((j : Int) > 0) = true := by rw [decide_eq_true_iff]; omega
              have Hnx : Hid ((s ++ ⟨#[43]⟩ ++ ⟨#[dgt x]⟩).data.toList = T0 ++ jn 43 (dg l) (j + 1)) := Lib.hid (by rw [ba_app, ba_app, hst, jn, if_neg hj0, hgt, List.append_assoc, List.append_assoc, List.append_assoc])
              clear hst hxe hgt hle hss HX hj0
              go_wp2_with fail
              refine (l1Num_any x _ HX2.out.1 HX2.out.2).mono ?_
              rintro e w2 ⟨rfl, hb2⟩
              have Hb2 := Lib.hid (hbq.trans (hb2.mono hsq))
              clear hb2
              go_wp2_with fail
              go_roundw
              case rel => exact ⟨j + 1, _, by omega, by go_num, rfl, Hnx.out, Hb2.out⟩
              case measure => simp [intOf]; omega
          · have hjm : m = j := by omega
            have Hnx : Hid (s.data.toList = jn 47 (rs8 L) (k + 1)) := Lib.hid (by rw [hst, ← hjm, Hm.out, wT_jn]; exact HNX.out)
            have Hb3 := Lib.hid (hbel.trans (hbq.mono hsz))
            have hjl : ¬ (j : Int) < m := by omega
            clear hst
            go_wp2_with fail
            go_roundw
            case rel => exact ⟨k + 1, _, by omega, by go_num, rfl, Hnx.out, Hb3.out⟩
            case measure => simp [intOf]; omega
    · have hkn : n = k := by omega
      have hkl : ¬ (k : Int) < n := by omega
      have Hst : Hid (s0 = tT L) := Lib.hid (by
        apply ByteArray.ext
        apply Array.toList_inj.1
        rw [hst, ← hkn, Hn.out]
        show jn 47 (rs8 L) L.length = Lib.join (rs8 L) [47]
        rw [← jn_all, rs8_len])
      clear hst
      go_wp2_with fail
      go_ret
      exact ⟨by rw [Hst.out]; rfl, hbel⟩

set_option maxRecDepth 20000 in
theorem specTt_any (w : World) (ao : Option Addr) (cap : Nat) (L : List (List Int)) (n : Nat) (Hn : Hid (n = L.length)) (hn : n ≤ 1048576) (hL : Hid (∀ i, (row L i).length ≤ 1048576)) (Hc : RowsAt w ao L) :
    Calls Tryd.prog 9 #[.slice ao n cap] w fun e w' => e = .returned (.tuple #[.string (tsR L), .bool (tsB L)]) ∧ Below w.heap.size w w' := by
  have HC := Lib.hid Hc
  clear Hc
  cases hw : wiB 10 L
  · have hR : tsR L = ⟨#[]⟩ := by simp [tsR, hw]
    have hB : tsB L = false := hw
    rw [hR, hB]
    have Hw := Lib.hid hw
    clear hR hB hw
    go_enter Tryd.func9, Tryd.ntmps9
    go_wp2_with fail
    refine (wiGood_any 10 ao cap L n w Hn hn hL HC).mono ?_
    rintro e w' ⟨rfl, rfl⟩
    rw [Hw.out]
    go_wp2_with fail
    go_ret2
    exact ⟨rfl, Below.refl _ _⟩
  · have hR : tsR L = tT L := by simp [tsR, hw]
    have hB : tsB L = true := hw
    rw [hR, hB]
    have Hw := Lib.hid hw
    clear hR hB hw
    go_enter Tryd.func9, Tryd.ntmps9
    go_wp2_with fail
    refine (wiGood_any 10 ao cap L n w Hn hn hL HC).mono ?_
    rintro e w' ⟨rfl, rfl⟩
    rw [Hw.out]
    go_wp2_with fail
    refine (wiText_any w ao cap L n Hn Hw HC).mono ?_
    rintro e w2 ⟨rfl, hb2⟩
    have Hb2 := Lib.hid hb2
    clear hb2
    go_wp2_with fail
    go_ret2
    exact ⟨rfl, Hb2.out⟩

end Go.Proofs.YtnhkabhchepieaaDoor
