/- The text of tests: the program. -/
import Derived.Test.YtejmlhhblckddaaDoorTx
import Derived.Test.YtejmlhhblckddaaDoorShelf
import Derived.Laws.OwnMore
namespace Go.Proofs.YtejmlhhblckddaaDoor
open Go.ChangeShapes Go.WideShapes Go.ChangeAt Go.RowKit
set_option linter.unusedVariables false


theorem info9 : (Tryd.prog.info? 9).map (fun i => (i.zero, i.size, i.bytes)) = some (some (.string ⟨#[]⟩), 1, 16) := by kernel_rfl
/-- The first texts; the rest is empty. -/
def stp (P : List (List UInt8)) (k : Nat) : List Value := ((P.take k).map fun p => Value.string ⟨p.toArray⟩) ++ List.replicate (P.length - k) (.string ⟨#[]⟩)
theorem stp_zero (P : List (List UInt8)) : stp P 0 = List.replicate P.length (.string ⟨#[]⟩) := by simp [stp]
theorem stp_all (P : List (List UInt8)) : stp P P.length = P.map fun p => Value.string ⟨p.toArray⟩ := by simp [stp]
theorem stp_set (P : List (List UInt8)) (k : Nat) (h : k < P.length) : (stp P k).set k (.string ⟨(P.getD k []).toArray⟩) = stp P (k + 1) := by
  unfold stp
  rw [List.set_append_right _ _ (by simp; omega)]
  have e1 : ((P.take k).map fun p => Value.string ⟨p.toArray⟩).length = k := by simp; omega
  have e2 : P.getD k [] = P[k] := by rw [List.getD_eq_getElem?_getD, List.getElem?_eq_getElem h]; rfl
  rw [e1, e2, Nat.sub_self, show P.length - k = (P.length - (k + 1)) + 1 by omega, List.replicate_succ, List.set_cons_zero, List.take_succ_eq_append_getElem h, List.map_append]
  simp
theorem zero_strings (n : Nat) : (madeCells #[.string ⟨#[]⟩] n).toList = List.replicate n (.string ⟨#[]⟩) := by rw [toList_madeCells_one]
theorem dig1 (x : Int) (h0 : 0 ≤ x) (h1 : x < 10) : Lib.decDigits x.toNat = [dgt x] := by rw [Lib.decDigits_one (by omega)]; rfl
theorem itoa_dgt (x : Int) (w : World) (h0 : 0 ≤ x) (h1 : x < 10) : Calls Tryd.prog 19 #[.int .i64 x] w fun e w' => e = .returned (.string ⟨#[dgt x]⟩) ∧ w' = w := by
  have h := itoa_small x.toNat (by omega) w
  rw [dig1 x h0 h1, Int.toNat_of_nonneg h0] at h
  exact h
theorem join_row (w : World) (base g n : Nat) (P : List (List UInt8)) (sep : UInt8) (hn : n = P.length) (hn2 : n ≤ 1000) (ho : w.ownsRow base 9 1 (.slice (some ⟨g, 0, none⟩) n n) n (stp P n)) (hl : (Lib.join P [sep]).length ≤ 100000) :
    Calls Tryd.prog 20 #[.slice (some ⟨g, 0, none⟩) n n, .string ⟨#[sep]⟩] w fun e w' => e = .returned (.string ⟨(Lib.join P [sep]).toArray⟩) ∧ Below w.heap.size w w' := by
  subst hn
  have hm : (P.map fun p => (⟨p.toArray⟩ : ByteArray)).map (·.data.toList) = P := by
    rw [List.map_map]
    have : ((fun s : ByteArray => s.data.toList) ∘ fun p : List UInt8 => (⟨p.toArray⟩ : ByteArray)) = id := by funext p; rfl
    rw [this, List.map_id]
  have hml : (P.map fun p => (⟨p.toArray⟩ : ByteArray)).length = P.length := by simp
  rw [stp_all] at ho
  have hcells : ∀ (j : Nat) x, (P.map fun p => (⟨p.toArray⟩ : ByteArray))[j]? = some x → w.cell? ⟨g, 0 + j, none⟩ = some (.string x) := fun j x hx => by
    have hx2 : (P.map fun p => Value.string ⟨p.toArray⟩)[j]? = some (.string x) := by
      simp only [List.getElem?_map, Option.map_eq_some_iff] at hx ⊢
      obtain ⟨p, h1, h2⟩ := hx
      exact ⟨p, h1, by rw [h2]⟩
    have hj : j < (P.map fun p => Value.string ⟨p.toArray⟩).length := (List.getElem?_eq_some_iff.1 hx2).1
    have h3 := ho.cellAt j (by simpa using hj)
    rw [hx2] at h3
    rw [Nat.zero_add]
    exact h3
  have hJ := join_any g 0 P.length (P.map fun p => (⟨p.toArray⟩ : ByteArray)) ⟨#[sep]⟩ w hcells (ho.lt g rfl).2 (by rw [hml]; omega) (by rw [hml]; exact Nat.le_refl _) (by rw [hm]; show (Lib.join P [sep]).length ≤ _; omega)
  rw [hml, hm] at hJ
  exact hJ

set_option maxHeartbeats 1600000 in
set_option maxRecDepth 20000 in
theorem implTt_any (w : World) (ao : Option Addr) (cap : Nat) (L : List (List Int)) (n : Nat) (Hn : Hid (n = L.length)) (hn : n ≤ 1048576) (hL : Hid (∀ i, (row L i).length ≤ 1048576)) (Hc : RowsAt w ao L) :
    Calls Tryd.prog 8 #[.slice ao n cap] w fun e w' => e = .returned (.tuple #[.string (tsR L), .bool (tsB L)]) ∧ Below w.heap.size w w' := by
  obtain ⟨i0, hi, hz0, hz1, hz2⟩ := info_parts info9
  have Hz := Lib.hid (And.intro hz0 (And.intro hz1 hz2))
  clear hz0 hz1 hz2
  have HC := Lib.hid Hc
  clear Hc
  cases hw : wiB 10 L
  · have hR : tsR L = ⟨#[]⟩ := by simp [tsR, hw]
    have hB : tsB L = false := hw
    rw [hR, hB]
    have Hw := Lib.hid hw
    clear hR hB hw
    go_enter Tryd.func8, Tryd.ntmps8
    go_wp2_with fail
    refine (areTests_any 10 ao cap L n w Hn hn hL HC).mono ?_
    rintro e w' ⟨rfl, rfl⟩
    rw [Hw.out]
    go_wp2_with fail
    go_ret2
    exact ⟨rfl, Below.refl _ _⟩
  · have hR : tsR L = tT L := by simp [tsR, hw]
    have hB : tsB L = true := hw
    have hn12 : n ≤ 12 := by have := (wi_parts hw).2.1; have := Hn.out; omega
    rw [hR, hB]
    have Hg := Lib.hid hw
    clear hR hB hw
    go_enter Tryd.func8, Tryd.ntmps8
    go_wp2_with fail
    refine (areTests_any 10 ao cap L n w Hn hn hL HC).mono ?_
    rintro e w' ⟨rfl, rfl⟩
    rw [Hg.out]
    go_wp2_with (refine wpList_make_full _ rfl _ _ 37 rfl w.heap.size 9 i0 (.string ⟨#[]⟩) 1 Tryd.underlying37 hi Hz.out.1 Hz.out.2.1 .i64 .i64 _ _ n rfl rfl rfl rfl ?_ ?_ ?_ ?_)
    · rw [Hz.out.2.2]; omega
    · unfold maxLen; omega
    · exact Nat.le_refl _
    intro w2 hown hgr
    have hown2 : w2.ownsRow w.heap.size 9 1 (.slice (some ⟨w.heap.size, 0, none⟩) n n) n (List.replicate n (.string ⟨#[]⟩)) := by rw [← zero_strings]; simpa using hown
    rw [show List.replicate n (.string ⟨#[]⟩ : Value) = stp (rs8 L) 0 by rw [stp_zero, rs8_len, ← Hn.out]] at hown2
    have Hown0 := Lib.hid hown2
    have Hb2 := Lib.hid ((Below.refl w.heap.size w).grown hgr (Nat.le_refl _) (fun _ h => by cases h))
    obtain ⟨g, hg⟩ : ∃ g, g = w.heap.size := ⟨_, rfl⟩
    have hgw : w.heap.size ≤ g := by omega
    have Hge := Lib.hid hg
    rw [← hg] at Hown0 ⊢
    clear hown hown2 hgr hg
    go_wp2_with fail
    go_loopw [18] (fun i wr => ∃ k : Nat, k ≤ n ∧ i = .int .i64 k ∧ wr.ownsRow g 9 1 (.slice (some ⟨g, 0, none⟩) n n) n (stp (rs8 L) k) ∧ Below w.heap.size w wr) (fun i _ => n - (intOf i).toNat)
    case atStart => exact ⟨0, Nat.zero_le _, rfl, Hown0.out, Hb2.out⟩
    case round =>
      obtain ⟨k, hk, rfl, hor, hbel⟩ := hrel
      by_cases hlt : k < n
      · have hsz := hbel.size
        have hkL : k < L.length := by rw [← Hn.out]; exact hlt
        have hr := (wi_row Hg.out hkL).2
        have Hx0 : Hid (∀ j, j < (row L k).length → 0 ≤ na (row L k) j ∧ na (row L k) j < 10) := fun j hj => wi_at Hg.out (by omega) hkL hj
        have hgl := rs8_get L k hkL
        have hss := stp_set (rs8 L) k (by rw [rs8_len]; exact hkL)
        rw [hgl] at hss
        have hwl := wT_le (row L k)
        rcases (HC.out.kept hbel) with h0 | ⟨b, off, A, C, rfl, hcell, _⟩
        · exfalso; rw [h0] at hkL; simp at hkL
        obtain ⟨hc1, hc2⟩ := hcell k hkL
        obtain ⟨l, hl⟩ : ∃ l, row L k = l := ⟨_, rfl⟩
        rw [hl] at hc1 hc2 hr Hx0 hss hwl
        obtain ⟨m, hm⟩ : ∃ m, l.length = m := ⟨_, rfl⟩
        rw [hm] at hc1 hr Hx0 hwl
        have Hm := Lib.hid hm.symm
        rcases hc2 with h0 | ⟨b1, off1, hA, hnum⟩
        · exfalso; rw [h0] at hm; simp at hm; omega
        rw [hA] at hc1
        rw [hm] at hnum
        have Hnum := Lib.hid hnum
        have Hss := Lib.hid hss
        have Hor := Lib.hid hor
        have Hbel := Lib.hid hbel
        have hm10 : m ≤ 10 := hr.2
        have hk1 : (0 : Int) ≤ k := by omega
        have hk2 : (k : Int) < n := by omega
        clear hgl hss hl hm hA hnum hcell hkL hr hor hbel
        go_wp2_with (refine wpList_make_full _ rfl _ _ 37 rfl wr.heap.size 9 i0 (.string ⟨#[]⟩) 1 Tryd.underlying37 hi Hz.out.1 Hz.out.2.1 .i64 .i64 _ _ m rfl rfl rfl rfl ?_ ?_ ?_ ?_)
        · rw [Hz.out.2.2]; omega
        · unfold maxLen; omega
        · exact Nat.le_refl _
        intro w3 hown hgr
        have hown3 : w3.ownsRow wr.heap.size 9 1 (.slice (some ⟨wr.heap.size, 0, none⟩) m m) m (List.replicate m (.string ⟨#[]⟩)) := by rw [← zero_strings]; simpa using hown
        rw [show List.replicate m (.string ⟨#[]⟩ : Value) = stp (dg l) 0 by rw [stp_zero, dg_len, ← Hm.out]] at hown3
        have Hown3 := Lib.hid hown3
        have Hb3 := Lib.hid ((Below.refl wr.heap.size wr).grown hgr (Nat.le_refl _) (fun _ h => by cases h))
        obtain ⟨g2, hg2⟩ : ∃ g2, g2 = wr.heap.size := ⟨_, rfl⟩
        have Hg2 := Lib.hid hg2
        rw [← hg2] at Hown3 ⊢
        clear hown hown3 hgr hg2
        go_wp2_with fail
        go_loopw [28] (fun i wq => ∃ j : Nat, j ≤ m ∧ i = .int .i64 j ∧ wq.ownsRow g2 9 1 (.slice (some ⟨g2, 0, none⟩) m m) m (stp (dg l) j) ∧ Below wr.heap.size wr wq) (fun i _ => m - (intOf i).toNat)
        case atStart => exact ⟨0, Nat.zero_le _, rfl, Hown3.out, Hb3.out⟩
        case round =>
          obtain ⟨j, hj, rfl, hor, hbq⟩ := hrel
          by_cases hlt2 : j < m
          · have hz := cell_old hbq (Hnum.out j hlt2)
            have HX := Hx0.out j hlt2
            have hgt := dg_get l j (by rw [← Hm.out]; exact hlt2)
            have hst0 := stp_set (dg l) j (by rw [dg_len, ← Hm.out]; exact hlt2)
            rw [hgt] at hst0
            obtain ⟨x, hxe⟩ : ∃ x, na l j = x := ⟨_, rfl⟩
            rw [hxe] at hz HX hst0
            have HX2 := Lib.hid HX
            have hj1 : (0 : Int) ≤ j := by omega
            have hj2 : (j : Int) < m := by omega
            obtain ⟨u0, z0⟩ := own_some hor j (by omega)
            have zf0 := hor.frozenAt j
            have hst := (hor.stored j (.string ⟨#[dgt x]⟩)).1
            rw [show (.string ⟨#[dgt x]⟩ : Value) = .string ⟨[dgt x].toArray⟩ from rfl, hst0] at hst
            have Hst := Lib.hid hst
            have Hbs := Lib.hid (hbq.setCell (p := ⟨g2, j, none⟩) (by show _ ≤ g2; rw [Hg2.out]; exact Nat.le_refl _) (.string ⟨#[dgt x]⟩))
            clear hxe hgt HX hst hst0 hor hbq
            go_wp2_with fail
            refine (itoa_dgt x _ HX2.out.1 HX2.out.2).mono ?_
            rintro e w5 ⟨rfl, rfl⟩
            go_wp2_with fail
            go_roundw
            case rel => exact ⟨j + 1, by omega, by go_num, Hst.out, Hbs.out⟩
            case measure => simp [intOf]; omega
          · have hjm : m = j := by omega
            subst hjm
            have hjl : ¬ (m : Int) < m := by omega
            have HJ := Lib.hid (join_row _ g2 g2 m (dg l) 43 (by rw [dg_len]; exact Hm.out) (by omega) hor (by show (wT l).length ≤ _; omega))
            have hbs := hbq.size
            have Hbq := Lib.hid hbq
            clear hor hbq
            go_wp2_with fail
            refine HJ.out.mono ?_
            rintro e w6 ⟨rfl, hb6⟩
            have hb7 := Hbq.out.trans (hb6.mono hbs)
            have hor7 := own_later Hor.out hb7
            have hbel7 := Hbel.out.trans (hb7.mono hsz)
            obtain ⟨u0, z0⟩ := own_some hor7 k (by omega)
            have zf0 := hor7.frozenAt k
            have hst := (hor7.stored k (.string ⟨(wT l).toArray⟩)).1
            rw [Hss.out] at hst
            have Hst := Lib.hid hst
            have Hbs := Lib.hid (hbel7.setCell (p := ⟨g, k, none⟩) hgw (.string ⟨(wT l).toArray⟩))
            clear hst hor7 hbel7 hb7 hb6
            go_wp2_with fail
            go_roundw
            case rel => exact ⟨k + 1, by omega, by go_num, Hst.out, Hbs.out⟩
            case measure => simp [intOf]; omega
      · have hkn : n = k := by omega
        subst hkn
        have hkl : ¬ (n : Int) < n := by omega
        have hle : (Lib.join (rs8 L) [47]).length ≤ 100000 := by
          rw [← jn_all, rs8_len, ← Hn.out]
          have := jn_le 47 (rs8_le Hg.out) n
          omega
        have HJ := Lib.hid (join_row wr g g n (rs8 L) 47 (by rw [rs8_len]; exact Hn.out) (by omega) hor hle)
        have hbs := hbel.size
        have Hbq := Lib.hid hbel
        clear hor hbel hle
        go_wp2_with fail
        refine HJ.out.mono ?_
        rintro e w6 ⟨rfl, hb6⟩
        have Hb7 := Lib.hid (Hbq.out.trans (hb6.mono hbs))
        clear hb6
        go_wp2_with fail
        go_ret2
        exact ⟨rfl, Hb7.out⟩

end Go.Proofs.YtejmlhhblckddaaDoor
