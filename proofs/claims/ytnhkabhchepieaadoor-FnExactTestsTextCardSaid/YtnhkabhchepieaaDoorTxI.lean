/- The text of tests: the program. -/
import Derived.Test.YtnhkabhchepieaaDoorTx
namespace Go.Proofs.YtnhkabhchepieaaDoor
open Go.ChangeShapes Go.WideShapes Go.ChangeAt Go.RowKit
set_option linter.unusedVariables false

set_option maxHeartbeats 1600000 in
set_option maxRecDepth 20000 in
theorem implTt_any (w : World) (ao : Option Addr) (cap : Nat) (L : List (List Int)) (n : Nat) (Hn : Hid (n = L.length)) (hn : n ≤ 1048576) (hL : Hid (∀ i, (row L i).length ≤ 1048576)) (Hc : RowsAt w ao L) :
    Calls Tryd.prog 11 #[.slice ao n cap] w fun e w' => e = .returned (.tuple #[.string (tsR L), .bool (tsB L)]) ∧ Below w.heap.size w w' := by
  obtain ⟨i0, hi, hz0, hz1, hz2⟩ := info_parts info9
  have Hz := Lib.hid (And.intro hz0 (And.intro hz1 hz2))
  clear hz0 hz1 hz2
  have HC := Lib.hid Hc
  clear Hc
  cases hw : wiB 10 L
  · have hR : tsR L = ⟨#[]⟩ := by simp [tsR, hw]
    have hB : tsB L = false := hw
    rw [hR, hB]
    have Hw := Lib.hid hw
    clear hR hB hw
    go_enter Tryd.func11, Tryd.ntmps11
    go_wp2_with fail
    refine (areTests_any 10 ao cap L n w Hn hn hL HC).mono ?_
    rintro e w' ⟨rfl, rfl⟩
    rw [Hw.out]
    go_wp2_with fail
    go_ret2
    exact ⟨rfl, Below.refl _ _⟩
  · have hR : tsR L = tT L := by simp [tsR, hw]
    have hB : tsB L = true := hw
    have hn12 : n ≤ 12 := by have := (wi_parts hw).2.1; have := Hn.out; omega
    rw [hR, hB]
    have Hg := Lib.hid hw
    clear hR hB hw
    go_enter Tryd.func11, Tryd.ntmps11
    go_wp2_with fail
    refine (areTests_any 10 ao cap L n w Hn hn hL HC).mono ?_
    rintro e w' ⟨rfl, rfl⟩
    rw [Hg.out]
    go_wp2_with (refine wpList_make_full _ rfl _ _ 53 rfl w.heap.size 9 i0 (.string ⟨#[]⟩) 1 Tryd.underlying53 hi Hz.out.1 Hz.out.2.1 .i64 .i64 _ _ n rfl rfl rfl rfl ?_ ?_ ?_ ?_)
    · rw [Hz.out.2.2]; omega
    · unfold maxLen; omega
    · exact Nat.le_refl _
    intro w2 hown hgr
    have hown2 : w2.ownsRow w.heap.size 9 1 (.slice (some ⟨w.heap.size, 0, none⟩) n n) n (List.replicate n (.string ⟨#[]⟩)) := by rw [← zero_strings]; simpa using hown
    rw [show List.replicate n (.string ⟨#[]⟩ : Value) = stp (rs8 L) 0 by rw [stp_zero, rs8_len, ← Hn.out]] at hown2
    have Hown0 := Lib.hid hown2
    have Hb2 := Lib.hid ((Below.refl w.heap.size w).grown hgr (Nat.le_refl _) (fun _ h => by cases h))
    obtain ⟨g, hg⟩ : ∃ g, g = w.heap.size := ⟨_, rfl⟩
    have hgw : w.heap.size ≤ g := by omega
    have Hge := Lib.hid hg
    rw [← hg] at Hown0 ⊢
    clear hown hown2 hgr hg
    go_wp2_with fail
    go_loopw [15] (fun i wr => ∃ k : Nat, k ≤ n ∧ i = .int .i64 k ∧ wr.ownsRow g 9 1 (.slice (some ⟨g, 0, none⟩) n n) n (stp (rs8 L) k) ∧ Below w.heap.size w wr) (fun i _ => n - (intOf i).toNat)
    case atStart => exact ⟨0, Nat.zero_le _, rfl, Hown0.out, Hb2.out⟩
    case round =>
      obtain ⟨k, hk, rfl, hor, hbel⟩ := hrel
      by_cases hlt : k < n
      · have hsz := hbel.size
        have hkL : k < L.length := by rw [← Hn.out]; exact hlt
        have hr := (wi_row Hg.out hkL).2
        have Hx0 : Hid (∀ j, j < (row L k).length → 0 ≤ na (row L k) j ∧ na (row L k) j < 10) := fun j hj => wi_at Hg.out (by omega) hkL hj
        have hgl := rs8_get L k hkL
        have hss := stp_set (rs8 L) k (by rw [rs8_len]; exact hkL)
        rw [hgl] at hss
        have hwl := wT_le (row L k)
        rcases (HC.out.kept hbel) with h0 | ⟨b, off, A, C, rfl, hcell, _⟩
        · exfalso; rw [h0] at hkL; simp at hkL
        obtain ⟨hc1, hc2⟩ := hcell k hkL
        obtain ⟨l, hl⟩ : ∃ l, row L k = l := ⟨_, rfl⟩
        rw [hl] at hc1 hc2 hr Hx0 hss hwl
        obtain ⟨m, hm⟩ : ∃ m, l.length = m := ⟨_, rfl⟩
        rw [hm] at hc1 hr Hx0 hwl
        have Hm := Lib.hid hm.symm
        rcases hc2 with h0 | ⟨b1, off1, hA, hnum⟩
        · exfalso; rw [h0] at hm; simp at hm; omega
        rw [hA] at hc1
        rw [hm] at hnum
        have Hnum := Lib.hid hnum
        have Hss := Lib.hid hss
        have Hor := Lib.hid hor
        have Hbel := Lib.hid hbel
        have hm10 : m ≤ 10 := hr.2
        have hk1 : (0 : Int) ≤ k := by omega
        have hk2 : (k : Int) < n := by omega
        clear hgl hss hl hm hA hnum hcell hkL hr hor hbel
        have HNt := Lib.hid (nts_dg (l := l) (fun j hj => Hx0.out j (by rw [Hm.out]; exact hj)))
        have HJ := joinNumbers_any wr (some ⟨b1, off1, none⟩) (C k) l m 43 Hm (by omega) (.inr ⟨b1, off1, rfl, fun i hi => Hnum.out i (by rw [Hm.out]; exact hi)⟩) (Lib.hid (fun j hj => by have := Hx0.out j hj; omega))
        rw [HNt.out, show Lib.join (dg l) [43] = wT l from rfl] at HJ
        have HJ := Lib.hid HJ
        go_wp2_with fail
        refine HJ.out.mono ?_
        rintro e w6 ⟨rfl, hb6⟩
        have hb7 := hb6
        have hor7 := own_later Hor.out hb7
        have hbel7 := Hbel.out.trans (hb7.mono hsz)
        obtain ⟨u0, z0⟩ := own_some hor7 k (by omega)
        have zf0 := hor7.frozenAt k
        have hst := (hor7.stored k (.string ⟨(wT l).toArray⟩)).1
        rw [Hss.out] at hst
        have Hst := Lib.hid hst
        have Hbs := Lib.hid (hbel7.setCell (p := ⟨g, k, none⟩) hgw (.string ⟨(wT l).toArray⟩))
        clear hst hor7 hbel7 hb7
        go_wp2_with fail
        go_roundw
        case rel => exact ⟨k + 1, by omega, by go_num, Hst.out, Hbs.out⟩
        case measure => simp [intOf]; omega
      · have hkn : n = k := by omega
        subst hkn
        have hkl : ¬ (n : Int) < n := by omega
        have hle : (Lib.join (rs8 L) [47]).length ≤ 100000 := by
          rw [← jn_all, rs8_len, ← Hn.out]
          have := jn_le 47 (rs8_le Hg.out) n
          omega
        have HJ := Lib.hid (join_row wr g g n (rs8 L) 47 (by rw [rs8_len]; exact Hn.out) (by omega) hor hle)
        have hbs := hbel.size
        have Hbq := Lib.hid hbel
        clear hor hbel hle
        go_wp2_with fail
        refine HJ.out.mono ?_
        rintro e w6 ⟨rfl, hb6⟩
        have Hb7 := Lib.hid (Hbq.out.trans (hb6.mono hbs))
        clear hb6
        go_wp2_with fail
        go_ret2
        exact ⟨rfl, Hb7.out⟩

end Go.Proofs.YtnhkabhchepieaaDoor
