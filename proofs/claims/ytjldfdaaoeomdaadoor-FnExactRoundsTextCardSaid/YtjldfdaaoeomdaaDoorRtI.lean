/- The text of rounds: the program. -/
import Derived.Test.YtjldfdaaoeomdaaDoorRtS
namespace Go.Proofs.YtjldfdaaoeomdaaDoor
open Go.ChangeShapes Go.WideShapes Go.ChangeAt Go.RowKit
set_option linter.unusedVariables false


theorem rmaps (L : List (List (Int × Int))) : (L.map cTxt).map (·.data.toList) = L.map rq := by
  rw [List.map_map]; apply List.map_congr_left; intro p _; rfl
/-- The texts of the first rounds; the rest is empty. -/
def rstp (L : List (List (Int × Int))) (k : Nat) : List Value := ((L.take k).map fun l => Value.string (cTxt l)) ++ List.replicate (L.length - k) (.string ⟨#[]⟩)
theorem rstp_zero (L : List (List (Int × Int))) : rstp L 0 = List.replicate L.length (.string ⟨#[]⟩) := by simp [rstp]
theorem rstp_all (L : List (List (Int × Int))) : rstp L L.length = L.map fun l => Value.string (cTxt l) := by simp [rstp]
theorem rstp_set (L : List (List (Int × Int))) (n k : Nat) (hn : n = L.length) (h : k < n) : (rstp L k).set k (.string (cTxt (crow L k))) = rstp L (k + 1) := by
  subst hn
  unfold rstp
  rw [List.set_append_right _ _ (by simp; omega)]
  have e1 : ((L.take k).map fun l => Value.string (cTxt l)).length = k := by simp; omega
  rw [e1, Nat.sub_self, show L.length - k = (L.length - (k + 1)) + 1 by omega, List.replicate_succ, List.set_cons_zero, List.take_succ_eq_append_getElem h, List.map_append, crow_get h]
  simp

set_option maxRecDepth 20000 in
theorem implRT_pos (w : World) (ao : Option Addr) (cap : Nat) (L : List (List (Int × Int))) (n : Nat) (Hn : Hid (n = L.length)) (hn0 : 0 < n) (hn20 : n ≤ 20) (Hg : Hid (rndsB 10 L = true)) (HL : Hid (∀ i, (crow L i).length ≤ 9223372036854775807)) (HA : Hid (RowsAt w ao L)) :
    Calls Tryd.prog 8 #[.slice ao n cap] w fun e w' => e = .returned (.tuple #[.string ⟨(Lib.join (L.map rq) [47]).toArray⟩, .bool true]) ∧ Below w.heap.size w w' := by
  obtain ⟨i0, hi, hz0, hz1, hz2⟩ := info_parts info9
  have Hz := Lib.hid (And.intro hz0 (And.intro hz1 hz2))
  clear hz0 hz1 hz2
  have Hsh := Lib.hid (rnds_short Hg.out)
  have hne : ((n : Int) == 0) = false := by rw [beq_eq_false_iff_ne]; omega
  go_enter Tryd.func8, Tryd.ntmps8
  go_wp2_with fail
  refine (areRounds_any 10 ao cap L n w Hn (by omega) HL HA).mono ?_
  rintro e w1 ⟨rfl, hb1⟩
  rw [Hg.out]
  have hs1 := hb1.size
  go_wp2_with (refine wpList_make_full _ rfl _ _ 40 rfl w.heap.size 9 i0 (.string ⟨#[]⟩) 1 Tryd.underlying40 hi Hz.out.1 Hz.out.2.1 .i64 .i64 _ _ n rfl rfl rfl rfl ?_ ?_ ?_ ?_)
  · rw [Hz.out.2.2]; omega
  · unfold maxLen; omega
  · exact hs1
  intro w2 hown hgr
  have hown2 : w2.ownsRow w.heap.size 9 1 (.slice (some ⟨w1.heap.size, 0, none⟩) n n) n (List.replicate n (.string ⟨#[]⟩)) := by rw [← zero_strings]; simpa using hown
  have Hown0 := Lib.hid hown2
  have Hb2 := Lib.hid (hb1.grown hgr hs1 (fun _ h => by cases h))
  obtain ⟨g, hg⟩ : ∃ g, g = w1.heap.size := ⟨_, rfl⟩
  rw [← hg] at hs1 Hown0 ⊢
  clear hown hown2 hgr hb1 hg
  go_wp2_with fail
  go_loopw [18] (fun i wr => ∃ k : Nat, k ≤ n ∧ i = .int .i64 k ∧ wr.ownsRow w.heap.size 9 1 (.slice (some ⟨g, 0, none⟩) n n) n (rstp L k) ∧ Below w.heap.size w wr) (fun i _ => n - (intOf i).toNat)
  case atStart => exact ⟨0, Nat.zero_le _, rfl, by rw [rstp_zero, ← Hn.out]; exact Hown0.out, Hb2.out⟩
  case round =>
    obtain ⟨k, hk, rfl, hor, hbel⟩ := hrel
    by_cases hlt : k < n
    · rcases HA.out with h | ⟨b0, off0, A, C, rfl, hc, hcap⟩
      · exact absurd hlt (by rw [Hn.out, h]; simp)
      have hkl : k < L.length := by rw [← Hn.out]; exact hlt
      have h0 := ((hc.kept hbel) k hkl).1
      have HAk := Lib.hid ((hc.kept hbel) k hkl).2
      have hs := hbel.size
      have hk0 : (0 : Int) ≤ k := by omega
      have hk2 : (k : Int) < n := by omega
      have Hcall := Lib.hid (callsText_good wr (A k) (C k) (crow L k) _ rfl (rnds_good Hg.out k hkl) HAk.out)
      have Hor := Lib.hid hor
      clear hc hcap hor
      go_wp2_with fail
      refine Hcall.out.mono ?_
      rintro e w3 ⟨rfl, hb2⟩
      have hb3 : Below w.heap.size w w3 := hbel.trans (hb2.mono hs)
      have hor2 := own_later Hor.out hb2
      obtain ⟨u0, z0⟩ := own_some hor2 k (by rw [Nat.mul_one]; exact hlt)
      have zf0 := hor2.frozenAt k
      have hst := (hor2.stored k (.string (cTxt (crow L k)))).1
      rw [rstp_set L n k Hn.out hlt] at hst
      have Hst := Lib.hid hst
      clear hb2 hbel h0 hst hor2
      go_wp2_with fail
      go_roundw
      case rel => exact ⟨k + 1, by omega, by go_num, Hst.out, hb3.setCell hs1 _⟩
      case measure => simp [intOf]; omega
    · obtain rfl : k = n := by omega
      have e : rstp L k = L.map fun l => Value.string (cTxt l) := by rw [Hn.out, rstp_all]
      rw [e] at hor
      have hcells : Hid (∀ (j : Nat) x, (L.map cTxt)[j]? = some x → wr.cell? ⟨g, 0 + j, none⟩ = some (.string x)) := fun j x hx => by
        have hx2 : (L.map fun l => Value.string (cTxt l))[j]? = some (.string x) := by
          simp only [List.getElem?_map, Option.map_eq_some_iff] at hx ⊢
          obtain ⟨p, h1, h2⟩ := hx
          exact ⟨p, h1, by rw [h2]⟩
        have hj : j < (L.map fun l => Value.string (cTxt l)).length := (List.getElem?_eq_some_iff.1 hx2).1
        have h3 := own_cells' hor j (by simpa [← Hn.out] using hj)
        rw [hx2] at h3
        rw [Nat.zero_add]
        exact h3
      have hgs := (hor.lt g rfl).2
      have hml : (L.map cTxt).length = k := by simp [← Hn.out]
      have hjl : Hid ((Lib.join ((L.map cTxt).map (·.data.toList)) [47]).length ≤ 140737488355328) := by
        show _ ≤ _
        rw [rmaps]
        have h1 := rTx_join L L.length (Nat.le_refl _)
        rw [List.take_of_length_le (Nat.le_refl _)] at h1
        rw [← h1]
        have h2 := rTx_le Hsh.out L.length
        have := Hn.out
        omega
      have HJ := Lib.hid (join_any g 0 k (L.map cTxt) ⟨#[47]⟩ wr hcells.out hgs (by rw [hml]; omega) (by rw [hml]; exact Nat.le_refl _) hjl.out)
      rw [hml, rmaps] at HJ
      clear hor hcells hjl hml e hlt hk
      go_wp2_with fail
      refine HJ.out.mono ?_
      rintro e w3 ⟨rfl, hb3⟩
      go_wp2_with fail
      go_ret2
      exact ⟨rfl, hbel.trans (hb3.mono hbel.size)⟩

theorem implRT_any (w : World) (ao : Option Addr) (cap : Nat) (L : List (List (Int × Int))) (n : Nat) (Hn : Hid (n = L.length)) (hm : n ≤ 9223372036854775807) (HL : Hid (∀ i, (crow L i).length ≤ 9223372036854775807)) (HA : Hid (RowsAt w ao L)) :
    Calls Tryd.prog 8 #[.slice ao n cap] w fun e w' => e = .returned (.tuple #[.string (rText L), .bool (rndsB 10 L)]) ∧ Below w.heap.size w w' := by
  cases hg : rndsB 10 L
  · have Hg := Lib.hid hg
    have e : rText L = ⟨#[]⟩ := by simp [rText, hg]
    rw [e]
    clear hg e
    go_enter Tryd.func8, Tryd.ntmps8
    go_wp2_with fail
    refine (areRounds_any 10 ao cap L n w Hn hm HL HA).mono ?_
    rintro e w1 ⟨rfl, hb⟩
    rw [Hg.out]
    go_wp2_with fail
    go_ret2
    exact ⟨rfl, hb⟩
  · have e : rText L = rTxt L := by simp [rText, hg]
    have hn20 : n ≤ 20 := by have := rnds_len20 hg; rw [← Hn.out] at this; exact this
    rw [e]
    by_cases h0 : n = 0
    · have e2 : rTxt L = ⟨#[46]⟩ := by unfold rTxt; rw [if_pos (by rw [← Hn.out]; exact h0)]
      have Hg := Lib.hid hg
      rw [e2]
      subst h0
      clear hg e e2
      go_enter Tryd.func8, Tryd.ntmps8
      go_wp2_with fail
      refine (areRounds_any 10 ao cap L 0 w Hn hm HL HA).mono ?_
      rintro e w1 ⟨rfl, hb⟩
      rw [Hg.out]
      go_wp2_with fail
      go_ret2
      exact ⟨rfl, hb⟩
    · have e2 : rTxt L = ⟨(Lib.join (L.map rq) [47]).toArray⟩ := by unfold rTxt; rw [if_neg (by rw [← Hn.out]; exact h0)]
      rw [e2]
      exact implRT_pos w ao cap L n Hn (by omega) hn20 hg HL HA

end Go.Proofs.YtjldfdaaoeomdaaDoor
