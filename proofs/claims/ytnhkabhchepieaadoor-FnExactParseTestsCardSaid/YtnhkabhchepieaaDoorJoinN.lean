/- joinNumbers: numbers with a sign between them, by the program. -/
import Derived.Test.YtnhkabhchepieaaDoorStr
namespace Go.Proofs.YtnhkabhchepieaaDoor
open Go.ChangeShapes Go.WideShapes Go.ChangeAt Go.RowKit
set_option linter.unusedVariables false


/-- Numbers as texts. -/
def nts (l : List Int) : List (List UInt8) := l.map nt
theorem nts_len (l : List Int) : (nts l).length = l.length := by simp [nts]
theorem nts_get (l : List Int) (j : Nat) (h : j < l.length) : (nts l).getD j [] = nt (na l j) := by
  simp [nts, na, List.getD_eq_getElem?_getD, h]
theorem nts_le (l : List Int) : ∀ p, p ∈ nts l → p.length ≤ 2 := by
  intro p hp
  simp only [nts, List.mem_map] at hp
  obtain ⟨x, _, rfl⟩ := hp
  exact nt_le x
theorem join_nts_le (sep : UInt8) (l : List Int) : (Lib.join (nts l) [sep]).length ≤ 3 * l.length := by
  rw [← jn_all, nts_len]
  exact jn_le sep (nts_le l) l.length
set_option maxHeartbeats 1600000 in
set_option maxRecDepth 20000 in
theorem joinNumbers_any (w : World) (ao : Option Addr) (cap : Nat) (l : List Int) (n : Nat) (sep : UInt8) (Hn : Hid (n = l.length)) (hn : n ≤ 1000) (Hc : NumsAt w ao l) (HX : Hid (∀ j, j < n → 0 ≤ na l j ∧ na l j < 100)) :
    Calls Tryd.prog 34 #[.slice ao n cap, .string ⟨#[sep]⟩] w fun e w' => e = .returned (.string ⟨(Lib.join (nts l) [sep]).toArray⟩) ∧ Below w.heap.size w w' := by
  obtain ⟨i0, hi, hz0, hz1, hz2⟩ := info_parts info9
  have Hz := Lib.hid (And.intro hz0 (And.intro hz1 hz2))
  have HC := Lib.hid Hc
  have HJ0 := Lib.hid (fun (wq : World) (hor : wq.ownsRow w.heap.size 9 1 (.slice (some ⟨w.heap.size, 0, none⟩) n n) n (stp (nts l) n)) => join_row wq w.heap.size w.heap.size n (nts l) sep (by rw [nts_len]; exact Hn.out) hn hor (by have := join_nts_le sep l; have := Hn.out; omega))
  clear hz0 hz1 hz2 Hc
  go_enter Tryd.func34, Tryd.ntmps34
  go_wp2_with (refine wpList_make_full _ rfl _ _ 53 rfl w.heap.size 9 i0 (.string ⟨#[]⟩) 1 Tryd.underlying53 hi Hz.out.1 Hz.out.2.1 .i64 .i64 _ _ n rfl rfl rfl rfl ?_ ?_ ?_ ?_)
  · rw [Hz.out.2.2]; omega
  · unfold maxLen; omega
  · exact Nat.le_refl _
  intro w2 hown hgr
  have hown2 : w2.ownsRow w.heap.size 9 1 (.slice (some ⟨w.heap.size, 0, none⟩) n n) n (List.replicate n (.string ⟨#[]⟩)) := by rw [← zero_strings]; simpa using hown
  rw [show List.replicate n (.string ⟨#[]⟩ : Value) = stp (nts l) 0 by rw [stp_zero, nts_len, ← Hn.out]] at hown2
  have Hown0 := Lib.hid hown2
  have Hb2 := Lib.hid ((Below.refl w.heap.size w).grown hgr (Nat.le_refl _) (fun _ h => by cases h))
  clear hown hown2 hgr
  go_wp2_with fail
  go_loopw [13] (fun i wr => ∃ k : Nat, k ≤ n ∧ i = .int .i64 k ∧ wr.ownsRow w.heap.size 9 1 (.slice (some ⟨w.heap.size, 0, none⟩) n n) n (stp (nts l) k) ∧ Below w.heap.size w wr) (fun i _ => n - (intOf i).toNat)
  case atStart => exact ⟨0, Nat.zero_le _, rfl, Hown0.out, Hb2.out⟩
  case round =>
    obtain ⟨j, hj, rfl, hor, hbq⟩ := hrel
    by_cases hlt : j < n
    · have hjl : j < l.length := by rw [← Hn.out]; exact hlt
      obtain ⟨b1, off1, rfl, hnum⟩ : ∃ b off, ao = some ⟨b, off, none⟩ ∧ ∀ i, i < l.length → w.cell? ⟨b, off + i, none⟩ = some (.int .i64 (na l i)) := by
        rcases HC.out with h0 | h0
        · exfalso; rw [h0] at hjl; simp at hjl
        · exact h0
      have hz := cell_old hbq (hnum j hjl)
      have HXj := Lib.hid (HX.out j hlt)
      have hst0 := stp_set (nts l) j (by rw [nts_len]; exact hjl)
      rw [nts_get l j hjl] at hst0
      obtain ⟨x, hxe⟩ : ∃ x, na l j = x := ⟨_, rfl⟩
      rw [hxe] at hz HXj hst0
      have hj1 : (0 : Int) ≤ j := by omega
      have hj2 : (j : Int) < n := by omega
      obtain ⟨u0, z0⟩ := own_some hor j (by omega)
      have zf0 := hor.frozenAt j
      have hst := (hor.stored j (.string ⟨(nt x).toArray⟩)).1
      rw [hst0] at hst
      have Hst := Lib.hid hst
      have Hbs := Lib.hid (hbq.setCell (p := ⟨w.heap.size, j, none⟩) (Nat.le_refl _) (.string ⟨(nt x).toArray⟩))
      clear hxe hst hst0 hor hbq hnum
      go_wp2_with fail
      refine (itoa_nt x _ HXj.out.1 HXj.out.2).mono ?_
      rintro e w5 ⟨rfl, rfl⟩
      go_wp2_with fail
      go_roundw
      case rel => exact ⟨j + 1, by omega, by go_num, Hst.out, Hbs.out⟩
      case measure => simp [intOf]; omega
    · obtain rfl : j = n := by omega
      have hjl : ¬ (j : Int) < j := by omega
      have HJ := Lib.hid (HJ0.out wr hor)
      have hbs := hbq.size
      have Hbq := Lib.hid hbq
      clear hor hbq
      go_wp2_with fail
      refine HJ.out.mono ?_
      rintro e w6 ⟨rfl, hb6⟩
      have HB := Lib.hid (Hbq.out.trans (hb6.mono hbs))
      clear hb6
      go_wp2_with fail
      go_ret
      exact ⟨rfl, HB.out⟩

end Go.Proofs.YtnhkabhchepieaaDoor
