/- The text of a puzzle: the model. -/
import Derived.Test.YtnhkabhchepieaaDoorPt
import Derived.Test.YtnhkabhchepieaaDoorBox
import Derived.Test.YtnhkabhchepieaaDoorPzH
namespace Go.Proofs.YtnhkabhchepieaaDoor
open Go.ChangeShapes Go.WideShapes Go.ChangeAt Go.RowKit
set_option linter.unusedVariables false


set_option maxHeartbeats 1600000 in
set_option maxRecDepth 20000 in
theorem pzText_any (w : World) (f n : Int) (ao : Option Addr) (cap : Nat) (l : List Clu) (N : Nat) (HN : Hid (N = l.length)) (Hg : Hid (goodB f n l = true)) (Hc : CluesAt w ao l) :
    Calls Tryd.prog 56 #[.agg #[.int .i64 f, .int .i64 n, .slice ao N cap]] w fun e w' => e = .returned (.string ⟨(ptT f n l).toArray⟩) ∧ Below w.heap.size w w' := by
  obtain ⟨hf, hn, h6, hk4⟩ := good_small Hg.out
  have hN6 : N ≤ 6 := by rw [HN.out]; exact h6
  have Hk4 := Lib.hid hk4
  obtain ⟨W, hW, hbW, hsW, rX⟩ := box1 w #[.int .i64 f, .int .i64 n, .slice ao N cap] 44
  have HW := Lib.hid hW
  have HbW := Lib.hid hbW
  have HcW := Lib.hid (Hc.kept hbW)
  have HRX := Lib.hid rX
  have x0 : W.cell? ⟨w.heap.size, 0, none⟩ = some (.int .i64 f) := cell_of_row _ _ _ _ _ _ rX
  have x1 : W.cell? ⟨w.heap.size, 1, none⟩ = some (.int .i64 n) := cell_of_row _ _ _ _ _ _ rX
  have sf := nb_le f
  have sn := nb_le n
  have q0 : ¬ 9223372036854775807 < (nb f).size + 1 := by omega
  have q1 : ¬ 9223372036854775807 < (nb f).size + 1 + (nb n).size := by omega
  have q2 : ¬ 9223372036854775807 < (nb f).size + 1 + (nb n).size + 1 := by omega
  have Hff : Hid (0 ≤ f ∧ f < 100) := Lib.hid (by omega)
  have Hnn : Hid (0 ≤ n ∧ n < 100) := Lib.hid (by omega)
  have HI : Hid (W.drew.cell? ⟨w.heap.size, 0, none⟩ = some (.int .i64 f) ∧ W.drew.cell? ⟨w.heap.size, 1, none⟩ = some (.int .i64 n) ∧ Below W.heap.size W W.drew) := Lib.hid ⟨x0, x1, (Below.refl _ _).drew⟩
  have HEnd : Hid (∀ s : ByteArray, s.data.toList = hdT f n ++ jn 44 (cws l) N → s = ⟨(ptT f n l).toArray⟩) := Lib.hid (fun s hs => by
    have h1 : s.data.toList = ptT f n l := by rw [hs, ptT, ← jn_all, cws_len, ← HN.out]
    have h2 : s = ⟨s.data.toList.toArray⟩ := by simp
    rw [h2, h1])
  have Hhd := Lib.hid (headC f n)
  have hhl := hdT_le f n
  clear hW rX hbW Hc hk4 hf hn
  go_enter Tryd.func56, Tryd.ntmps56
  go_wp2_with fail
  rw [HW.out]
  go_region_held3 (fun w' => w'.cell? ⟨w.heap.size, 0, none⟩ = some (.int .i64 f) ∧ w'.cell? ⟨w.heap.size, 1, none⟩ = some (.int .i64 n) ∧ Below W.heap.size W w')
    (first | exact HI.out | exact two_kept (by assumption) hb2 | (go_split_ands; exact two_kept ⟨by assumption, by assumption, by assumption⟩ hb2) | go_keep)
    (first
      | (go_at_call 49; first | (go_at_call_of 49 (Value.int .i64 f); refine (num_b f _ Hff.out).mono ?_; rintro e w2 ⟨rfl, hb2⟩) | (refine (num_b n _ Hnn.out).mono ?_; rintro e w2 ⟨rfl, hb2⟩))
      | fail)
  have hbb : Below W.heap.size W w2 := (show w2.cell? ⟨w.heap.size, 0, none⟩ = some (.int .i64 f) ∧ w2.cell? ⟨w.heap.size, 1, none⟩ = some (.int .i64 n) ∧ Below W.heap.size W w2 by assumption).2.2
  have x2 : w2.cell? ⟨w.heap.size, 2, none⟩ = some (.slice ao N cap) := cell_of_row _ _ _ _ _ _ (row_later HRX.out hbb)
  have Hc2 := Lib.hid (HcW.out.kept hbb)
  have Hbb := Lib.hid hbb
  have hs2 := hbb.size
  clear x0 x1 hbb q0 q1 q2
  obtain ⟨s0, hs0⟩ : ∃ s0, nb f ++ ⟨#[99]⟩ ++ nb n ++ ⟨#[58]⟩ = s0 := ⟨_, rfl⟩
  rw [hs0] at Hhd
  have Hs0 := Lib.hid hs0
  clear hs0 sf sn
  go_upto_region 2 with (fail)
  rw [Hs0.out]
  go_wp2_with fail
  clear x2
  go_loopw [3, 18] (fun v i wr => ∃ (k : Nat) (s : ByteArray), k ≤ N ∧ i = .int .i64 k ∧ v = .string s ∧ Hid (s.data.toList = hdT f n ++ jn 44 (cws l) k) ∧ Below w2.heap.size w2 wr) (fun _ i _ => N - (intOf i).toNat)
  case atStart => exact ⟨0, _, Nat.zero_le _, rfl, rfl, Lib.hid (by rw [Hhd.out]; simp [jn]), Below.refl _ _⟩
  case round =>
    obtain ⟨k, s, hk, rfl, rfl, Hst, hbel⟩ := hrel
    by_cases hlt : k < N
    · have hsz := hbel.size
      have hkl : k < l.length := by rw [← HN.out]; exact hlt
      obtain ⟨b, off, rfl, hsat⟩ : ∃ b off, ao = some ⟨b, off, none⟩ ∧ ∀ i, i < l.length → Sat4 w2 b off l i := by
        rcases Hc2.out with h0 | h0
        · exfalso; rw [h0] at hkl; simp at hkl
        · exact h0
      obtain ⟨h0, h1, h2, h3⟩ := (hsat k hkl).kept hbel
      have HQ := Lib.hid (Hk4.out k hkl)
      have hss : s.size ≤ 100 := by
        have e1 : s.size = s.data.toList.length := by simp
        rw [e1, Hst.out, List.length_append]
        have := jn_le 44 (cws_le l) k
        omega
      have HP := Lib.hid (fun h0 => stepC_pos (hdT f n) l k hkl s Hst.out h0)
      have HZ := Lib.hid (fun h0 => stepC_zero (hdT f n) l k hkl s Hst.out h0)
      obtain ⟨x, hx⟩ : ∃ x, k0 l k = x := ⟨_, rfl⟩
      obtain ⟨y, hy⟩ : ∃ y, k1 l k = y := ⟨_, rfl⟩
      obtain ⟨z, hz⟩ : ∃ z, k2 l k = z := ⟨_, rfl⟩
      obtain ⟨u, hu⟩ : ∃ u, k3 l k = u := ⟨_, rfl⟩
      rw [hx] at HQ h0 HP HZ
      rw [hy] at HQ h1 HP HZ
      rw [hz] at HQ h2 HP HZ
      rw [hu] at HQ h3 HP HZ
      clear hx hy hz hu hsat
      have sx := nb_le x
      have sy := nb_le y
      have sz := nb_le z
      have su := nb_le u
      have q0 : ¬ 9223372036854775807 < s.size + 1 := by omega
      have q1 : ¬ 9223372036854775807 < (nb x).size + 1 := by omega
      have q2 : ¬ 9223372036854775807 < (nb x).size + 1 + (nb y).size := by omega
      have q3 : ¬ 9223372036854775807 < (nb x).size + 1 + (nb y).size + 1 := by omega
      have q4 : ¬ 9223372036854775807 < (nb x).size + 1 + (nb y).size + 1 + (nb z).size := by omega
      have q5 : ¬ 9223372036854775807 < (nb x).size + 1 + (nb y).size + 1 + (nb z).size + 1 := by omega
      have q6 : ¬ 9223372036854775807 < (nb x).size + 1 + (nb y).size + 1 + (nb z).size + 1 + (nb u).size := by omega
      have q7 : ¬ 9223372036854775807 < s.size + ((nb x).size + 1 + (nb y).size + 1 + (nb z).size + 1 + (nb u).size) := by omega
      have q8 : ¬ 9223372036854775807 < s.size + 1 + ((nb x).size + 1 + (nb y).size + 1 + (nb z).size + 1 + (nb u).size) := by omega
      have hb0 : (0 : Int) ≤ k := by omega
      have hb1 : (k : Int) < N := by omega
      obtain ⟨wx, hwx, hbx, hsx, rC⟩ := box1 wr #[.int .i64 x, .int .i64 y, .int .i64 z, .int .i64 u] 83
      have HWX := Lib.hid hwx
      have Hbx := Lib.hid (hbel.trans (hbx.mono hsz))
      have hsx2 := Hbx.out.size
      have HI : Hid (wx.drew.cell? ⟨wr.heap.size, 0, none⟩ = some (.int .i64 x) ∧ wx.drew.cell? ⟨wr.heap.size, 1, none⟩ = some (.int .i64 y) ∧ wx.drew.cell? ⟨wr.heap.size, 2, none⟩ = some (.int .i64 z) ∧ wx.drew.cell? ⟨wr.heap.size, 3, none⟩ = some (.int .i64 u) ∧ Below wx.heap.size wx wx.drew) :=
        Lib.hid ⟨cell_of_row wx wr.heap.size 0 _ _ _ rC, cell_of_row wx wr.heap.size 1 _ _ _ rC, cell_of_row wx wr.heap.size 2 _ _ _ rC, cell_of_row wx wr.heap.size 3 _ _ _ rC, (Below.refl _ _).drew⟩
      clear hwx hbx hsx rC hbel Hst
      go_upto_region 5 with (fail)
      rw [HWX.out]
      clear h0 h1 h2 h3
      go_wp2_with fail
      all_goals
        go_region_held3 (fun w' => w'.cell? ⟨wr.heap.size, 0, none⟩ = some (.int .i64 x) ∧ w'.cell? ⟨wr.heap.size, 1, none⟩ = some (.int .i64 y) ∧ w'.cell? ⟨wr.heap.size, 2, none⟩ = some (.int .i64 z) ∧ w'.cell? ⟨wr.heap.size, 3, none⟩ = some (.int .i64 u) ∧ Below wx.heap.size wx w')
          (first | exact HI.out | exact four_kept (by assumption) hb2 | (go_split_ands; exact four_kept ⟨by assumption, by assumption, by assumption, by assumption, by assumption⟩ hb2) | go_keep)
          (first
            | (go_at_call 49; first | (go_at_call_of 49 (Value.int .i64 x); refine (num_b x _ HQ.out.1).mono ?_; rintro e w3 ⟨rfl, hb2⟩) | (go_at_call_of 49 (Value.int .i64 y); refine (num_b y _ HQ.out.2.1).mono ?_; rintro e w3 ⟨rfl, hb2⟩) | (go_at_call_of 49 (Value.int .i64 z); refine (num_b z _ HQ.out.2.2.1).mono ?_; rintro e w3 ⟨rfl, hb2⟩) | (refine (num_b u _ HQ.out.2.2.2).mono ?_; rintro e w3 ⟨rfl, hb2⟩))
            | fail)
      all_goals have hb3 : Below wx.heap.size wx w3 := (show w3.cell? ⟨wr.heap.size, 0, none⟩ = some (.int .i64 x) ∧ w3.cell? ⟨wr.heap.size, 1, none⟩ = some (.int .i64 y) ∧ w3.cell? ⟨wr.heap.size, 2, none⟩ = some (.int .i64 z) ∧ w3.cell? ⟨wr.heap.size, 3, none⟩ = some (.int .i64 u) ∧ Below wx.heap.size wx w3 by assumption).2.2.2.2
      all_goals have Hb3 := Lib.hid (Hbx.out.trans (hb3.mono hsx2))
      · have Hnx := Lib.hid (HP.out (by assumption))
        clear hb3
        go_wp2_with fail
        go_roundw
        case rel => exact ⟨k + 1, _, by omega, by go_num, rfl, Hnx, Hb3.out⟩
        case measure => simp [intOf]; omega
      · have Hnx := Lib.hid (HZ.out (by assumption))
        clear hb3
        go_wp2_with fail
        go_roundw
        case rel => exact ⟨k + 1, _, by omega, by go_num, rfl, Hnx, Hb3.out⟩
        case measure => simp [intOf]; omega
    · obtain rfl : k = N := by omega
      obtain rfl := HEnd.out s Hst.out
      have HB := Lib.hid (HbW.out.trans ((Hbb.out.trans (hbel.mono hs2)).mono HbW.out.size))
      clear hlt hk Hst hbel
      go_wp2_with fail
      go_ret
      exact ⟨rfl, HB.out⟩

end Go.Proofs.YtnhkabhchepieaaDoor
