/- HarderPuzzle by the model. -/
import Derived.Test.YtmgmkgjefplfdaaHpi
namespace Go.Proofs.Ytmgmkgjefplfdaa
open Go.ChangeShapes Go.WideShapes Go.ChangeAt Go.RowKit
set_option linter.unusedVariables false


def lenV : Value → Nat
  | .slice _ n _ => n
  | _ => 0
theorem lenV_slice (a : Option Addr) (n c : Nat) : lenV (.slice a n c) = n := rfl
set_option maxHeartbeats 1600000 in
set_option maxRecDepth 20000 in
theorem specHp_any (w : World) (f n : Int) (gb : Nat) (cap : Nat) (l : List Clu) (N : Nat) (HN : Hid (N = l.length)) (hN : N ≤ 1048576) (hc : N ≤ cap) (Hc : CluesAt w (some ⟨gb, 0, none⟩) l) :
    Calls Try.prog 61 #[.agg #[.int .i64 f, .int .i64 n, .slice (some ⟨gb, 0, none⟩) N cap]] w fun e w' => ∃ v, e = .returned (.tuple #[.agg #[.int .i64 (hpF f n l), .int .i64 (hpG f n l), v], .bool (hpB f n l)]) ∧ w'.ownsRow w.heap.size 25 4 v (hpL f n l).length (ks (hpL f n l)) ∧ Below w.heap.size w w' := by
  obtain ⟨W, hW, hbW, hsW, rX, rY⟩ := box2 w #[.int .i64 f, .int .i64 n, .slice (some ⟨gb, 0, none⟩) N cap] 35 #[.int .i64 0, .int .i64 0, .slice none 0 0] 35
  have HW := Lib.hid hW
  have HbW := Lib.hid hbW
  have HcW := Lib.hid (Hc.kept hbW)
  have x0 : W.cell? ⟨w.heap.size, 0, none⟩ = some (.int .i64 f) := cell_of_row _ _ _ _ _ _ rX
  have x1 : W.cell? ⟨w.heap.size, 1, none⟩ = some (.int .i64 n) := cell_of_row _ _ _ _ _ _ rX
  have x2 : W.cell? ⟨w.heap.size, 2, none⟩ = some (.slice (some ⟨gb, 0, none⟩) N cap) := cell_of_row _ _ _ _ _ _ rX
  have y0 : W.cell? ⟨w.heap.size + 1, 0, none⟩ = some (.int .i64 0) := cell_of_row _ _ _ _ _ _ rY
  have y1 : W.cell? ⟨w.heap.size + 1, 1, none⟩ = some (.int .i64 0) := cell_of_row _ _ _ _ _ _ rY
  have y2 : W.cell? ⟨w.heap.size + 1, 2, none⟩ = some (.slice none 0 0) := cell_of_row _ _ _ _ _ _ rY
  have gy : ∀ j, W.frozen? ⟨w.heap.size + 1, j, none⟩ = false := fun j => frozen_of_row _ _ _ _ _ rY
  have HRX := Lib.hid rX
  have HRY := Lib.hid rY
  clear hW rX rY hbW Hc
  have HI := Lib.hid (pzGood_any f n (some ⟨gb, 0, none⟩) cap l N W HN hN HcW)
  cases hg : goodB f n l
  · have hh : hpB f n l = false := by unfold hpB; rw [hg]; rfl
    have HF := Lib.hid (hpB_false hh)
    rw [hg] at HI
    rw [hh]
    clear hh hg
    go_enter Try.func61, Try.ntmps61
    go_wp2_with fail
    rw [HW.out]
    refine HI.out.mono ?_
    rintro e w5 ⟨rfl, hb1⟩
    have x0 := cell_old hb1 x0
    have x1 := cell_old hb1 x1
    have x2 := cell_old hb1 x2
    have y0 := cell_old hb1 y0
    have y1 := cell_old hb1 y1
    have y2 := cell_old hb1 y2
    have gy : ∀ j, w5.frozen? ⟨w.heap.size + 1, j, none⟩ = false := fun j => by rw [hb1.frozen (by show w.heap.size + 1 < W.heap.size; omega)]; exact gy j
    have hb5 := HbW.out.trans (hb1.mono HbW.out.size)
    have Own0 : Hid (w5.ownsRow (w.heap.size + 2) 25 4 (.slice none 0 0) 0 (ks [])) := Lib.hid (World.ownsRow_nil _ _ _ _)
    clear hb1
    go_wp2_with fail
    have HB := Lib.hid (((hb5.setCell (p := ⟨w.heap.size + 1, 0, none⟩) (by show w.heap.size ≤ w.heap.size + 1; omega) (.int .i64 0)).setCell (p := ⟨w.heap.size + 1, 1, none⟩) (by show w.heap.size ≤ w.heap.size + 1; omega) (.int .i64 0)).setCell (p := ⟨w.heap.size + 1, 2, none⟩) (by show w.heap.size ≤ w.heap.size + 1; omega) (.slice none 0 0))
    have HO := Lib.hid (ownsRow_setCell_below (ownsRow_setCell_below (ownsRow_setCell_below Own0.out (a := ⟨w.heap.size + 1, 0, none⟩) (by show w.heap.size + 1 < w.heap.size + 2; omega) (.int .i64 0)) (a := ⟨w.heap.size + 1, 1, none⟩) (by show w.heap.size + 1 < w.heap.size + 2; omega) (.int .i64 0)) (a := ⟨w.heap.size + 1, 2, none⟩) (by show w.heap.size + 1 < w.heap.size + 2; omega) (.slice none 0 0))
    obtain ⟨V, hV⟩ : ∃ V, ((w5.setCell ⟨w.heap.size + 1, 0, none⟩ (.int .i64 0)).setCell ⟨w.heap.size + 1, 1, none⟩ (.int .i64 0)).setCell ⟨w.heap.size + 1, 2, none⟩ (.slice none 0 0) = V := ⟨_, rfl⟩
    have z0 : V.cell? ⟨w.heap.size + 1, 0, none⟩ = some (.int .i64 0) := by rw [← hV]; simp [go_sem, y0]
    have z1 : V.cell? ⟨w.heap.size + 1, 1, none⟩ = some (.int .i64 0) := by rw [← hV]; simp [go_sem, y1]
    have z2 : V.cell? ⟨w.heap.size + 1, 2, none⟩ = some (.slice none 0 0) := by rw [← hV]; simp [go_sem, y2]
    rw [hV] at HB HO
    try rw [hV]
    clear hV hb5
    go_wp2_with fail
    refine bodyPost_ret (v := .tuple #[.agg #[.int .i64 0, .int .i64 0, .slice none 0 0], .bool false]) ?_ rfl ⟨.slice none 0 0, by rw [HF.out.1, HF.out.2.1], by rw [HF.out.2.2]; exact own_base (by omega) HO.out, HB.out⟩
    simp [results, Try.results61, go_sem, z0, z1, z2]
  · have HG := Lib.hid hg
    obtain ⟨F, M, rfl, rfl, hF, hM, h6, hm⟩ := good_parts hg
    have hN6 : N ≤ 6 := by rw [HN.out]; exact h6
    have Hm := Lib.hid hm
    rw [hg] at HI
    have HS := Lib.hid (fun (w3 : World) (h : CluesAt w3 (some ⟨gb, 0, none⟩) l) => specSlv0 w3 F M (some ⟨gb, 0, none⟩) N cap (some ⟨gb, 0, none⟩) cap l N hF hM HN hN h hm)
    cases hs : ((sol F M l).length : Int) == 1
    · have hh : hpB (F : Int) (M : Int) l = false := by unfold hpB; rw [hg, Int.toNat_natCast, Int.toNat_natCast, hs]; rfl
      have HF := Lib.hid (hpB_false hh)
      rw [hs] at HS
      rw [hh]
      clear hh hg hs hm h6
      go_enter Try.func61, Try.ntmps61
      go_wp2_with fail
      rw [HW.out]
      refine HI.out.mono ?_
      rintro e w4 ⟨rfl, hb1⟩
      have x0 := cell_old hb1 x0
      have x1 := cell_old hb1 x1
      have x2 := cell_old hb1 x2
      have y0 := cell_old hb1 y0
      have y1 := cell_old hb1 y1
      have y2 := cell_old hb1 y2
      have gy : ∀ j, w4.frozen? ⟨w.heap.size + 1, j, none⟩ = false := fun j => by rw [hb1.frozen (by show w.heap.size + 1 < W.heap.size; omega)]; exact gy j
      have Hc4 := Lib.hid (HcW.out.kept hb1)
      go_wp2_with fail
      refine (HS.out w4 Hc4.out).mono ?_
      rintro e w5 ⟨rfl, hb2⟩
      have y0 := cell_old hb2 y0
      have y1 := cell_old hb2 y1
      have y2 := cell_old hb2 y2
      have hs1 := hb1.size
      have gy2 : ∀ j, w5.frozen? ⟨w.heap.size + 1, j, none⟩ = false := fun j => by rw [hb2.frozen (by show w.heap.size + 1 < w4.heap.size; omega)]; exact gy j
      have hb5 := HbW.out.trans ((hb1.trans (hb2.mono hb1.size)).mono HbW.out.size)
      have Own0 : Hid (w5.ownsRow (w.heap.size + 2) 25 4 (.slice none 0 0) 0 (ks [])) := Lib.hid (World.ownsRow_nil _ _ _ _)
      clear hb1 hb2 x0 x1 x2 gy hs1
      go_wp2_with fail
      have HB := Lib.hid (((hb5.setCell (p := ⟨w.heap.size + 1, 0, none⟩) (by show w.heap.size ≤ w.heap.size + 1; omega) (.int .i64 0)).setCell (p := ⟨w.heap.size + 1, 1, none⟩) (by show w.heap.size ≤ w.heap.size + 1; omega) (.int .i64 0)).setCell (p := ⟨w.heap.size + 1, 2, none⟩) (by show w.heap.size ≤ w.heap.size + 1; omega) (.slice none 0 0))
      have HO := Lib.hid (ownsRow_setCell_below (ownsRow_setCell_below (ownsRow_setCell_below Own0.out (a := ⟨w.heap.size + 1, 0, none⟩) (by show w.heap.size + 1 < w.heap.size + 2; omega) (.int .i64 0)) (a := ⟨w.heap.size + 1, 1, none⟩) (by show w.heap.size + 1 < w.heap.size + 2; omega) (.int .i64 0)) (a := ⟨w.heap.size + 1, 2, none⟩) (by show w.heap.size + 1 < w.heap.size + 2; omega) (.slice none 0 0))
      obtain ⟨V, hV⟩ : ∃ V, ((w5.setCell ⟨w.heap.size + 1, 0, none⟩ (.int .i64 0)).setCell ⟨w.heap.size + 1, 1, none⟩ (.int .i64 0)).setCell ⟨w.heap.size + 1, 2, none⟩ (.slice none 0 0) = V := ⟨_, rfl⟩
      have z0 : V.cell? ⟨w.heap.size + 1, 0, none⟩ = some (.int .i64 0) := by rw [← hV]; simp [go_sem, y0]
      have z1 : V.cell? ⟨w.heap.size + 1, 1, none⟩ = some (.int .i64 0) := by rw [← hV]; simp [go_sem, y1]
      have z2 : V.cell? ⟨w.heap.size + 1, 2, none⟩ = some (.slice none 0 0) := by rw [← hV]; simp [go_sem, y2]
      rw [hV] at HB HO
      try rw [hV]
      clear hV hb5
      go_wp2_with fail
      refine bodyPost_ret (v := .tuple #[.agg #[.int .i64 0, .int .i64 0, .slice none 0 0], .bool false]) ?_ rfl ⟨.slice none 0 0, by rw [HF.out.1, HF.out.2.1], by rw [HF.out.2.2]; exact own_base (by omega) HO.out, HB.out⟩
      simp [results, Try.results61, go_sem, z0, z1, z2]
    · have hh : hpB (F : Int) (M : Int) l = true := by unfold hpB; rw [hg, Int.toNat_natCast, Int.toNat_natCast, hs]; rfl
      have HF := Lib.hid (hpB_true hh)
      rw [Int.toNat_natCast, Int.toNat_natCast, ← HN.out] at HF
      rw [hs] at HS
      rw [hh]
      obtain ⟨R, hR⟩ : ∃ R, hpA F M l = R := ⟨_, rfl⟩
      have HR0 : Hid (R 0 = []) := Lib.hid (by rw [← hR]; rfl)
      have HRs : Hid (∀ k, R (k + 1) = if (sol F M (R k ++ l.drop (k + 1))).length = 1 then R k else R k ++ [(k0 l k, k1 l k, k2 l k, k3 l k)]) := Lib.hid (fun k => by rw [← hR]; rfl)
      have HRl : Hid (∀ k, (R k).length ≤ k) := Lib.hid (fun k => by rw [← hR]; exact hpA_len F M l k)
      have HRa : Hid (∀ k m, k ≤ l.length → (R k ++ l.drop m).all (mB (F : Int) (M : Int)) = true) := Lib.hid (fun k m hk => by rw [← hR]; exact hpA_rest hm k m hk)
      rw [hR] at HF
      obtain ⟨i0, hi, hz0, hz1, hz2⟩ := info_parts infoCL
      clear hh hg hs hm h6 hR
      go_enter Try.func61, Try.ntmps61
      go_wp2_with fail
      rw [HW.out]
      refine HI.out.mono ?_
      rintro e w4 ⟨rfl, hb1⟩
      have x0 := cell_old hb1 x0
      have x1 := cell_old hb1 x1
      have x2 := cell_old hb1 x2
      have y0 := cell_old hb1 y0
      have y1 := cell_old hb1 y1
      have y2 := cell_old hb1 y2
      have gy : ∀ j, w4.frozen? ⟨w.heap.size + 1, j, none⟩ = false := fun j => by rw [hb1.frozen (by show w.heap.size + 1 < W.heap.size; omega)]; exact gy j
      have Hc4 := Lib.hid (HcW.out.kept hb1)
      have hs41 := hb1.size
      go_wp2_with fail
      refine (HS.out w4 Hc4.out).mono ?_
      rintro e w1 ⟨rfl, hb2⟩
      have hs12 := hb2.size
      have HbW1 := Lib.hid (hb1.trans (hb2.mono hb1.size))
      have Hc1 := Lib.hid (HcW.out.kept HbW1.out)
      have x2 := cell_old hb2 x2
      have hs1W : W.heap.size ≤ w1.heap.size := HbW1.out.size
      have Hb1e : Hid (Below w1.heap.size w1 (w1.alloc (.cells #[] 25))) := Lib.hid ((Below.refl _ _).alloc (Nat.le_refl _) _)
      have HO0 : Hid ((w1.alloc (.cells #[] 25)).ownsRow w1.heap.size 25 4 (.slice (some ⟨w1.heap.size, 0, none⟩) 0 0) 0 []) := Lib.hid (World.ownsRow_lit w1 #[] 0 (Nat.le_refl _) (by unfold maxLen; omega) rfl)
      have HN1 : Hid (∀ j u, (ks l)[j]? = some u → (w1.alloc (.cells #[] 25)).cell? ((⟨gb, 0, none⟩ : Addr).add j) = some u) := Lib.hid (clues_news (fun i hi => (clues_sat (Hc1.out.kept Hb1e.out) HN.out i (by rw [HN.out]; exact hi))))
      have HL0 : Hid ((ks l).length = N * 4) := Lib.hid (by rw [ks_length, ← HN.out])
      have hs1e : w1.heap.size ≤ (w1.alloc (.cells #[] 25)).heap.size := Hb1e.out.size
      have x2e := cell_old Hb1e.out x2
      clear x0 x1 y0 y1 y2 gy hb1 hb2
      go_wp2_with (at_builtin; refine wpList_append_own _ rfl _ _ 33 rfl w1.heap.size 25 i0 (.agg #[.int .i64 0, .int .i64 0, .int .i64 0, .int .i64 0]) 4 32 Try.underlying33 hi hz0 hz1 hz2 rfl (by omega) _ 0 [] rfl HO0.out ⟨gb, 0, none⟩ N cap (ks l) rfl HL0.out HN1.out (ks_one _) (by unfold maxLen; omega) (by omega) hs1e ?_)
      intro v2 w2 own2 gr2 _
      try rw [List.nil_append] at own2
      have Ho2 := Lib.hid own2
      have Hb2 := Lib.hid (Hb1e.out.grown gr2 hs1e (fun b hb => by cases hb; exact Nat.le_refl _))
      clear own2 gr2 x2 x2e hs1e
      go_wp2_with fail
      go_loopw [4, 5] (fun v i wr => ∃ j K n : Nat, j ≤ N ∧ i = .int .i64 K ∧ n = K + (N - j) ∧ Hid (K = (R j).length) ∧ wr.ownsRow w1.heap.size 25 4 v n (ks (R j ++ l.drop j)) ∧ lenV v = n ∧ Below w1.heap.size w1 wr) (fun v i _ => lenV v - (intOf i).toNat)
      case atStart => exact ⟨0, 0, N, Nat.zero_le _, rfl, by omega, Lib.hid (by rw [HR0.out]; rfl), by rw [HR0.out]; exact Ho2.out, by obtain ⟨a, c, h, _⟩ := kown_shape Ho2.out HN.out; rw [h]; rfl, Hb2.out⟩
      case round =>
        obtain ⟨j, K, n, hj, rfl, hn, HK, hor, hlv, hbel⟩ := hrel
        have hKj : K ≤ j := by rw [HK.out]; exact HRl.out j
        have hsz := hbel.size
        have HbWr := Lib.hid (HbW1.out.trans (hbel.mono hs1W))
        by_cases hlt : j < N
        · have hjl : j < l.length := by rw [← HN.out]; exact hlt
          obtain ⟨g, c, rfl⟩ := own_apos hor (by omega)
          have hnc : n ≤ c := own_cap4 hor
          have Hln : Hid (n = (R j ++ l.drop j).length) := Lib.hid (by rw [List.length_append, List.length_drop, ← HK.out, ← HN.out]; exact hn)
          have hn6 : n ≤ 6 := by omega
          have hKn : K < n := by omega
          have Hless : Hid (less (R j ++ l.drop j) K = R j ++ l.drop (j + 1)) := Lib.hid (by rw [HK.out]; exact less_mid _ _ _ hjl)
          have HPW := pzWithout_any g 0 (R j ++ l.drop j) n c K wr Hln hKn hn6 hnc (Lib.hid (clues_sat (kown_at hor Hln.out) Hln.out))
          rw [Hless.out] at HPW
          have HPW := Lib.hid HPW
          have Hor := Lib.hid hor
          have Hbel := Lib.hid hbel
          have Hl2 : Hid (n - 1 = (R j ++ l.drop (j + 1)).length) := Lib.hid (by rw [List.length_append, List.length_drop, ← HK.out, ← HN.out]; omega)
          have HSv := Lib.hid (fun (w3 : World) a c (h : CluesAt w3 a (R j ++ l.drop (j + 1))) => specSlv0 w3 F M (some ⟨gb, 0, none⟩) N cap a c (R j ++ l.drop (j + 1)) (n - 1) hF hM Hl2 (by omega) h (HRa.out j (j + 1) (by omega)))
          have HRj := Lib.hid (HRs.out j)
          have Hn := Lib.hid hn
          clear hor hbel hlv hn
          go_wp2_with fail
          refine HPW.out.mono ?_
          rintro e w3 ⟨v3, rfl, own3, hb3⟩
          obtain ⟨a3, c3, rfl, hat3, _⟩ := kown_shape own3 Hl2.out
          have Hat3 := Lib.hid hat3
          have s3 := hb3.size
          have Ho3 := Lib.hid (own_later Hor.out hb3)
          have HN3 := Lib.hid (own_base hsz own3)
          have Hb3 := Lib.hid (Hbel.out.trans (hb3.mono hsz))
          have HbW3 := Lib.hid (HbW1.out.trans (Hb3.out.mono hs1W))
          have x0 : w3.cell? ⟨w.heap.size, 0, none⟩ = some (.int .i64 (F : Int)) := cell_of_row _ _ _ _ _ _ (row_later HRX.out HbW3.out)
          have x1 : w3.cell? ⟨w.heap.size, 1, none⟩ = some (.int .i64 (M : Int)) := cell_of_row _ _ _ _ _ _ (row_later HRX.out HbW3.out)
          have x2 : w3.cell? ⟨w.heap.size, 2, none⟩ = some (.slice (some ⟨gb, 0, none⟩) N cap) := cell_of_row _ _ _ _ _ _ (row_later HRX.out HbW3.out)
          clear hb3 own3 hat3
          cases hB : ((sol F M (R j ++ l.drop (j + 1))).length : Int) == 1
          · rw [hB] at HSv
            have HR1 : Hid (R (j + 1) = R j ++ [(k0 l j, k1 l j, k2 l j, k3 l j)]) := Lib.hid (by rw [HRj.out, if_neg (by intro h; rw [h] at hB; simp at hB)])
            clear hB
            go_wp2_with fail
            refine (HSv.out w3 a3 c3 Hat3.out).mono ?_
            rintro e w5 ⟨rfl, hb5⟩
            have Ho5 := Lib.hid (own_later Ho3.out hb5)
            have Hb5 := Lib.hid (Hb3.out.trans (hb5.mono Hb3.out.size))
            clear hb5 x0 x1 x2
            go_wp2_with fail
            go_roundw
            case rel =>
              exact ⟨j + 1, K + 1, n, by omega, by go_num, by rw [Hn.out]; omega, Lib.hid (by rw [HR1.out, List.length_append, ← HK.out]; rfl), by rw [HR1.out, List.append_assoc, List.singleton_append, ← drop_get l j hjl]; exact Ho5.out, rfl, Hb5.out⟩
            case measure => simp [intOf, lenV_slice]; omega
          · rw [hB] at HSv
            have HR1 : Hid (R (j + 1) = R j) := Lib.hid (by rw [HRj.out, if_pos (by simp at hB; omega)])
            clear hB
            go_wp2_with fail
            refine (HSv.out w3 a3 c3 Hat3.out).mono ?_
            rintro e w5 ⟨rfl, hb5⟩
            have Ho5 := Lib.hid (own_later HN3.out hb5)
            have Hb5 := Lib.hid (Hb3.out.trans (hb5.mono Hb3.out.size))
            clear hb5 x0 x1 x2
            go_wp2_with fail
            go_roundw
            case rel =>
              exact ⟨j + 1, K, n - 1, by omega, rfl, by rw [Hn.out]; omega, Lib.hid (by rw [HR1.out, ← HK.out]), by rw [HR1.out]; exact Ho5.out, rfl, Hb5.out⟩
            case measure => simp [intOf, lenV_slice]; omega
        · obtain rfl : j = N := by omega
          have hnK : n = K := by omega
          subst hnK
          have hnk : ¬ n < n := Nat.lt_irrefl n
          clear hn
          rw [show R j ++ l.drop j = R j by rw [HN.out, List.drop_length, List.append_nil]] at hor
          obtain ⟨V, C, rfl, _⟩ := own_lies hor HK.out
          have hPZ := Lib.hid (fun (w1 : World) a m c => pzWith_any (F : Int) (M : Int) (some ⟨gb, 0, none⟩) j cap a m c w1)
          have Hor := Lib.hid (own_base (show w.heap.size + 2 ≤ w1.heap.size by omega) hor)
          have x0 : wr.cell? ⟨w.heap.size, 0, none⟩ = some (.int .i64 (F : Int)) := cell_of_row _ _ _ _ _ _ (row_later HRX.out HbWr.out)
          have x1 : wr.cell? ⟨w.heap.size, 1, none⟩ = some (.int .i64 (M : Int)) := cell_of_row _ _ _ _ _ _ (row_later HRX.out HbWr.out)
          have x2 : wr.cell? ⟨w.heap.size, 2, none⟩ = some (.slice (some ⟨gb, 0, none⟩) j cap) := cell_of_row _ _ _ _ _ _ (row_later HRX.out HbWr.out)
          clear hor hbel hlv
          go_wp2_with fail
          refine (hPZ.out wr V n C).mono ?_
          rintro e w5 ⟨rfl, hb5r⟩
          have hbb : Below W.heap.size W w5 := HbWr.out.trans (hb5r.mono HbWr.out.size)
          have y0 : w5.cell? ⟨w.heap.size + 1, 0, none⟩ = some (.int .i64 0) := cell_of_row _ _ _ _ _ _ (row_later HRY.out hbb)
          have y1 : w5.cell? ⟨w.heap.size + 1, 1, none⟩ = some (.int .i64 0) := cell_of_row _ _ _ _ _ _ (row_later HRY.out hbb)
          have y2 : w5.cell? ⟨w.heap.size + 1, 2, none⟩ = some (.slice none 0 0) := cell_of_row _ _ _ _ _ _ (row_later HRY.out hbb)
          have gy : ∀ j, w5.frozen? ⟨w.heap.size + 1, j, none⟩ = false := fun j => frozen_of_row _ _ _ _ _ (row_later HRY.out hbb)
          have Own5 := Lib.hid (own_later Hor.out hb5r)
          have hb5 := HbW.out.trans (hbb.mono HbW.out.size)
          clear hb5r hbb x0 x1 x2
          go_wp2_with fail
          have HB := Lib.hid (((hb5.setCell (p := ⟨w.heap.size + 1, 0, none⟩) (by show w.heap.size ≤ w.heap.size + 1; omega) (.int .i64 (F : Int))).setCell (p := ⟨w.heap.size + 1, 1, none⟩) (by show w.heap.size ≤ w.heap.size + 1; omega) (.int .i64 (M : Int))).setCell (p := ⟨w.heap.size + 1, 2, none⟩) (by show w.heap.size ≤ w.heap.size + 1; omega) (.slice V n C))
          have HO := Lib.hid (ownsRow_setCell_below (ownsRow_setCell_below (ownsRow_setCell_below Own5.out (a := ⟨w.heap.size + 1, 0, none⟩) (by show w.heap.size + 1 < w.heap.size + 2; omega) (.int .i64 (F : Int))) (a := ⟨w.heap.size + 1, 1, none⟩) (by show w.heap.size + 1 < w.heap.size + 2; omega) (.int .i64 (M : Int))) (a := ⟨w.heap.size + 1, 2, none⟩) (by show w.heap.size + 1 < w.heap.size + 2; omega) (.slice V n C))
          obtain ⟨V_, hV⟩ : ∃ V_, ((w5.setCell ⟨w.heap.size + 1, 0, none⟩ (.int .i64 (F : Int))).setCell ⟨w.heap.size + 1, 1, none⟩ (.int .i64 (M : Int))).setCell ⟨w.heap.size + 1, 2, none⟩ (.slice V n C) = V_ := ⟨_, rfl⟩
          have z0 : V_.cell? ⟨w.heap.size + 1, 0, none⟩ = some (.int .i64 (F : Int)) := by rw [← hV]; simp [go_sem, y0]
          have z1 : V_.cell? ⟨w.heap.size + 1, 1, none⟩ = some (.int .i64 (M : Int)) := by rw [← hV]; simp [go_sem, y1]
          have z2 : V_.cell? ⟨w.heap.size + 1, 2, none⟩ = some (.slice V n C) := by rw [← hV]; simp [go_sem, y2]
          rw [hV] at HB HO
          have HO2 : Hid (V_.ownsRow (w.heap.size + 2) 25 4 (.slice V n C) (R j).length (ks (R j))) := Lib.hid (by have h := HO.out; rw [← HK.out]; exact h)
          try rw [hV]
          clear hV hb5
          go_wp2_with fail
          refine bodyPost_ret (v := .tuple #[.agg #[.int .i64 (F : Int), .int .i64 (M : Int), .slice V n C], .bool true]) ?_ rfl ⟨.slice V n C, by rw [HF.out.1, HF.out.2.1], by rw [HF.out.2.2]; exact own_base (by omega) HO2.out, HB.out⟩
          simp [results, Try.results61, go_sem, z0, z1, z2]

end Go.Proofs.Ytmgmkgjefplfdaa
