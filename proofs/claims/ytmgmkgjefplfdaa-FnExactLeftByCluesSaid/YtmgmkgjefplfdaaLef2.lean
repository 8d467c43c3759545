/- How many lists fit the first clues: by the model. -/
import Derived.Test.YtmgmkgjefplfdaaLef
namespace Go.Proofs.Ytmgmkgjefplfdaa
open Go.ChangeShapes Go.WideShapes Go.ChangeAt Go.RowKit
set_option linter.unusedVariables false

set_option maxHeartbeats 400000 in
set_option maxRecDepth 20000 in
theorem specLef_any (w : World) (f n : Int) (gb : Nat) (cap : Nat) (l : List Clu) (N : Nat) (HN : Hid (N = l.length)) (hN : N ≤ 1048576) (hc : N ≤ cap) (Hc : CluesAt w (some ⟨gb, 0, none⟩) l) :
    Calls Try.prog 57 #[.agg #[.int .i64 f, .int .i64 n, .slice (some ⟨gb, 0, none⟩) N cap]] w fun e w' => ∃ v, e = .returned (.tuple #[v, .bool (goodB f n l)]) ∧ w'.ownsRow w.heap.size 3 1 v (lefL f n l).length (ns (lefL f n l)) ∧ Below w.heap.size w w' := by
  obtain ⟨W0, hW, hbW, hsW, rX⟩ := box1 w #[.int .i64 f, .int .i64 n, .slice (some ⟨gb, 0, none⟩) N cap] 35
  have HW := Lib.hid hW
  have HX := Lib.hid rX
  have HbW := Lib.hid hbW
  have Hc0 := Lib.hid (Hc.kept hbW)
  have c0 : W0.cell? ⟨w.heap.size, 0, none⟩ = some (.int .i64 f) := cell_of_row _ _ _ _ _ _ rX
  have c1 : W0.cell? ⟨w.heap.size, 1, none⟩ = some (.int .i64 n) := cell_of_row _ _ _ _ _ _ rX
  have c2 : W0.cell? ⟨w.heap.size, 2, none⟩ = some (.slice (some ⟨gb, 0, none⟩) N cap) := cell_of_row _ _ _ _ _ _ rX
  clear hW rX hbW Hc
  cases hg : goodB f n l
  · have HG := Lib.hid hg
    rw [show lefL f n l = [] by simp [lefL, hg]]
    clear hg
    go_enter Try.func57, Try.ntmps57
    go_wp2_with fail
    rw [HW.out]
    refine (pzGood_any f n (some ⟨gb, 0, none⟩) cap l N W0 HN hN Hc0).mono ?_
    rintro e w1 ⟨rfl, hb1⟩
    have HB := Lib.hid (HbW.out.trans (hb1.mono HbW.out.size))
    rw [HG.out]
    clear hb1 c0 c1 c2
    go_wp2_with fail
    go_ret2
    exact ⟨_, rfl, World.ownsRow_nil _ _ _ _, HB.out⟩
  · have HG := Lib.hid hg
    obtain ⟨F, M, rfl, rfl, hF, hM, h6, hm⟩ := good_parts hg
    have hN6 : N ≤ 6 := by rw [HN.out]; exact h6
    rw [lefL_good hg]
    have hlen : (lefS F M l).length = N + 1 := by rw [lefS_len, ← HN.out]
    have HAt := Lib.hid (fun k (h : k < N + 1) => lefS_at F M l k (by rw [← HN.out]; exact h))
    obtain ⟨Lf, hLf⟩ : ∃ Lf, lefS F M l = Lf := ⟨_, rfl⟩
    rw [hLf] at hlen HAt ⊢
    rw [hlen]
    have HL : Hid (N + 1 = Lf.length) := hlen.symm
    obtain ⟨i0, hi, hz0, hz1, hz2⟩ := info_parts info3
    have Hz := Lib.hid (And.intro hz0 (And.intro hz1 hz2))
    have Hm := Lib.hid hm
    clear hz0 hz1 hz2 hg hLf hlen hm h6
    obtain ⟨N1, hN1⟩ : ∃ N1, N + 1 = N1 := ⟨_, rfl⟩
    rw [hN1] at HL HAt ⊢
    have HN1 := Lib.hid hN1
    have hN17 : N1 ≤ 7 := by omega
    clear hN1
    go_enter Try.func57, Try.ntmps57
    go_wp2_with fail
    rw [HW.out]
    refine (pzGood_any (F : Int) (M : Int) (some ⟨gb, 0, none⟩) cap l N W0 HN hN Hc0).mono ?_
    rintro e w1 ⟨rfl, hb1⟩
    have HB1 := Lib.hid (HbW.out.trans (hb1.mono HbW.out.size))
    have Hc1 := Lib.hid (Hc0.out.kept hb1)
    have HX1 := Lib.hid (row_later HX.out hb1)
    have c0 := cell_old hb1 c0
    have c1 := cell_old hb1 c1
    have c2 := cell_old hb1 c2
    have hs1 : w.heap.size ≤ w1.heap.size := HB1.out.size
    rw [HG.out]
    clear hb1
    have hw1lt : w.heap.size < w1.heap.size := World.block_lt_of_cell? _ _ c0
    go_wp2_with fail
    go_loopw [4, 5] (fun v i wr => ∃ q : Nat, q ≤ N1 ∧ i = .int .i64 q ∧ wr.ownsRow w1.heap.size 3 1 v q (ns (Lf.take q)) ∧ Below w1.heap.size w1 wr) (fun _ i _ => N1 - (intOf i).toNat)
    case atStart => exact ⟨0, Nat.zero_le _, rfl, by simpa [ns] using World.ownsRow_nil _ _ _ _, Below.refl _ _⟩
    case round =>
      clear c0 c1 c2
      obtain ⟨q, hq, rfl, hor, hbel⟩ := hrel
      have hsz := hbel.size
      have rXr := row_later HX1.out hbel
      have x0 : wr.cell? ⟨w.heap.size, 0, none⟩ = some (.int .i64 (F : Int)) := cell_of_row _ _ _ _ _ _ rXr
      have x1 : wr.cell? ⟨w.heap.size, 1, none⟩ = some (.int .i64 (M : Int)) := cell_of_row _ _ _ _ _ _ rXr
      have x2 : wr.cell? ⟨w.heap.size, 2, none⟩ = some (.slice (some ⟨gb, 0, none⟩) N cap) := cell_of_row _ _ _ _ _ _ rXr
      by_cases hlt : q < N1
      · have hqN : q ≤ N := by have := HN1.out; omega
        have hle : decide ((q : Int) ≤ (N : Int)) = true := by simp; omega
        have hq0 : (0 : Int) ≤ (q : Int) := by omega
        have hqc : (q : Int) ≤ (cap : Int) := by omega
        have hat := HAt.out q hlt
        obtain ⟨av, cv, rfl, _⟩ := nums_shape hor (by rw [List.length_take, ← HL.out]; omega)
        have Hcr := Lib.hid (Hc1.out.kept hbel)
        have hfar : (Value.slice av q cv).ownBlock ≠ some w.heap.size := fun e => by have := (hor.lt _ e).1; omega
        have Far := Lib.hid hfar
        have Hlo : Hid (∀ b, (Value.slice av q cv).ownBlock = some b → w1.heap.size ≤ b) := fun b hb => (hor.lt b hb).1
        have Hor := Lib.hid hor
        have Hbel := Lib.hid hbel
        have HA := Lib.hid (fun (w3 : World) (h : CluesAt w3 (some ⟨gb, 0, none⟩) l) => pzAll_any w3 F M (some ⟨gb, 0, none⟩) N cap (some ⟨gb, 0, none⟩) cap q (l.take q) (pf F) hF hM (Lib.hid (by rw [List.length_take, ← HN.out]; omega)) (by omega) (Lib.hid (clues_take h q)) (Lib.hid (fitOk_any w3 F M (l.take q) hF hM (all_take Hm.out q))))
        obtain ⟨V, hV⟩ : ∃ V, (sol F M (l.take q)).length = V := ⟨_, rfl⟩
        rw [hV] at hat
        have HV : Hid ((lk (fitsB (pf F) (l.take q)) (chs F) M []).length = V) := hV
        have Hat := Lib.hid hat
        have Htk : Hid (Lf.take (q + 1) = Lf.take q ++ [(V : Int)]) := by
          show _ = _
          have hqL : q < Lf.length := by rw [← HL.out]; exact hlt
          rw [List.take_succ_eq_append_getElem hqL, na_get Lf q hqL, hat]
        clear hor hbel rXr hV hat hfar
        obtain ⟨wa, hwa⟩ : ∃ x, x = wr := ⟨_, rfl⟩
        subst hwa
        have hwlt : w.heap.size < wa.heap.size := by omega
        go_wp2_with fail
        go_region_held3 (fun w' => w'.cell? ⟨w.heap.size, 0, none⟩ = some (.int .i64 (F : Int)) ∧ w'.cell? ⟨w.heap.size, 1, none⟩ = some (.int .i64 (M : Int)) ∧ w'.cell? ⟨w.heap.size, 2, none⟩ = some (.slice (some ⟨gb, 0, none⟩) N cap))
          (first
            | exact ⟨x0, x1, x2⟩
            | go_keep
            | (go_split_ands
               refine ⟨?_, ?_, ?_⟩
               all_goals first | assumption | exact cell_old hb2 (by assumption))
            | (go_split_ands
               refine ⟨?_, ?_, ?_⟩
               all_goals (rw [hgrow.cell_far _ (by simp; omega) (by first | exact Ne.symm Far.out | simp)]; assumption)))
          (first
            | (go_at_call 72; (with_reducible refine (HA.out wa.drew (Hcr.out.kept (Below.refl _ _).drew)).mono ?_); rintro e w5 ⟨v5, X5, rfl, hO5, hb2⟩; obtain ⟨a5, c5, hv5, _⟩ := hO5.reads; rw [HV.out] at hv5; subst hv5; have hs5 : wa.heap.size ≤ w5.heap.size := hb2.size)
            | (refine step_append_lies _ (by rfl) _ _ _ (by rfl) w1.heap.size 3 i0 (.int .i64 0) 1 8 Try.underlying61 hi Hz.out.1 Hz.out.2.1 Hz.out.2.2 rfl (by omega) (.slice av q cv) q _ (by rfl) ((own_later Hor.out.drew hb2).alloc _) ⟨w5.heap.size, 0, none⟩ 1 1 [.int .i64 (V : Int)] (by rfl) (by rfl) (World.news_of_block (cs := #[.int .i64 (V : Int)]) (t := 3) (fr := (0, 0)) (heap_alloc_new _ _)) (by intro u hu; simp at hu; subst hu; rfl) (by omega) (by unfold maxLen; omega) (by omega) (by simp; omega) (w5.heap.size + 1) (by simp) ?_; intro g9 c9 w9 own9 hgrow hat9 _)
            | fail)
        have hb5 : Below w1.heap.size w1 w5 := Hbel.out.drew.trans (hb2.mono hsz)
        have Hb9 := Lib.hid ((hb5.alloc (by omega) (.cells #[.int .i64 (V : Int)] 3)).grown hgrow (by simp; omega) (fun b hb => Hlo.out b hb))
        have e1 : ns (Lf.take (q + 1)) = ns (Lf.take q) ++ [.int .i64 (V : Int)] := by rw [Htk.out, ns_append_one]
        rw [← e1] at own9
        have Ho9 := Lib.hid own9
        clear own9 hgrow hat9 hb5 hb2 hO5 e1 x0 x1 x2
        go_wp2_with fail
        go_roundw
        case rel => exact ⟨q + 1, by omega, by go_num, Ho9.out, Hb9.out⟩
        case measure => simp [intOf]; omega
      · obtain rfl : q = N1 := by omega
        have hle : decide ((q : Int) ≤ (N : Int)) = false := by have := HN1.out; simp; omega
        have hp : Lf.take q = Lf := by rw [HL.out, List.take_length]
        rw [hp] at hor
        have Hor := Lib.hid (own_base hs1 hor)
        have HB := Lib.hid (HB1.out.trans (hbel.mono hs1))
        clear hor hp
        have hnq : ¬ (q ≤ N) := by have := HN1.out; omega
        go_wp2_with fail
        all_goals first | (exfalso; omega) | skip
        go_ret2
        exact ⟨_, rfl, Hor.out, HB.out⟩

end Go.Proofs.Ytmgmkgjefplfdaa
