/- dropClue. -/
import Derived.Test.YtmgmkgjefplfdaaCat
namespace Go.Proofs.Ytmgmkgjefplfdaa
open Go.ChangeShapes Go.WideShapes Go.ChangeAt Go.RowKit
set_option linter.unusedVariables false


set_option maxHeartbeats 1600000 in
set_option maxRecDepth 20000 in
theorem drop_any (f n : Int) (b off : Nat) (l : List Clu) (N cap k : Nat) (w : World) (Hn : Hid (N = l.length)) (hk : k < N) (hN : N ≤ 6) (hcap : N ≤ cap) (hc4 : Hid (∀ i, i < N → Sat4 w b off l i)) :
    Calls Try.prog 86 #[.agg #[.int .i64 f, .int .i64 n, .slice (some ⟨b, off, none⟩) N cap], .int .i64 (k : Int)] w fun e w' => ∃ v, e = .returned (.agg #[.int .i64 f, .int .i64 n, v]) ∧ w'.ownsRow w.heap.size 25 4 v (N - 1) (ks (less l k)) ∧ Below w.heap.size w w' := by
  obtain ⟨W, hW, hbW, hsW, rX, rY⟩ := box2 w #[.int .i64 f, .int .i64 n, .slice (some ⟨b, off, none⟩) N cap] 35 #[.int .i64 0, .int .i64 0, .slice none 0 0] 35
  have HW := Lib.hid hW
  have HbW := Lib.hid hbW
  have x0 : W.cell? ⟨w.heap.size, 0, none⟩ = some (.int .i64 f) := cell_of_row _ _ _ _ _ _ rX
  have x1 : W.cell? ⟨w.heap.size, 1, none⟩ = some (.int .i64 n) := cell_of_row _ _ _ _ _ _ rX
  have x2 : W.cell? ⟨w.heap.size, 2, none⟩ = some (.slice (some ⟨b, off, none⟩) N cap) := cell_of_row _ _ _ _ _ _ rX
  have hk0 : (0 : Int) ≤ (k : Int) := by omega
  have hkc : (k : Int) ≤ (cap : Int) := by omega
  have hk3 : (0 : Int) ≤ (k : Int) + 1 := by omega
  have hk4 : (k : Int) + 1 ≤ (N : Int) := by omega
  have hk5 : (N : Int) ≤ (cap : Int) := by omega
  have hki : (k : Int) ≤ (N : Int) := by omega
  have hw1 : IntKind.i64.wrap ((k : Int) + 1) = (k : Int) + 1 := IntWalk.i64_in _ (by omega)
  have hw2 : ((k : Int) + 1).toNat = k + 1 := by omega
  obtain ⟨off2, hif, hoff⟩ := tail_at b off cap N k hcap hk
  have y0 : W.cell? ⟨w.heap.size + 1, 0, none⟩ = some (.int .i64 0) := cell_of_row _ _ _ _ _ _ rY
  have y1 : W.cell? ⟨w.heap.size + 1, 1, none⟩ = some (.int .i64 0) := cell_of_row _ _ _ _ _ _ rY
  have y2 : W.cell? ⟨w.heap.size + 1, 2, none⟩ = some (.slice none 0 0) := cell_of_row _ _ _ _ _ _ rY
  have gy : ∀ j, W.frozen? ⟨w.heap.size + 1, j, none⟩ = false := fun j => frozen_of_row _ _ _ _ _ rY
  have h10 : (W.alloc (.cells #[.slice (some ⟨b, off, none⟩) k cap, .slice (some ⟨b, off2, none⟩) (N - (k + 1)) (cap - (k + 1))] 33)).drew.cell? ⟨W.heap.size, 0, none⟩ = some (.slice (some ⟨b, off, none⟩) k cap) := by
    show (W.alloc _).cell? _ = _
    rw [cell_of_row _ _ _ _ _ _ (heap_alloc_new W _)]; rfl
  have h11 : (W.alloc (.cells #[.slice (some ⟨b, off, none⟩) k cap, .slice (some ⟨b, off2, none⟩) (N - (k + 1)) (cap - (k + 1))] 33)).drew.cell? ⟨W.heap.size, 1, none⟩ = some (.slice (some ⟨b, off2, none⟩) (N - (k + 1)) (cap - (k + 1))) := by
    show (W.alloc _).cell? _ = _
    rw [cell_of_row _ _ _ _ _ _ (heap_alloc_new W _)]; rfl
  have bd : Below W.heap.size W (W.alloc (.cells #[.slice (some ⟨b, off, none⟩) k cap, .slice (some ⟨b, off2, none⟩) (N - (k + 1)) (cap - (k + 1))] 33)).drew := ((Below.refl _ _).alloc (Nat.le_refl _) _).drew
  rw [hsW] at h10 h11
  have HCC := Lib.hid (concat_less _ (w.heap.size + 2) b off off2 cap (cap - (k + 1)) N k l Hn hk (by omega) h10 h11 (fun i hi => ((hc4.out i hi).kept hbW).kept bd) hoff)
  have Hbd := Lib.hid bd
  have HX0 := Lib.hid (And.intro x0 (And.intro x1 x2))
  have HY0 := Lib.hid (And.intro y0 (And.intro y1 (And.intro y2 gy)))
  have Hlen : Hid (N - 1 = (less l k).length) := Lib.hid (by rw [less_len (by rw [← Hn.out]; exact hk), ← Hn.out])
  have hWC := Lib.hid (fun (w1 : World) a m c => withClues_any f n (some ⟨b, off, none⟩) N cap a m c w1)
  clear hW rX rY h10 h11 bd hbW hoff
  go_enter Try.func86, Try.ntmps86
  go_upto_region 1 with (fail)
  rw [HW.out]
  go_region_held3 (fun w' => w'.cell? ⟨w.heap.size, 0, none⟩ = some (.int .i64 f) ∧ w'.cell? ⟨w.heap.size, 1, none⟩ = some (.int .i64 n) ∧ w'.cell? ⟨w.heap.size, 2, none⟩ = some (.slice (some ⟨b, off, none⟩) N cap))
    (first
      | exact ⟨x0, x1, x2⟩
      | go_keep
      | (go_split_ands
         refine ⟨?_, ?_, ?_⟩
         all_goals first | assumption | exact cell_old hb4 (by assumption) | exact cell_old hb5 (by assumption))
      | (go_split_ands
         refine ⟨?_, ?_, ?_⟩
         all_goals (simp [go_sem, *]; done)))
    (first
      | (go_at_call 95; (with_reducible refine HCC.out.mono ?_); rintro e w4 ⟨v4, rfl, own4, hb4⟩; obtain ⟨a4, c4, rfl, _⟩ := kown_shape own4 Hlen.out)
      | (go_at_call 92; (with_reducible refine (hWC.out w4 a4 (N - 1) c4).mono ?_); rintro e w5 ⟨rfl, hb5⟩; have hbw : Below W.heap.size W w5 := Hbd.out.trans ((hb4.trans (hb5.mono hb4.size)).mono Hbd.out.size); have y0 := cell_old hbw HY0.out.1; have y1 := cell_old hbw HY0.out.2.1; have y2 := cell_old hbw HY0.out.2.2.1; have gy : ∀ j, w5.frozen? ⟨w.heap.size + 1, j, none⟩ = false := (fun j => by rw [hbw.frozen (by show w.heap.size + 1 < W.heap.size; omega)]; exact HY0.out.2.2.2 j))
      | fail)
  all_goals (
    clear hw1 hw2 hif
    have Own5 := Lib.hid (own_later own4 hb5)
    have Hb5 := Lib.hid hbw
    clear own4 hb4 hb5 hbw
    have Own6 : Hid (w5.ownsRow (w.heap.size + 2) 25 4 (.slice a4 (N - 1) c4) (N - 1) (ks (less l k))) := Lib.hid (own_base (by have := Hbd.out.size; omega) Own5.out)
    have hb5 : Below w.heap.size w w5 := HbW.out.trans (Hb5.out.mono HbW.out.size)
    have HB := Lib.hid (((hb5.setCell (p := ⟨w.heap.size + 1, 0, none⟩) (by show w.heap.size ≤ w.heap.size + 1; omega) (.int .i64 f)).setCell (p := ⟨w.heap.size + 1, 1, none⟩) (by show w.heap.size ≤ w.heap.size + 1; omega) (.int .i64 n)).setCell (p := ⟨w.heap.size + 1, 2, none⟩) (by show w.heap.size ≤ w.heap.size + 1; omega) (.slice a4 (N - 1) c4))
    have HO := Lib.hid (ownsRow_setCell_below (ownsRow_setCell_below (ownsRow_setCell_below Own6.out (a := ⟨w.heap.size + 1, 0, none⟩) (by show w.heap.size + 1 < w.heap.size + 2; omega) (.int .i64 f)) (a := ⟨w.heap.size + 1, 1, none⟩) (by show w.heap.size + 1 < w.heap.size + 2; omega) (.int .i64 n)) (a := ⟨w.heap.size + 1, 2, none⟩) (by show w.heap.size + 1 < w.heap.size + 2; omega) (.slice a4 (N - 1) c4))
    obtain ⟨V, hV⟩ : ∃ V, ((w5.setCell ⟨w.heap.size + 1, 0, none⟩ (.int .i64 f)).setCell ⟨w.heap.size + 1, 1, none⟩ (.int .i64 n)).setCell ⟨w.heap.size + 1, 2, none⟩ (.slice a4 (N - 1) c4) = V := ⟨_, rfl⟩
    have z0 : V.cell? ⟨w.heap.size + 1, 0, none⟩ = some (.int .i64 f) := by rw [← hV]; simp [go_sem, y0]
    have z1 : V.cell? ⟨w.heap.size + 1, 1, none⟩ = some (.int .i64 n) := by rw [← hV]; simp [go_sem, y1]
    have z2 : V.cell? ⟨w.heap.size + 1, 2, none⟩ = some (.slice a4 (N - 1) c4) := by rw [← hV]; simp [go_sem, y2]
    rw [hV] at HB HO ⊢
    clear hV hb5
    go_wp2_with fail
    refine bodyPost_ret (v := .agg #[.int .i64 f, .int .i64 n, .slice a4 (N - 1) c4]) ?_ rfl ⟨_, rfl, own_base (by omega) HO.out, HB.out⟩
    simp [results, Try.results86, go_sem, z0, z1, z2])

end Go.Proofs.Ytmgmkgjefplfdaa
