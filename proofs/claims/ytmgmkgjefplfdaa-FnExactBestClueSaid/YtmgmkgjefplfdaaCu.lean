/- Clues cut. -/
import Derived.Test.YtmgmkgjefplfdaaWc
import Derived.Test.YtmgmkgjefplfdaaPzQ
import Derived.Test.YtmgmkgjefplfdaaSlc
namespace Go.Proofs.Ytmgmkgjefplfdaa
open Go.ChangeShapes Go.WideShapes Go.ChangeAt Go.RowKit
set_option linter.unusedVariables false


theorem clues_sub {w : World} {b off n : Nat} {l : List Clu} (hn : n = l.length) (h : ∀ i, i < n → Sat4 w b off l i) {i j : Nat} (hj : j ≤ n) (hi : i ≤ j) : ∀ k, k < j - i → Sat4 w b (off + i * 4) ((l.drop i).take (j - i)) k := by
  intro k hk
  have h1 := h (i + k) (by omega)
  have e : ∀ g : Clu → Int, g (((l.drop i).take (j - i)).getD k (0, 0, 0, 0)) = g (l.getD (i + k) (0, 0, 0, 0)) := fun g => by
    simp [List.getD_eq_getElem?_getD, hk]
  unfold Sat4 at h1 ⊢
  have e0 : k0 ((l.drop i).take (j - i)) k = k0 l (i + k) := e (·.1)
  have e1 : k1 ((l.drop i).take (j - i)) k = k1 l (i + k) := e (·.2.1)
  have e2 : k2 ((l.drop i).take (j - i)) k = k2 l (i + k) := e (·.2.2.1)
  have e3 : k3 ((l.drop i).take (j - i)) k = k3 l (i + k) := e (·.2.2.2)
  rw [e0, e1, e2, e3, show off + i * 4 + k * 4 = off + (i + k) * 4 by omega]
  exact h1
set_option maxRecDepth 20000 in
theorem cut_pos (f n : Int) (b off : Nat) (N cap i j off2 : Nat) (w : World) (hij : i ≤ j) (hj : j ≤ N) (hc : N ≤ cap) (hif : (if j = i then (some ⟨b, off, none⟩ : Option Addr) else some ⟨b, off + i * 4, none⟩) = some ⟨b, off2, none⟩) :
    Calls Try.prog 91 #[.agg #[.int .i64 f, .int .i64 n, .slice (some ⟨b, off, none⟩) N cap], .int .i64 (i : Int), .int .i64 (j : Int)] w fun e w' => e = .returned (.agg #[.int .i64 f, .int .i64 n, .slice (some ⟨b, off2, none⟩) (j - i) (j - i)]) ∧ Below w.heap.size w w' := by
  obtain ⟨W, hW, hbW, hsW, rX, rY⟩ := box2 w #[.int .i64 f, .int .i64 n, .slice (some ⟨b, off, none⟩) N cap] 35 #[.int .i64 0, .int .i64 0, .slice none 0 0] 35
  have HW := Lib.hid hW
  have HbW := Lib.hid hbW
  have x0 : W.cell? ⟨w.heap.size, 0, none⟩ = some (.int .i64 f) := cell_of_row _ _ _ _ _ _ rX
  have x1 : W.cell? ⟨w.heap.size, 1, none⟩ = some (.int .i64 n) := cell_of_row _ _ _ _ _ _ rX
  have x2 : W.cell? ⟨w.heap.size, 2, none⟩ = some (.slice (some ⟨b, off, none⟩) N cap) := cell_of_row _ _ _ _ _ _ rX
  have hi0 : (0 : Int) ≤ (i : Int) := by omega
  have hij' : (i : Int) ≤ (j : Int) := by omega
  have hjc : (j : Int) ≤ (cap : Int) := by omega
  have hWC := Lib.hid (fun (w1 : World) a => withClues_any f n (some ⟨b, off, none⟩) N cap a (j - i) (j - i) w1)
  have y0 : W.cell? ⟨w.heap.size + 1, 0, none⟩ = some (.int .i64 0) := cell_of_row _ _ _ _ _ _ rY
  have y1 : W.cell? ⟨w.heap.size + 1, 1, none⟩ = some (.int .i64 0) := cell_of_row _ _ _ _ _ _ rY
  have y2 : W.cell? ⟨w.heap.size + 1, 2, none⟩ = some (.slice none 0 0) := cell_of_row _ _ _ _ _ _ rY
  have gy : ∀ j, W.frozen? ⟨w.heap.size + 1, j, none⟩ = false := fun j => frozen_of_row _ _ _ _ _ rY
  clear hW rX rY
  go_enter Try.func91, Try.ntmps91
  go_upto_region 1 with (fail)
  rw [HW.out]
  go_region_with (first
    | (go_at_call 92; refine (hWC.out W.drew (some ⟨b, off2, none⟩)).mono ?_; rintro e w5 ⟨rfl, hb2⟩; have y0 := cell_old hb2 y0; have y1 := cell_old hb2 y1; have y2 := cell_old hb2 y2; have gy : ∀ j, w5.frozen? ⟨w.heap.size + 1, j, none⟩ = false := (fun j => by rw [hb2.frozen (by show w.heap.size + 1 < W.heap.size; omega)]; exact gy j))
    | fail)
  all_goals (
    have hb5 : Below w.heap.size w w5 := hbW.trans ((Below.refl W.heap.size W).drew.trans hb2 |>.mono hbW.size)
    have HB := Lib.hid (((hb5.setCell (p := ⟨w.heap.size + 1, 0, none⟩) (by show w.heap.size ≤ w.heap.size + 1; omega) (.int .i64 f)).setCell (p := ⟨w.heap.size + 1, 1, none⟩) (by show w.heap.size ≤ w.heap.size + 1; omega) (.int .i64 n)).setCell (p := ⟨w.heap.size + 1, 2, none⟩) (by show w.heap.size ≤ w.heap.size + 1; omega) (.slice (some ⟨b, off2, none⟩) (j - i) (j - i)))
    obtain ⟨V, hV⟩ : ∃ V, ((w5.setCell ⟨w.heap.size + 1, 0, none⟩ (.int .i64 f)).setCell ⟨w.heap.size + 1, 1, none⟩ (.int .i64 n)).setCell ⟨w.heap.size + 1, 2, none⟩ (.slice (some ⟨b, off2, none⟩) (j - i) (j - i)) = V := ⟨_, rfl⟩
    have z0 : V.cell? ⟨w.heap.size + 1, 0, none⟩ = some (.int .i64 f) := by rw [← hV]; simp [go_sem, y0]
    have z1 : V.cell? ⟨w.heap.size + 1, 1, none⟩ = some (.int .i64 n) := by rw [← hV]; simp [go_sem, y1]
    have z2 : V.cell? ⟨w.heap.size + 1, 2, none⟩ = some (.slice (some ⟨b, off2, none⟩) (j - i) (j - i)) := by rw [← hV]; simp [go_sem, y2]
    rw [hV] at HB ⊢
    clear hV hb5 hb2
    go_wp2_with fail
    refine bodyPost_ret (v := .agg #[.int .i64 f, .int .i64 n, .slice (some ⟨b, off2, none⟩) (j - i) (j - i)]) ?_ rfl ⟨rfl, HB.out⟩
    simp [results, Try.results91, go_sem, z0, z1, z2])
/-- The first clues of a puzzle. -/
theorem cut_first (f n : Int) (b : Nat) (l : List Clu) (N cap j : Nat) (w : World) (HN : Hid (N = l.length)) (hj : j ≤ N) (hc : N ≤ cap) (Hc : CluesAt w (some ⟨b, 0, none⟩) l) :
    Calls Try.prog 91 #[.agg #[.int .i64 f, .int .i64 n, .slice (some ⟨b, 0, none⟩) N cap], .int .i64 0, .int .i64 (j : Int)] w fun e w' => e = .returned (.agg #[.int .i64 f, .int .i64 n, .slice (some ⟨b, 0, none⟩) j j]) ∧ Below w.heap.size w w' := by
  have h := cut_pos f n b 0 N cap 0 j 0 w (Nat.zero_le _) hj hc (by simp)
  simpa using h
theorem clues_take {w : World} {b : Nat} {l : List Clu} (h : CluesAt w (some ⟨b, 0, none⟩) l) (j : Nat) : CluesAt w (some ⟨b, 0, none⟩) (l.take j) := by
  rcases h with h | ⟨b', off, e, hs⟩
  · subst h; exact .inl (by simp)
  · refine .inr ⟨b', off, e, fun i hi => ?_⟩
    rw [List.length_take] at hi
    have h1 := hs i (by omega)
    have e : ∀ g : Clu → Int, g ((l.take j).getD i (0, 0, 0, 0)) = g (l.getD i (0, 0, 0, 0)) := fun g => by simp [List.getD_eq_getElem?_getD, show i < j by omega]
    have e0 : k0 (l.take j) i = k0 l i := e (·.1)
    have e1 : k1 (l.take j) i = k1 l i := e (·.2.1)
    have e2 : k2 (l.take j) i = k2 l i := e (·.2.2.1)
    have e3 : k3 (l.take j) i = k3 l i := e (·.2.2.2)
    unfold Sat4 at h1 ⊢
    rw [e0, e1, e2, e3]
    exact h1
theorem all_take {l : List Clu} {p : Clu → Bool} (h : l.all p = true) (j : Nat) : (l.take j).all p = true := by
  rw [List.all_eq_true] at h ⊢
  exact fun c hc => h c (List.mem_of_mem_take hc)

end Go.Proofs.Ytmgmkgjefplfdaa
