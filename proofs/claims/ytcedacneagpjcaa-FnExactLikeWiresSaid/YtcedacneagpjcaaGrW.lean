/- The wires of each group: the model and the program. -/
import Derived.Test.YtcedacneagpjcaaGr
namespace Go.Proofs.Ytcedacneagpjcaa
open Go.ChangeShapes Go.WideShapes Go.ChangeAt Go.RowKit
set_option linter.unusedVariables false


set_option maxHeartbeats 1600000 in
set_option maxRecDepth 20000 in
theorem cbGroups_pos (b off cap : Nat) (l : List Int) (n : Nat) (w : World) (Hn : Hid (n = l.length)) (Hg : Hid (grB l = true))
    (Hc : Hid (∀ i, i < n → w.cell? ⟨b, off + i, none⟩ = some (.int .i64 (na l i)))) :
    Calls Try.prog 61 #[.slice (some ⟨b, off, none⟩) n cap] w fun e w' => ∃ v X, e = .returned v ∧ OwnSS w' w.heap.size v X (gl l n) ∧ Below w.heap.size w w' := by
  obtain ⟨i3, hi3, hz30, hz31, hz32⟩ := info_parts info3
  obtain ⟨i22, hi22, hz220, hz221, hz222⟩ := info_parts info22
  have hn12 : n ≤ 12 := by have := grB_len Hg.out; have := Hn.out; omega
  go_enter Try.func61, Try.ntmps61
  go_wp2_with fail
  go_loopw [3, 8] (fun v i wr => ∃ (k : Nat) (X : List Value), k ≤ n ∧ i = .int .i64 k ∧ OwnSS wr w.heap.size v X (gl l k) ∧ Below w.heap.size w wr) (fun _ i _ => n - (intOf i).toNat)
  case atStart => exact ⟨0, [], Nat.zero_le _, rfl, OwnSS.nil _ _, Below.refl _ _⟩
  case round =>
    obtain ⟨k, X, hk, rfl, hor, hbel⟩ := hrel
    by_cases hlt : k < n
    · have hkl : k < l.length := by have := Hn.out; omega
      have h0 := cell_old hbel (Hc.out k hlt)
      have hga := grB_at Hg.out hkl
      have hgl := gl_length l k (grB_to Hg.out (by omega))
      have hnl := nx_le l k
      have HRows := Lib.hid (row_gl_len l k (grB_to Hg.out (by omega)))
      obtain ⟨G, hG⟩ := Int.eq_ofNat_of_zero_le hga.1
      have Hgs : Hid (gl l (k + 1) = gput (gl l k) G (k : Int)) := by show _ = _; simp only [gl, hG]; rfl
      obtain ⟨LU, hLU⟩ : ∃ LU, LU = (gl l k).length := ⟨_, rfl⟩
      have HLU := Lib.hid hLU
      have hGL : G ≤ LU := by omega
      have hLU12 : LU ≤ 12 := by omega
      rw [hG] at h0
      obtain ⟨ao2, cap2, rfl, _⟩ := hor.reads
      rw [← hLU] at hor ⊢
      have Hor := Lib.hid hor
      have hsz := hbel.size
      have Hbel := Lib.hid hbel
      have hxb : w.heap.size ≤ wr.heap.size := hsz
      have HG := Lib.hid hG
      clear hor hbel hga hgl hnl hG hLU
      by_cases hPU : G = LU
      · have hte : ((G : Int) == (LU : Int)) = true := by simp; omega
        have hLUl : (gl l k).length = LU := HLU.out.symm
        obtain ⟨LP, hLP⟩ : ∃ LP, LP = gpad (gl l k) G := ⟨_, rfl⟩
        have HLP := Lib.hid hLP
        have hpe : gl l k ++ [[]] = LP := by rw [hLP]; unfold gpad; rw [if_pos (by rw [hLUl, hPU])]
        have Hpe := Lib.hid hpe
        have Hor1 : Hid (OwnSS (wr.alloc (.cells #[.slice none 0 0] 22)) w.heap.size (.slice ao2 LU cap2) X (gl l k)) := Hor.out.alloc _
        have Hbel1 : Hid (Below w.heap.size w (wr.alloc (.cells #[.slice none 0 0] 22))) := Hbel.out.alloc hsz _
        have HLUl := Lib.hid hLUl
        clear hLP hpe hPU hLUl
        go_wp2_with (at_builtin; refine push_row _ rfl _ _ 39 rfl w.heap.size i22 Try.underlying39 hi22 hz220 hz221 hz222 _ X (gl l k) LU HLUl.out rfl Hor1.out (by omega) (.slice none 0 0) [] (World.ownsRow_nil _ _ _ _) (fun b h => by cases h) (fun i y b _ _ h => by cases h) 1 wr.heap.size rfl (by rw [cell_of_row _ _ _ _ _ _ (heap_alloc_new wr _)]; rfl) rfl (by simp; omega) ?_)
        intro v6 w6 own6 hgr6 hat6
        have Hb6 : Hid (Below w.heap.size w w6) := Hbel1.out.grown hgr6 (by simp; omega) (fun b hb => (Hor1.out.1.lt b hb).1)
        rw [Hpe.out] at own6
        have Hor6 := Lib.hid own6
        obtain ⟨X6, hX6⟩ : ∃ X6, X6 = X ++ [.slice none 0 0] := ⟨_, rfl⟩
        rw [← hX6] at Hor6
        clear own6 hgr6 hat6 hX6 Hor Hor1 Hbel Hbel1
        have hPL : G < LP.length := by rw [HLP.out]; simp only [gpad_length]; rw [← HLU.out]; split <;> omega
        have hPL2 : LP.length ≤ 13 := by rw [HLP.out]; simp only [gpad_length]; rw [← HLU.out]; split <;> omega
        obtain ⟨g2, cap7, rfl, hg2⟩ := Hor6.out.outer (by omega)
        obtain ⟨a7, c7, hX7, hc7, own7⟩ := Hor6.out.cellOf rfl G hPL
        obtain ⟨m, hm⟩ : ∃ m, m = (row LP G).length := ⟨_, rfl⟩
        have hm12 : m ≤ 12 := by rw [hm, HLP.out, row_append_nil]; have := HRows.out G; omega
        rw [← hm] at hX7 hc7 own7
        have hne7 : (Value.slice a7 m c7).ownBlock ≠ some g2 := fun h => (Hor6.out.2.2.1 G _ _ hX7 (List.getElem?_eq_getElem hPL)).2 g2 h rfl
        have Hm := Lib.hid hm
        have hlt2 : g2 < w6.heap.size := (Hor6.out.1.lt g2 rfl).2
        have bd : Below w6.heap.size w6 (w6.alloc (.cells #[.int .i64 (k : Int)] 3)) := (Below.refl w6.heap.size w6).alloc (Nat.le_refl _) _
        have Hrow7 := Lib.hid (own_later own7 bd)
        have Hor7 := Lib.hid (Hor6.out.later bd)
        have Hrw7 : Hid ((w6.alloc (.cells #[.int .i64 (k : Int)] 3)).ownsRow w.heap.size 22 1 (.slice (some ⟨g2, 0, none⟩) LP.length cap7) LP.length X6) := Hor7.out.1
        have HC7 := Lib.hid (cell_old bd hc7)
        have hs6 := Hb6.out.size
        have Hb7 := Lib.hid (Hb6.out.trans (bd.mono hs6))
        have hszW : (w6.alloc (.cells #[.int .i64 (k : Int)] 3)).heap.size = w6.heap.size + 1 := by simp
        have hck : (w6.alloc (.cells #[.int .i64 (k : Int)] 3)).cell? ⟨w6.heap.size, 0, none⟩ = some (.int .i64 (k : Int)) := by rw [cell_of_row _ _ _ _ _ _ (heap_alloc_new w6 _)]; rfl
        have Hck := Lib.hid hck
        have hP0 : (0 : Int) ≤ (G : Int) := by omega
        have hP1 : (G : Int) < (LP.length : Int) := by omega
        have HX7 := Lib.hid hX7
        have HPL := Lib.hid hPL
        generalize hLn : LP.length = LN at *
        have HLn := Lib.hid hLn
        clear hm own7 bd hX7 hck hLn hPL
        go_wp2_with (at_builtin; refine push_num _ rfl _ _ 22 rfl w.heap.size i3 Try.underlying22 hi3 hz30 hz31 hz32 (.slice a7 m c7) (row LP G) m rfl Hrow7.out (by omega) (k : Int) 1 w6.heap.size rfl Hck.out (by rw [hszW]; omega) ?_)
        intro g9 c9 w9 own9 hgr9 hat9
        have hle9 : (row LP G ++ [(k : Int)]).length = m + 1 := by rw [List.length_append, ← Hm.out]; rfl
        have z1 := (World.cell?_of_block (a := ⟨g2, G, none⟩) (hgr9.block g2 (by rw [hszW]; omega) (fun h => hne7 h.symm))).trans HC7.out
        have z3 := (Hrw7.out.kept hgr9 (.inr (fun h => hne7 h.symm))).frozenAt G
        have hst := OwnSS.replace (w9 := w9) (H := (w6.alloc (.cells #[.int .i64 (k : Int)] 3)).heap.size) Hor7.out HLn.out.symm G (by rw [HLn.out]; exact HPL.out) (.slice a7 m c7) (.slice (some ⟨g9, 0, none⟩) (m + 1) c9) (row LP G ++ [(k : Int)]) HX7.out hgr9 (by rw [hle9]; exact own9) (by rcases hat9 with e | e; exact .inl e.symm; exact .inr (by rw [hszW, e]; rfl)) (Nat.le_refl _)
        have Hst : Hid (OwnSS (w9.setCell ⟨g2, G, none⟩ (.slice (some ⟨g9, 0, none⟩) (m + 1) c9)) w.heap.size (.slice (some ⟨g2, 0, none⟩) LN cap7) (X6.set G (.slice (some ⟨g9, 0, none⟩) (m + 1) c9)) (gl l (k + 1))) := by
          show OwnSS _ _ _ _ _
          rw [Hgs.out]
          unfold gput
          rw [← HLP.out]
          exact hst
        have Hbs : Hid (Below w.heap.size w (w9.setCell ⟨g2, G, none⟩ (.slice (some ⟨g9, 0, none⟩) (m + 1) c9))) := (Hb7.out.grown hgr9 (by rw [hszW]; omega) (fun b hb => (Hrow7.out.lt b hb).1)).setCell (p := ⟨g2, G, none⟩) hg2 _
        clear own9 hgr9 hat9 hst hle9 Hrow7 Hrw7 Hor7 HC7 Hb7 Hor6 Hb6
        go_wp2_with fail
        go_roundw
        case rel => exact ⟨k + 1, _, by omega, by go_num, Hst.out, Hbs.out⟩
        case measure => simp [intOf]; omega
      · have hte : ((G : Int) == (LU : Int)) = false := by simp; omega
        have hne1 : ¬ (G : Int) = (LU : Int) := by omega
        have hne2 : ¬ G = LU := hPU
        obtain ⟨LP, hLP⟩ : ∃ LP, LP = gpad (gl l k) G := ⟨_, rfl⟩
        have HLP := Lib.hid hLP
        have hpe : gl l k = LP := by rw [hLP]; unfold gpad; rw [if_neg (by rw [← HLU.out]; exact hPU)]
        obtain ⟨w6, hw6⟩ : ∃ w6, w6 = wr := ⟨_, rfl⟩
        obtain ⟨X6, hX6⟩ : ∃ X6, X6 = X := ⟨_, rfl⟩
        have Hor6 : Hid (OwnSS w6 w.heap.size (.slice ao2 LU cap2) X6 LP) := by show OwnSS _ _ _ _ _; rw [hw6, hX6, ← hpe]; exact Hor.out
        have Hb6 : Hid (Below w.heap.size w w6) := by show Below _ _ _; rw [hw6]; exact Hbel.out
        have HLUP : LU = LP.length := by rw [HLU.out, hpe]
        subst hw6
        subst hX6
        subst HLUP
        clear hLP hpe hPU Hor Hbel
        have hPL : G < LP.length := by rw [HLP.out]; simp only [gpad_length]; rw [← HLU.out]; split <;> omega
        have hPL2 : LP.length ≤ 13 := by rw [HLP.out]; simp only [gpad_length]; rw [← HLU.out]; split <;> omega
        obtain ⟨g2, cap7, hv2, hg2⟩ := Hor6.out.outer (by omega)
        simp only [Value.slice.injEq, true_and] at hv2
        obtain ⟨rfl, hv4⟩ := hv2
        have hv5 := hv4.symm
        subst hv5
        obtain ⟨a7, c7, hX7, hc7, own7⟩ := Hor6.out.cellOf rfl G hPL
        obtain ⟨m, hm⟩ : ∃ m, m = (row LP G).length := ⟨_, rfl⟩
        have hm12 : m ≤ 12 := by rw [hm, HLP.out, row_append_nil]; have := HRows.out G; omega
        rw [← hm] at hX7 hc7 own7
        have hne7 : (Value.slice a7 m c7).ownBlock ≠ some g2 := fun h => (Hor6.out.2.2.1 G _ _ hX7 (List.getElem?_eq_getElem hPL)).2 g2 h rfl
        have Hm := Lib.hid hm
        have hlt2 : g2 < w6.heap.size := (Hor6.out.1.lt g2 rfl).2
        have bd : Below w6.heap.size w6 (w6.alloc (.cells #[.int .i64 (k : Int)] 3)) := (Below.refl w6.heap.size w6).alloc (Nat.le_refl _) _
        have Hrow7 := Lib.hid (own_later own7 bd)
        have Hor7 := Lib.hid (Hor6.out.later bd)
        have Hrw7 : Hid ((w6.alloc (.cells #[.int .i64 (k : Int)] 3)).ownsRow w.heap.size 22 1 (.slice (some ⟨g2, 0, none⟩) LP.length cap7) LP.length X6) := Hor7.out.1
        have HC7 := Lib.hid (cell_old bd hc7)
        have hs6 := Hb6.out.size
        have Hb7 := Lib.hid (Hb6.out.trans (bd.mono hs6))
        have hszW : (w6.alloc (.cells #[.int .i64 (k : Int)] 3)).heap.size = w6.heap.size + 1 := by simp
        have hck : (w6.alloc (.cells #[.int .i64 (k : Int)] 3)).cell? ⟨w6.heap.size, 0, none⟩ = some (.int .i64 (k : Int)) := by rw [cell_of_row _ _ _ _ _ _ (heap_alloc_new w6 _)]; rfl
        have Hck := Lib.hid hck
        have hP0 : (0 : Int) ≤ (G : Int) := by omega
        have hP1 : (G : Int) < (LP.length : Int) := by omega
        have HX7 := Lib.hid hX7
        have HPL := Lib.hid hPL
        generalize hLn : LP.length = LN at *
        have HLn := Lib.hid hLn
        clear hm own7 bd hX7 hck hLn hPL
        go_wp2_with (at_builtin; refine push_num _ rfl _ _ 22 rfl w.heap.size i3 Try.underlying22 hi3 hz30 hz31 hz32 (.slice a7 m c7) (row LP G) m rfl Hrow7.out (by omega) (k : Int) 1 w6.heap.size rfl Hck.out (by rw [hszW]; omega) ?_)
        intro g9 c9 w9 own9 hgr9 hat9
        have hle9 : (row LP G ++ [(k : Int)]).length = m + 1 := by rw [List.length_append, ← Hm.out]; rfl
        have z1 := (World.cell?_of_block (a := ⟨g2, G, none⟩) (hgr9.block g2 (by rw [hszW]; omega) (fun h => hne7 h.symm))).trans HC7.out
        have z3 := (Hrw7.out.kept hgr9 (.inr (fun h => hne7 h.symm))).frozenAt G
        have hst := OwnSS.replace (w9 := w9) (H := (w6.alloc (.cells #[.int .i64 (k : Int)] 3)).heap.size) Hor7.out HLn.out.symm G (by rw [HLn.out]; exact HPL.out) (.slice a7 m c7) (.slice (some ⟨g9, 0, none⟩) (m + 1) c9) (row LP G ++ [(k : Int)]) HX7.out hgr9 (by rw [hle9]; exact own9) (by rcases hat9 with e | e; exact .inl e.symm; exact .inr (by rw [hszW, e]; rfl)) (Nat.le_refl _)
        have Hst : Hid (OwnSS (w9.setCell ⟨g2, G, none⟩ (.slice (some ⟨g9, 0, none⟩) (m + 1) c9)) w.heap.size (.slice (some ⟨g2, 0, none⟩) LN cap7) (X6.set G (.slice (some ⟨g9, 0, none⟩) (m + 1) c9)) (gl l (k + 1))) := by
          show OwnSS _ _ _ _ _
          rw [Hgs.out]
          unfold gput
          rw [← HLP.out]
          exact hst
        have Hbs : Hid (Below w.heap.size w (w9.setCell ⟨g2, G, none⟩ (.slice (some ⟨g9, 0, none⟩) (m + 1) c9))) := (Hb7.out.grown hgr9 (by rw [hszW]; omega) (fun b hb => (Hrow7.out.lt b hb).1)).setCell (p := ⟨g2, G, none⟩) hg2 _
        clear own9 hgr9 hat9 hst hle9 Hrow7 Hrw7 Hor7 HC7 Hb7 Hor6 Hb6
        go_wp2_with fail
        go_roundw
        case rel => exact ⟨k + 1, _, by omega, by go_num, Hst.out, Hbs.out⟩
        case measure => simp [intOf]; omega
    · obtain rfl : k = n := by omega
      have Hor := Lib.hid hor
      clear hor
      go_wp2_with fail
      go_ret
      exact ⟨_, X, rfl, Hor.out, hbel⟩

set_option maxRecDepth 20000 in
theorem cbGroups_any (ao : Option Addr) (cap : Nat) (l : List Int) (n : Nat) (w : World) (Hn : Hid (n = l.length)) (Hg : Hid (grB l = true)) (hc : NumsAt w ao l) :
    Calls Try.prog 61 #[.slice ao n cap] w fun e w' => ∃ v X, e = .returned v ∧ OwnSS w' w.heap.size v X (gl l n) ∧ Below w.heap.size w w' := by
  rcases hc with h | ⟨b, off, rfl, hc⟩
  · subst h; have := grB_len Hg.out; simp at this
  · exact cbGroups_pos b off cap l n w Hn Hg (by rw [Hn.out]; exact hc)

set_option maxHeartbeats 1600000 in
set_option maxRecDepth 20000 in
theorem groupsOf_pos (b off cap : Nat) (l : List Int) (n : Nat) (w : World) (Hn : Hid (n = l.length)) (Hg : Hid (grB l = true))
    (Hc : Hid (∀ i, i < n → w.cell? ⟨b, off + i, none⟩ = some (.int .i64 (na l i)))) :
    Calls Try.prog 65 #[.slice (some ⟨b, off, none⟩) n cap] w fun e w' => ∃ v X, e = .returned v ∧ OwnSS w' w.heap.size v X (gl l n) ∧ Below w.heap.size w w' := by
  obtain ⟨i3, hi3, hz30, hz31, hz32⟩ := info_parts info3
  obtain ⟨i22, hi22, hz220, hz221, hz222⟩ := info_parts info22
  have hn12 : n ≤ 12 := by have := grB_len Hg.out; have := Hn.out; omega
  go_enter Try.func65, Try.ntmps65
  go_wp2_with fail
  go_loopw [3, 8] (fun v i wr => ∃ (k : Nat) (X : List Value), k ≤ n ∧ i = .int .i64 k ∧ OwnSS wr w.heap.size v X (gl l k) ∧ Below w.heap.size w wr) (fun _ i _ => n - (intOf i).toNat)
  case atStart => exact ⟨0, [], Nat.zero_le _, rfl, OwnSS.nil _ _, Below.refl _ _⟩
  case round =>
    obtain ⟨k, X, hk, rfl, hor, hbel⟩ := hrel
    by_cases hlt : k < n
    · have hkl : k < l.length := by have := Hn.out; omega
      have h0 := cell_old hbel (Hc.out k hlt)
      have hga := grB_at Hg.out hkl
      have hgl := gl_length l k (grB_to Hg.out (by omega))
      have hnl := nx_le l k
      have HRows := Lib.hid (row_gl_len l k (grB_to Hg.out (by omega)))
      obtain ⟨G, hG⟩ := Int.eq_ofNat_of_zero_le hga.1
      have Hgs : Hid (gl l (k + 1) = gput (gl l k) G (k : Int)) := by show _ = _; simp only [gl, hG]; rfl
      obtain ⟨LU, hLU⟩ : ∃ LU, LU = (gl l k).length := ⟨_, rfl⟩
      have HLU := Lib.hid hLU
      have hGL : G ≤ LU := by omega
      have hLU12 : LU ≤ 12 := by omega
      rw [hG] at h0
      obtain ⟨ao2, cap2, rfl, _⟩ := hor.reads
      rw [← hLU] at hor ⊢
      have Hor := Lib.hid hor
      have hsz := hbel.size
      have Hbel := Lib.hid hbel
      have hxb : w.heap.size ≤ wr.heap.size := hsz
      have HG := Lib.hid hG
      clear hor hbel hga hgl hnl hG hLU
      by_cases hPU : G = LU
      · have hte : ((G : Int) == (LU : Int)) = true := by simp; omega
        have hLUl : (gl l k).length = LU := HLU.out.symm
        obtain ⟨LP, hLP⟩ : ∃ LP, LP = gpad (gl l k) G := ⟨_, rfl⟩
        have HLP := Lib.hid hLP
        have hpe : gl l k ++ [[]] = LP := by rw [hLP]; unfold gpad; rw [if_pos (by rw [hLUl, hPU])]
        have Hpe := Lib.hid hpe
        have Hor1 : Hid (OwnSS (wr.alloc (.cells #[.slice none 0 0] 22)) w.heap.size (.slice ao2 LU cap2) X (gl l k)) := Hor.out.alloc _
        have Hbel1 : Hid (Below w.heap.size w (wr.alloc (.cells #[.slice none 0 0] 22))) := Hbel.out.alloc hsz _
        have HLUl := Lib.hid hLUl
        clear hLP hpe hPU hLUl
        go_wp2_with (at_builtin; refine push_row _ rfl _ _ 39 rfl w.heap.size i22 Try.underlying39 hi22 hz220 hz221 hz222 _ X (gl l k) LU HLUl.out rfl Hor1.out (by omega) (.slice none 0 0) [] (World.ownsRow_nil _ _ _ _) (fun b h => by cases h) (fun i y b _ _ h => by cases h) 1 wr.heap.size rfl (by rw [cell_of_row _ _ _ _ _ _ (heap_alloc_new wr _)]; rfl) rfl (by simp; omega) ?_)
        intro v6 w6 own6 hgr6 hat6
        have Hb6 : Hid (Below w.heap.size w w6) := Hbel1.out.grown hgr6 (by simp; omega) (fun b hb => (Hor1.out.1.lt b hb).1)
        rw [Hpe.out] at own6
        have Hor6 := Lib.hid own6
        obtain ⟨X6, hX6⟩ : ∃ X6, X6 = X ++ [.slice none 0 0] := ⟨_, rfl⟩
        rw [← hX6] at Hor6
        clear own6 hgr6 hat6 hX6 Hor Hor1 Hbel Hbel1
        have hPL : G < LP.length := by rw [HLP.out]; simp only [gpad_length]; rw [← HLU.out]; split <;> omega
        have hPL2 : LP.length ≤ 13 := by rw [HLP.out]; simp only [gpad_length]; rw [← HLU.out]; split <;> omega
        obtain ⟨g2, cap7, rfl, hg2⟩ := Hor6.out.outer (by omega)
        obtain ⟨a7, c7, hX7, hc7, own7⟩ := Hor6.out.cellOf rfl G hPL
        obtain ⟨m, hm⟩ : ∃ m, m = (row LP G).length := ⟨_, rfl⟩
        have hm12 : m ≤ 12 := by rw [hm, HLP.out, row_append_nil]; have := HRows.out G; omega
        rw [← hm] at hX7 hc7 own7
        have hne7 : (Value.slice a7 m c7).ownBlock ≠ some g2 := fun h => (Hor6.out.2.2.1 G _ _ hX7 (List.getElem?_eq_getElem hPL)).2 g2 h rfl
        have Hm := Lib.hid hm
        have hlt2 : g2 < w6.heap.size := (Hor6.out.1.lt g2 rfl).2
        have bd : Below w6.heap.size w6 (w6.alloc (.cells #[.int .i64 (k : Int)] 3)) := (Below.refl w6.heap.size w6).alloc (Nat.le_refl _) _
        have Hrow7 := Lib.hid (own_later own7 bd)
        have Hor7 := Lib.hid (Hor6.out.later bd)
        have Hrw7 : Hid ((w6.alloc (.cells #[.int .i64 (k : Int)] 3)).ownsRow w.heap.size 22 1 (.slice (some ⟨g2, 0, none⟩) LP.length cap7) LP.length X6) := Hor7.out.1
        have HC7 := Lib.hid (cell_old bd hc7)
        have hs6 := Hb6.out.size
        have Hb7 := Lib.hid (Hb6.out.trans (bd.mono hs6))
        have hszW : (w6.alloc (.cells #[.int .i64 (k : Int)] 3)).heap.size = w6.heap.size + 1 := by simp
        have hck : (w6.alloc (.cells #[.int .i64 (k : Int)] 3)).cell? ⟨w6.heap.size, 0, none⟩ = some (.int .i64 (k : Int)) := by rw [cell_of_row _ _ _ _ _ _ (heap_alloc_new w6 _)]; rfl
        have Hck := Lib.hid hck
        have hP0 : (0 : Int) ≤ (G : Int) := by omega
        have hP1 : (G : Int) < (LP.length : Int) := by omega
        have HX7 := Lib.hid hX7
        have HPL := Lib.hid hPL
        generalize hLn : LP.length = LN at *
        have HLn := Lib.hid hLn
        clear hm own7 bd hX7 hck hLn hPL
        go_wp2_with (at_builtin; refine push_num _ rfl _ _ 22 rfl w.heap.size i3 Try.underlying22 hi3 hz30 hz31 hz32 (.slice a7 m c7) (row LP G) m rfl Hrow7.out (by omega) (k : Int) 1 w6.heap.size rfl Hck.out (by rw [hszW]; omega) ?_)
        intro g9 c9 w9 own9 hgr9 hat9
        have hle9 : (row LP G ++ [(k : Int)]).length = m + 1 := by rw [List.length_append, ← Hm.out]; rfl
        have z1 := (World.cell?_of_block (a := ⟨g2, G, none⟩) (hgr9.block g2 (by rw [hszW]; omega) (fun h => hne7 h.symm))).trans HC7.out
        have z3 := (Hrw7.out.kept hgr9 (.inr (fun h => hne7 h.symm))).frozenAt G
        have hst := OwnSS.replace (w9 := w9) (H := (w6.alloc (.cells #[.int .i64 (k : Int)] 3)).heap.size) Hor7.out HLn.out.symm G (by rw [HLn.out]; exact HPL.out) (.slice a7 m c7) (.slice (some ⟨g9, 0, none⟩) (m + 1) c9) (row LP G ++ [(k : Int)]) HX7.out hgr9 (by rw [hle9]; exact own9) (by rcases hat9 with e | e; exact .inl e.symm; exact .inr (by rw [hszW, e]; rfl)) (Nat.le_refl _)
        have Hst : Hid (OwnSS (w9.setCell ⟨g2, G, none⟩ (.slice (some ⟨g9, 0, none⟩) (m + 1) c9)) w.heap.size (.slice (some ⟨g2, 0, none⟩) LN cap7) (X6.set G (.slice (some ⟨g9, 0, none⟩) (m + 1) c9)) (gl l (k + 1))) := by
          show OwnSS _ _ _ _ _
          rw [Hgs.out]
          unfold gput
          rw [← HLP.out]
          exact hst
        have Hbs : Hid (Below w.heap.size w (w9.setCell ⟨g2, G, none⟩ (.slice (some ⟨g9, 0, none⟩) (m + 1) c9))) := (Hb7.out.grown hgr9 (by rw [hszW]; omega) (fun b hb => (Hrow7.out.lt b hb).1)).setCell (p := ⟨g2, G, none⟩) hg2 _
        clear own9 hgr9 hat9 hst hle9 Hrow7 Hrw7 Hor7 HC7 Hb7 Hor6 Hb6
        go_wp2_with fail
        go_roundw
        case rel => exact ⟨k + 1, _, by omega, by go_num, Hst.out, Hbs.out⟩
        case measure => simp [intOf]; omega
      · have hte : ((G : Int) == (LU : Int)) = false := by simp; omega
        have hne1 : ¬ (G : Int) = (LU : Int) := by omega
        have hne2 : ¬ G = LU := hPU
        obtain ⟨LP, hLP⟩ : ∃ LP, LP = gpad (gl l k) G := ⟨_, rfl⟩
        have HLP := Lib.hid hLP
        have hpe : gl l k = LP := by rw [hLP]; unfold gpad; rw [if_neg (by rw [← HLU.out]; exact hPU)]
        obtain ⟨w6, hw6⟩ : ∃ w6, w6 = wr := ⟨_, rfl⟩
        obtain ⟨X6, hX6⟩ : ∃ X6, X6 = X := ⟨_, rfl⟩
        have Hor6 : Hid (OwnSS w6 w.heap.size (.slice ao2 LU cap2) X6 LP) := by show OwnSS _ _ _ _ _; rw [hw6, hX6, ← hpe]; exact Hor.out
        have Hb6 : Hid (Below w.heap.size w w6) := by show Below _ _ _; rw [hw6]; exact Hbel.out
        have HLUP : LU = LP.length := by rw [HLU.out, hpe]
        subst hw6
        subst hX6
        subst HLUP
        clear hLP hpe hPU Hor Hbel
        have hPL : G < LP.length := by rw [HLP.out]; simp only [gpad_length]; rw [← HLU.out]; split <;> omega
        have hPL2 : LP.length ≤ 13 := by rw [HLP.out]; simp only [gpad_length]; rw [← HLU.out]; split <;> omega
        obtain ⟨g2, cap7, hv2, hg2⟩ := Hor6.out.outer (by omega)
        simp only [Value.slice.injEq, true_and] at hv2
        obtain ⟨rfl, hv4⟩ := hv2
        have hv5 := hv4.symm
        subst hv5
        obtain ⟨a7, c7, hX7, hc7, own7⟩ := Hor6.out.cellOf rfl G hPL
        obtain ⟨m, hm⟩ : ∃ m, m = (row LP G).length := ⟨_, rfl⟩
        have hm12 : m ≤ 12 := by rw [hm, HLP.out, row_append_nil]; have := HRows.out G; omega
        rw [← hm] at hX7 hc7 own7
        have hne7 : (Value.slice a7 m c7).ownBlock ≠ some g2 := fun h => (Hor6.out.2.2.1 G _ _ hX7 (List.getElem?_eq_getElem hPL)).2 g2 h rfl
        have Hm := Lib.hid hm
        have hlt2 : g2 < w6.heap.size := (Hor6.out.1.lt g2 rfl).2
        have bd : Below w6.heap.size w6 (w6.alloc (.cells #[.int .i64 (k : Int)] 3)) := (Below.refl w6.heap.size w6).alloc (Nat.le_refl _) _
        have Hrow7 := Lib.hid (own_later own7 bd)
        have Hor7 := Lib.hid (Hor6.out.later bd)
        have Hrw7 : Hid ((w6.alloc (.cells #[.int .i64 (k : Int)] 3)).ownsRow w.heap.size 22 1 (.slice (some ⟨g2, 0, none⟩) LP.length cap7) LP.length X6) := Hor7.out.1
        have HC7 := Lib.hid (cell_old bd hc7)
        have hs6 := Hb6.out.size
        have Hb7 := Lib.hid (Hb6.out.trans (bd.mono hs6))
        have hszW : (w6.alloc (.cells #[.int .i64 (k : Int)] 3)).heap.size = w6.heap.size + 1 := by simp
        have hck : (w6.alloc (.cells #[.int .i64 (k : Int)] 3)).cell? ⟨w6.heap.size, 0, none⟩ = some (.int .i64 (k : Int)) := by rw [cell_of_row _ _ _ _ _ _ (heap_alloc_new w6 _)]; rfl
        have Hck := Lib.hid hck
        have hP0 : (0 : Int) ≤ (G : Int) := by omega
        have hP1 : (G : Int) < (LP.length : Int) := by omega
        have HX7 := Lib.hid hX7
        have HPL := Lib.hid hPL
        generalize hLn : LP.length = LN at *
        have HLn := Lib.hid hLn
        clear hm own7 bd hX7 hck hLn hPL
        go_wp2_with (at_builtin; refine push_num _ rfl _ _ 22 rfl w.heap.size i3 Try.underlying22 hi3 hz30 hz31 hz32 (.slice a7 m c7) (row LP G) m rfl Hrow7.out (by omega) (k : Int) 1 w6.heap.size rfl Hck.out (by rw [hszW]; omega) ?_)
        intro g9 c9 w9 own9 hgr9 hat9
        have hle9 : (row LP G ++ [(k : Int)]).length = m + 1 := by rw [List.length_append, ← Hm.out]; rfl
        have z1 := (World.cell?_of_block (a := ⟨g2, G, none⟩) (hgr9.block g2 (by rw [hszW]; omega) (fun h => hne7 h.symm))).trans HC7.out
        have z3 := (Hrw7.out.kept hgr9 (.inr (fun h => hne7 h.symm))).frozenAt G
        have hst := OwnSS.replace (w9 := w9) (H := (w6.alloc (.cells #[.int .i64 (k : Int)] 3)).heap.size) Hor7.out HLn.out.symm G (by rw [HLn.out]; exact HPL.out) (.slice a7 m c7) (.slice (some ⟨g9, 0, none⟩) (m + 1) c9) (row LP G ++ [(k : Int)]) HX7.out hgr9 (by rw [hle9]; exact own9) (by rcases hat9 with e | e; exact .inl e.symm; exact .inr (by rw [hszW, e]; rfl)) (Nat.le_refl _)
        have Hst : Hid (OwnSS (w9.setCell ⟨g2, G, none⟩ (.slice (some ⟨g9, 0, none⟩) (m + 1) c9)) w.heap.size (.slice (some ⟨g2, 0, none⟩) LN cap7) (X6.set G (.slice (some ⟨g9, 0, none⟩) (m + 1) c9)) (gl l (k + 1))) := by
          show OwnSS _ _ _ _ _
          rw [Hgs.out]
          unfold gput
          rw [← HLP.out]
          exact hst
        have Hbs : Hid (Below w.heap.size w (w9.setCell ⟨g2, G, none⟩ (.slice (some ⟨g9, 0, none⟩) (m + 1) c9))) := (Hb7.out.grown hgr9 (by rw [hszW]; omega) (fun b hb => (Hrow7.out.lt b hb).1)).setCell (p := ⟨g2, G, none⟩) hg2 _
        clear own9 hgr9 hat9 hst hle9 Hrow7 Hrw7 Hor7 HC7 Hb7 Hor6 Hb6
        go_wp2_with fail
        go_roundw
        case rel => exact ⟨k + 1, _, by omega, by go_num, Hst.out, Hbs.out⟩
        case measure => simp [intOf]; omega
    · obtain rfl : k = n := by omega
      have Hor := Lib.hid hor
      clear hor
      go_wp2_with fail
      go_ret
      exact ⟨_, X, rfl, Hor.out, hbel⟩

set_option maxRecDepth 20000 in
theorem groupsOf_any (ao : Option Addr) (cap : Nat) (l : List Int) (n : Nat) (w : World) (Hn : Hid (n = l.length)) (Hg : Hid (grB l = true)) (hc : NumsAt w ao l) :
    Calls Try.prog 65 #[.slice ao n cap] w fun e w' => ∃ v X, e = .returned v ∧ OwnSS w' w.heap.size v X (gl l n) ∧ Below w.heap.size w w' := by
  rcases hc with h | ⟨b, off, rfl, hc⟩
  · subst h; have := grB_len Hg.out; simp at this
  · exact groupsOf_pos b off cap l n w Hn Hg (by rw [Hn.out]; exact hc)

end Go.Proofs.Ytcedacneagpjcaa
