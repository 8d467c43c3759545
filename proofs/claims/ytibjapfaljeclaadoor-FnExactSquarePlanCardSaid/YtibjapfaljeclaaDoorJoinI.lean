/- Is a network joined; the distance of two friends: the program. -/
import Derived.Test.YtibjapfaljeclaaDoorJoinS
namespace Go.Proofs.YtibjapfaljeclaaDoor
open Go.ChangeShapes Go.WideShapes Go.ChangeAt Go.RowKit
set_option linter.unusedVariables false


theorem index_DA (d : Nat → Nat) (w : World) : ∀ k, k < 10 → (Instr.index 63 (.agg (DA d)) (.int .i64 (k : Nat))).run Tryd.prog w = .ok (.int .i64 ((d k : Nat) : Int)) w := by
  intro k hk
  obtain rfl | rfl | rfl | rfl | rfl | rfl | rfl | rfl | rfl | rfl : k = 0 ∨ k = 1 ∨ k = 2 ∨ k = 3 ∨ k = 4 ∨ k = 5 ∨ k = 6 ∨ k = 7 ∨ k = 8 ∨ k = 9 := by omega
  all_goals first | kernel_rfl | rfl

theorem slice_DA (B F : Nat) (hF : F ≤ 10) (w : World) : (Instr.sliceAt 63 (.pointer (some ⟨B, 0, none⟩)) none (some (.int .i64 (F : Nat))) none).run Tryd.prog w = .ok (.slice (some ⟨B, 0, none⟩) F 10) w := by
  have hal : Tryd.prog.arrayLen 63 = 10 := by simp [Program.arrayLen, Tryd.underlying63]
  have hel : Tryd.prog.elem 63 = 3 := by simp [Program.elem, Tryd.underlying63]
  have hsz : (sizeOf 3).run Tryd.prog w = .ok 1 w := Tryd.sizeOf3 w
  rw [run_sliceAt_array_h w 63 ⟨B, 0, none⟩ (by rw [hal, hel]; exact Tryd.underlying63) .i64 (F : Int) (by omega) (by rw [hal]; omega), hal, hel, hsz]
  simp [slicedAt, Addr.add]

set_option maxRecDepth 20000 in
theorem reachAll_any (F : Nat) (d : Nat → Nat) (w : World) (h1 : 1 ≤ F) (hF : F ≤ 10) :
    Calls Tryd.prog 38 #[.agg (DA d), .int .i64 F] w fun e w' => e = .returned (.bool (!seen (fvL F fun v => ((d v : Nat) : Int)) F 10)) ∧ Below w.heap.size w w' := by
  obtain ⟨W, hW⟩ : ∃ W, w.alloc (.cells (DA d) 63) = W := ⟨_, rfl⟩
  have hrow : W.heap[w.heap.size]? = some (.cells (DA d) 63 (0, 0)) := by rw [← hW, heap_alloc_new]
  have hb : Below w.heap.size w W := by rw [← hW]; exact (Below.refl _ _).alloc (Nat.le_refl _) _
  have Hc : Hid (∀ i, i < F → W.cell? ⟨w.heap.size, 0 + i, none⟩ = some (.int .i64 (na (fvL F fun v => ((d v : Nat) : Int)) i))) := Lib.hid (fun i hi => by
    rw [Nat.zero_add, cell_of_row _ _ _ _ _ _ hrow, DA_get d i (by omega), na_fvL hi])
  have HW := Lib.hid hW
  have hsl := fun w' => slice_DA w.heap.size F hF w'
  clear hrow hW
  go_enter Tryd.func38, Tryd.ntmps38
  go_wp2_with fail
  rw [HW.out]
  refine (containsI_pos w.heap.size 0 10 (fvL F fun v => ((d v : Nat) : Int)) F 10 W (by omega) Hc).mono ?_
  rintro e w2 ⟨rfl, rfl⟩
  go_wp2_with fail
  go_ret
  exact ⟨rfl, hb⟩

theorem areJoined_any (w : World) (f : Int) (ao : Option Addr) (cap : Nat) (l : List (Int × Int)) (n : Nat) (Hn : Hid (n = l.length)) (hs : n ≤ 1048576) (Hc : CallsAt w ao l) :
    Calls Tryd.prog 18 #[.int .i64 f, .slice ao n cap] w fun e w' => e = .returned (.bool (isjR f l)) ∧ Below w.heap.size w w' := by
  have HA := Lib.hid Hc
  clear Hc
  cases hg : netB f l
  · have Hg := Lib.hid hg
    have Hno : Hid (isjR f l = false) := Lib.hid (by rw [isjR, hg]; rfl)
    clear hg
    go_enter Tryd.func18, Tryd.ntmps18
    go_wp2_with fail
    refine (implPairs_any w f ao cap l n Hn hs HA.out).mono ?_
    rintro e w1 ⟨rfl, hb1⟩
    rw [Hg.out]
    go_wp2_with fail
    go_ret
    exact ⟨ret_bool Hno.out.symm, hb1⟩
  · have hfr := net_fr hg
    obtain ⟨F, rfl⟩ := Int.eq_ofNat_of_zero_le (show 0 ≤ f by omega)
    have Hgd := Lib.hid (net_gd hg)
    have Hy : Hid ((!seen (fvL F fun v => ((dst l 0 v : Nat) : Int)) F 10) = isjR (F : Int) l) := Lib.hid (by rw [seen_far, isj_at hg, Bool.not_not])
    have Hg := Lib.hid hg
    clear hg
    go_enter Tryd.func18, Tryd.ntmps18
    go_wp2_with fail
    refine (implPairs_any w F ao cap l n Hn hs HA.out).mono ?_
    rintro e w1 ⟨rfl, hb1⟩
    rw [Hg.out]
    go_wp2_with fail
    refine (distancesFrom_any F 0 ao cap l n w1 Hn hs Hgd (by omega) (Lib.hid (HA.out.kept hb1))).mono ?_
    rintro e w2 ⟨rfl, hb2⟩
    have hb3 := hb1.trans (hb2.mono hb1.size)
    clear hb1 hb2
    go_wp2_with fail
    refine (reachAll_any F (dst l 0) w2 (by omega) (by omega)).mono ?_
    rintro e w3 ⟨rfl, hb4⟩
    have hb5 := hb3.trans (hb4.mono hb3.size)
    rw [Hy.out]
    clear hb3 hb4
    go_wp2_with fail
    go_ret
    exact ⟨rfl, hb5⟩

end Go.Proofs.YtibjapfaljeclaaDoor
