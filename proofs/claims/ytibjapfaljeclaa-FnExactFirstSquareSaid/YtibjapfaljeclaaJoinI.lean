/- Is a network joined; the distance of two friends: the program. -/
import Derived.Test.YtibjapfaljeclaaJoinS
namespace Go.Proofs.Ytibjapfaljeclaa
open Go.ChangeShapes Go.WideShapes Go.ChangeAt Go.RowKit
set_option linter.unusedVariables false


theorem index_DA (d : Nat → Nat) (w : World) : ∀ k, k < 10 → (Instr.index 63 (.agg (DA d)) (.int .i64 (k : Nat))).run Try.prog w = .ok (.int .i64 ((d k : Nat) : Int)) w := by
  intro k hk
  obtain rfl | rfl | rfl | rfl | rfl | rfl | rfl | rfl | rfl | rfl : k = 0 ∨ k = 1 ∨ k = 2 ∨ k = 3 ∨ k = 4 ∨ k = 5 ∨ k = 6 ∨ k = 7 ∨ k = 8 ∨ k = 9 := by omega
  all_goals first | kernel_rfl | rfl

theorem slice_DA (B F : Nat) (hF : F ≤ 10) (w : World) : (Instr.sliceAt 63 (.pointer (some ⟨B, 0, none⟩)) none (some (.int .i64 (F : Nat))) none).run Try.prog w = .ok (.slice (some ⟨B, 0, none⟩) F 10) w := by
  have hal : Try.prog.arrayLen 63 = 10 := by simp [Program.arrayLen, Try.underlying63]
  have hel : Try.prog.elem 63 = 3 := by simp [Program.elem, Try.underlying63]
  have hsz : (sizeOf 3).run Try.prog w = .ok 1 w := Try.sizeOf3 w
  rw [run_sliceAt_array_h w 63 ⟨B, 0, none⟩ (by rw [hal, hel]; exact Try.underlying63) .i64 (F : Int) (by omega) (by rw [hal]; omega), hal, hel, hsz]
  simp [slicedAt, Addr.add]

set_option maxRecDepth 20000 in
theorem reachAll_any (F : Nat) (d : Nat → Nat) (w : World) (h1 : 1 ≤ F) (hF : F ≤ 10) :
    Calls Try.prog 53 #[.agg (DA d), .int .i64 F] w fun e w' => e = .returned (.bool (!seen (fvL F fun v => ((d v : Nat) : Int)) F 10)) ∧ Below w.heap.size w w' := by
  obtain ⟨W, hW⟩ : ∃ W, w.alloc (.cells (DA d) 63) = W := ⟨_, rfl⟩
  have hrow : W.heap[w.heap.size]? = some (.cells (DA d) 63 (0, 0)) := by rw [← hW, heap_alloc_new]
  have hb : Below w.heap.size w W := by rw [← hW]; exact (Below.refl _ _).alloc (Nat.le_refl _) _
  have Hc : Hid (∀ i, i < F → W.cell? ⟨w.heap.size, 0 + i, none⟩ = some (.int .i64 (na (fvL F fun v => ((d v : Nat) : Int)) i))) := Lib.hid (fun i hi => by
    rw [Nat.zero_add, cell_of_row _ _ _ _ _ _ hrow, DA_get d i (by omega), na_fvL hi])
  have HW := Lib.hid hW
  have hsl := fun w' => slice_DA w.heap.size F hF w'
  clear hrow hW
  go_enter Try.func53, Try.ntmps53
  go_wp2_with fail
  rw [HW.out]
  refine (containsI_pos w.heap.size 0 10 (fvL F fun v => ((d v : Nat) : Int)) F 10 W (by omega) Hc).mono ?_
  rintro e w2 ⟨rfl, rfl⟩
  go_wp2_with fail
  go_ret
  exact ⟨rfl, hb⟩

theorem areJoined_any (w : World) (f : Int) (ao : Option Addr) (cap : Nat) (l : List (Int × Int)) (n : Nat) (Hn : Hid (n = l.length)) (hs : n ≤ 1048576) (Hc : CallsAt w ao l) :
    Calls Try.prog 35 #[.int .i64 f, .slice ao n cap] w fun e w' => e = .returned (.bool (isjR f l)) ∧ Below w.heap.size w w' := by
  have HA := Lib.hid Hc
  clear Hc
  cases hg : netB f l
  · have Hg := Lib.hid hg
    have Hno : Hid (isjR f l = false) := Lib.hid (by rw [isjR, hg]; rfl)
    clear hg
    go_enter Try.func35, Try.ntmps35
    go_wp2_with fail
    refine (implPairs_any w f ao cap l n Hn hs HA.out).mono ?_
    rintro e w1 ⟨rfl, hb1⟩
    rw [Hg.out]
    go_wp2_with fail
    go_ret
    exact ⟨ret_bool Hno.out.symm, hb1⟩
  · have hfr := net_fr hg
    obtain ⟨F, rfl⟩ := Int.eq_ofNat_of_zero_le (show 0 ≤ f by omega)
    have Hgd := Lib.hid (net_gd hg)
    have Hy : Hid ((!seen (fvL F fun v => ((dst l 0 v : Nat) : Int)) F 10) = isjR (F : Int) l) := Lib.hid (by rw [seen_far, isj_at hg, Bool.not_not])
    have Hg := Lib.hid hg
    clear hg
    go_enter Try.func35, Try.ntmps35
    go_wp2_with fail
    refine (implPairs_any w F ao cap l n Hn hs HA.out).mono ?_
    rintro e w1 ⟨rfl, hb1⟩
    rw [Hg.out]
    go_wp2_with fail
    refine (distancesFrom_any F 0 ao cap l n w1 Hn hs Hgd (by omega) (Lib.hid (HA.out.kept hb1))).mono ?_
    rintro e w2 ⟨rfl, hb2⟩
    have hb3 := hb1.trans (hb2.mono hb1.size)
    clear hb1 hb2
    go_wp2_with fail
    refine (reachAll_any F (dst l 0) w2 (by omega) (by omega)).mono ?_
    rintro e w3 ⟨rfl, hb4⟩
    have hb5 := hb3.trans (hb4.mono hb3.size)
    rw [Hy.out]
    clear hb3 hb4
    go_wp2_with fail
    go_ret
    exact ⟨rfl, hb5⟩

theorem implJoined_any (w : World) (f : Int) (ao : Option Addr) (cap : Nat) (l : List (Int × Int)) (n : Nat) (Hn : Hid (n = l.length)) (hs : n ≤ 1048576) (Hc : CallsAt w ao l) :
    Calls Try.prog 13 #[.int .i64 f, .slice ao n cap] w fun e w' => e = .returned (.tuple #[.bool (isjR f l), .bool (netB f l)]) ∧ Below w.heap.size w w' := by
  have HA := Lib.hid Hc
  clear Hc
  go_enter Try.func13, Try.ntmps13
  go_wp2_with fail
  refine (areJoined_any w f ao cap l n Hn hs HA.out).mono ?_
  rintro e w1 ⟨rfl, hb1⟩
  go_wp2_with fail
  refine (implPairs_any w1 f ao cap l n Hn hs (HA.out.kept hb1)).mono ?_
  rintro e w2 ⟨rfl, hb2⟩
  have hb3 := hb1.trans (hb2.mono hb1.size)
  clear hb1 hb2
  go_wp2_with fail
  go_ret2
  exact ⟨rfl, hb3⟩

set_option maxRecDepth 20000 in
theorem implDist_any (w : World) (f : Int) (ao : Option Addr) (cap : Nat) (l : List (Int × Int)) (n : Nat) (Hn : Hid (n = l.length)) (hs : n ≤ 1048576) (Hc : CallsAt w ao l) (a b : Int) :
    Calls Try.prog 26 #[.int .i64 f, .slice ao n cap, .int .i64 a, .int .i64 b] w fun e w' => e = .returned (.tuple #[.int .i64 (distR f l a b), .bool (distB f l a b)]) ∧ Below w.heap.size w w' := by
  have HA := Lib.hid Hc
  clear Hc
  cases hg : netB f l
  · have Hg := Lib.hid hg
    have Hno : Hid (distB f l a b = false ∧ distR f l a b = 0) := Lib.hid (dist_both (by simp [distB, hg]))
    clear hg
    go_enter Try.func26, Try.ntmps26
    go_wp2_with fail
    refine (implPairs_any w f ao cap l n Hn hs HA.out).mono ?_
    rintro e w1 ⟨rfl, hb1⟩
    rw [Hg.out]
    go_wp2_with fail
    go_ret2
    exact ⟨by rw [Hno.out.1, Hno.out.2]; rfl, hb1⟩
  · have hfr := net_fr hg
    by_cases ha : 0 ≤ a ∧ a < f
    · by_cases hb : 0 ≤ b ∧ b < f
      · obtain ⟨F, rfl⟩ := Int.eq_ofNat_of_zero_le (show 0 ≤ f by omega)
        obtain ⟨a, rfl⟩ := Int.eq_ofNat_of_zero_le ha.1
        obtain ⟨b, rfl⟩ := Int.eq_ofNat_of_zero_le hb.1
        have Hgd := Lib.hid (net_gd hg)
        have Hy : Hid (distB (F : Int) l a b = (dst l a b != 10)) := Lib.hid (by rw [distB, hg, decide_eq_true ha, decide_eq_true hb, Int.toNat_natCast, Int.toNat_natCast]; rfl)
        have Hg := Lib.hid hg
        have haF : a < F := by omega
        have hbF : b < F := by omega
        have hb10 : b < 10 := by omega
        have hix := fun w => index_DA (dst l a) w b hb10
        have ha1 : (0 : Int) ≤ a ∧ (a : Int) < F := ⟨by omega, by omega⟩
        have hb1' : (0 : Int) ≤ b ∧ (b : Int) < F := ⟨by omega, by omega⟩
        clear hg ha hb
        go_enter Try.func26, Try.ntmps26
        go_wp2_with fail
        refine (implPairs_any w F ao cap l n Hn hs HA.out).mono ?_
        rintro e w1 ⟨rfl, hb1⟩
        rw [Hg.out]
        have hs1 := hb1.size
        go_wp2_with fail
        refine (isFriend_yes F a _ (by omega) (by omega)).mono ?_
        rintro e w' ⟨rfl, rfl⟩
        go_wp2_with fail
        refine (isFriend_yes F b _ (by omega) (by omega)).mono ?_
        rintro e w' ⟨rfl, rfl⟩
        go_wp2_with fail
        refine (distancesFrom_any F a ao cap l n w1 Hn hs Hgd haF (Lib.hid (HA.out.kept hb1))).mono ?_
        rintro e w2 ⟨rfl, hb2⟩
        have hb3 := hb1.trans (hb2.mono hs1)
        clear hb2 hb1
        by_cases h10 : dst l a b = 10
        · have Hno : Hid (distB (F : Int) l a b = false ∧ distR (F : Int) l a b = 0) := Lib.hid (dist_both (by rw [Hy.out, h10]; rfl))
          rw [h10] at hix
          clear h10
          go_wp2_with fail
          go_ret2
          exact ⟨by rw [Hno.out.1, Hno.out.2]; rfl, hb3⟩
        · have Hyes : Hid (distB (F : Int) l a b = true ∧ distR (F : Int) l a b = ((dst l a b : Nat) : Int)) := Lib.hid (dist_yes (by rw [Hy.out]; simpa using h10))
          obtain ⟨D, hD⟩ : ∃ D, dst l a b = D := ⟨_, rfl⟩
          rw [hD] at hix
          have hdd : (((D : Nat) : Int) == 10) = false := by rw [← hD]; simp; omega
          have HD := Lib.hid hD
          clear h10 hD
          go_wp2_with fail
          go_ret2
          exact ⟨by rw [Hyes.out.1, Hyes.out.2, HD.out]; rfl, hb3⟩
      · have Hno : Hid (distB f l a b = false ∧ distR f l a b = 0) := Lib.hid (dist_both (by simp only [distB, decide_eq_false hb, Bool.false_and, Bool.and_false]))
        have Hg := Lib.hid hg
        clear hg
        go_enter Try.func26, Try.ntmps26
        go_wp2_with fail
        refine (implPairs_any w f ao cap l n Hn hs HA.out).mono ?_
        rintro e w1 ⟨rfl, hb1⟩
        rw [Hg.out]
        go_wp2_with fail
        refine (isFriend_yes f a _ (by omega) (by omega)).mono ?_
        rintro e w' ⟨rfl, rfl⟩
        go_wp2_with fail
        refine (isFriend_no f b _ hb).mono ?_
        rintro e w' ⟨rfl, rfl⟩
        go_wp2_with fail
        go_ret2
        exact ⟨by rw [Hno.out.1, Hno.out.2]; rfl, hb1⟩
    · have Hno : Hid (distB f l a b = false ∧ distR f l a b = 0) := Lib.hid (dist_both (by simp only [distB, decide_eq_false ha, Bool.false_and, Bool.and_false]))
      have Hg := Lib.hid hg
      clear hg
      go_enter Try.func26, Try.ntmps26
      go_wp2_with fail
      refine (implPairs_any w f ao cap l n Hn hs HA.out).mono ?_
      rintro e w1 ⟨rfl, hb1⟩
      rw [Hg.out]
      go_wp2_with fail
      refine (isFriend_no f a _ ha).mono ?_
      rintro e w' ⟨rfl, rfl⟩
      go_wp2_with fail
      go_ret2
      exact ⟨by rw [Hno.out.1, Hno.out.2]; rfl, hb1⟩

end Go.Proofs.Ytibjapfaljeclaa
