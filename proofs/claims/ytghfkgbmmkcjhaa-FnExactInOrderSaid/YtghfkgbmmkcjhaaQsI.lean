/- Quick sends: the program. -/
import Derived.Test.YtghfkgbmmkcjhaaQs
namespace Go.Proofs.Ytghfkgbmmkcjhaa
open Go.ChangeShapes Go.WideShapes Go.ChangeAt Go.RowKit
set_option linter.unusedVariables false


set_option maxHeartbeats 1600000 in
set_option maxRecDepth 20000 in
theorem implQS_any (w : World) (d m : Int) : Calls Try.prog 25 #[.int .i64 d, .int .i64 m] w fun e w' => ∃ v, e = .returned (.tuple #[v, .bool (qsB d m)]) ∧ w'.ownsRow w.heap.size 52 3 v (qsR d m).length (ss (qsR d m)) ∧ Below w.heap.size w w' := by
  cases hA : deB d
  · have hR : qsR d m = [] := by simp [qsR, qsB, hA]
    have hB1 : qsB d m = false := by simp [qsB, hA]
    rw [hR, hB1]
    clear hR hB1
    have HA := Lib.hid hA
    clear hA
    go_enter Try.func25, Try.ntmps25
    go_wp2_with fail
    refine (isDelay_any _ w).mono ?_
    rintro e w' ⟨rfl, rfl⟩
    rw [HA.out]
    go_wp2_with fail
    go_ret2
    exact ⟨.slice none 0 0, rfl, World.ownsRow_nil _ _ _ _, Below.refl _ _⟩
  · cases hB : peB m
    · have hR : qsR d m = [] := by simp [qsR, qsB, hB]
      have hB1 : qsB d m = false := by simp [qsB, hB]
      rw [hR, hB1]
      clear hR hB1
      have HA := Lib.hid hA
      have HB := Lib.hid hB
      clear hA hB
      go_enter Try.func25, Try.ntmps25
      go_wp2_with fail
      refine (isDelay_any _ w).mono ?_
      rintro e w' ⟨rfl, rfl⟩
      rw [HA.out]
      go_wp2_with fail
      refine (canBePeople_any _ w).mono ?_
      rintro e w' ⟨rfl, rfl⟩
      rw [HB.out]
      go_wp2_with fail
      go_ret2
      exact ⟨.slice none 0 0, rfl, World.ownsRow_nil _ _ _ _, Below.refl _ _⟩
    · obtain ⟨D, rfl, hD1, hD10⟩ := de_in hA
      obtain ⟨P, rfl, hP1, hP2⟩ := pe_in hB
      have hR : qsR D P = qR0 D P := by simp [qsR, qsB, hA, hB]
      have hB1 : qsB D P = true := by simp [qsB, hA, hB]
      rw [hR, hB1]
      clear hR hB1
      obtain ⟨i0, hi, hz0, hz1, hz2⟩ := info_parts infoSE
      obtain ⟨R, HR⟩ : ∃ R, Hid (R = qR0 D P) := ⟨_, Lib.hid rfl⟩
      rw [← HR.out]
      have HA := Lib.hid hA
      have HB := Lib.hid hB
      clear hA hB
      go_enter Try.func25, Try.ntmps25
      go_wp2_with fail
      refine (isDelay_any _ w).mono ?_
      rintro e w' ⟨rfl, rfl⟩
      rw [HA.out]
      go_wp2_with fail
      refine (canBePeople_any _ w).mono ?_
      rintro e w' ⟨rfl, rfl⟩
      rw [HB.out]
      go_wp2_with fail
      go_loopw [6, 7] (fun v i wr => ∃ (t : Nat), t ≤ (qL D P t).length ∧ i = .int .i64 t ∧ wr.ownsRow w.heap.size 52 3 v (qL D P t).length (ss (qL D P t)) ∧ Below w.heap.size w wr) (fun _ i _ => 50 - (intOf i).toNat)
      case atStart => exact ⟨0, Nat.zero_le _, rfl, World.ownsRow_nil _ _ _ _, Below.refl _ _⟩
      case round =>
        obtain ⟨t, htl, rfl, hor, hbel⟩ := hrel
        have hle := qL_le D P t
        have hs := hbel.size
        obtain ⟨ao, ka, rfl, _⟩ := sown_shape hor rfl
        obtain ⟨a, ha⟩ : ∃ a, (qL D P t).length = a := ⟨_, rfl⟩
        rw [ha] at htl hle hor ⊢
        by_cases hlt : a < P - 1
        · have hd1 : decide ((a : Int) < (P : Int) - 1) = true := by simp only [decide_eq_true_eq]; omega
          have hun : (P : Int) - 1 - (a : Int) = ((P - 1 - a : Nat) : Int) := by omega
          have I1 := Lib.hid (informed_any wr D t hD1 hD10 (by omega) (fun j hj => ia_bd D j hD1 (by omega)))
          have hbd := ia_bd D t hD1 (by omega)
          have hmore : a < (qL D P (t + 1)).length := by rw [← ha]; exact qL_more (by rw [ha]; exact hlt)
          have Hmore := Lib.hid hmore
          have hnext : qL D P (t + 1) = qL D P t ++ seg a (qC D P a t) t := by rw [qL, ha]
          have Hnext := Lib.hid hnext
          have Hor := Lib.hid hor
          have Ha := Lib.hid ha
          obtain ⟨B, hB⟩ : ∃ B, inf D t = B := ⟨_, rfl⟩
          obtain ⟨c, hc⟩ : ∃ c, qC D P a t = c := ⟨_, rfl⟩
          have hcb : c ≤ 40 := by rw [← hc]; unfold qC; omega
          obtain ⟨Q, hQ⟩ : ∃ Q, P - 1 - a = Q := ⟨_, rfl⟩
          have hc2 : (c = B ∧ c ≤ Q) ∨ (c = Q ∧ c < B) := by rw [← hc, ← hB, ← hQ]; unfold qC; omega
          rw [hB] at I1 hbd
          rw [hc] at Hnext
          rw [hQ] at hun
          clear hor hmore hnext ha hB hc hQ
          rcases hc2 with ⟨h, hmin⟩ | ⟨h, hmin⟩
          all_goals
           subst h
           go_wp2_with fail
           refine I1.out.mono ?_
           rintro e w1 ⟨rfl, hb1⟩
           have Hor1 := Lib.hid (own_later Hor.out hb1)
           have Hb1 := Lib.hid (hbel.trans (hb1.mono hs))
           clear hb1 Hor I1
           go_wp2_with fail
           go_loopw [6, 35] (fun v i wq => ∃ (j : Nat), j ≤ c ∧ i = .int .i64 j ∧ wq.ownsRow w.heap.size 52 3 v (a + j) (ss (qL D P t ++ seg a j t)) ∧ Below w.heap.size w wq) (fun _ i _ => c - (intOf i).toNat)
           case atStart => exact ⟨0, Nat.zero_le _, rfl, by simpa [seg] using Hor1.out, Hb1.out⟩
           case round =>
             obtain ⟨j, hj, rfl, hoq, hbq⟩ := hrel
             have hsq := hbq.size
             obtain ⟨ao, ka, rfl, _⟩ := sown_shape hoq (by rw [List.length_append, seg_length, Ha.out])
             by_cases hjl : j < c
             · have Hsucc := Lib.hid (seg_succ a j t)
               have hw1 : IntKind.i64.wrap (((a + j : Nat) : Int) + 1) = ((a + j : Nat) : Int) + 1 := IntWalk.i64_in _ (by omega)
               have hw2 : IntKind.i64.wrap ((j : Int) + 1) = (j : Int) + 1 := IntWalk.i64_in _ (by omega)
               have HO := Lib.hid (hoq.alloc (.cells #[.int .i64 (j : Int), .int .i64 (((a + j : Nat) : Int) + 1), .int .i64 (t : Int)] 52))
               have HC : Hid ((wr.alloc (.cells #[.int .i64 (j : Int), .int .i64 (((a + j : Nat) : Int) + 1), .int .i64 (t : Int)] 52)).heap[wr.heap.size]? = some (.cells #[.int .i64 (j : Int), .int .i64 (((a + j : Nat) : Int) + 1), .int .i64 (t : Int)] 52 (0, 0))) := heap_alloc_new wr _
               have Hbq := Lib.hid hbq
               clear hoq hbq
               go_wp2_with (at_builtin; refine push_send _ rfl _ _ 25 rfl w.heap.size 52 i0 Try.underlying25 hi hz0 hz1 hz2 _ _ (a + j) rfl HO.out (by omega) ((j : Int), ((a + j : Nat) : Int) + 1, (t : Int)) _ _ rfl HC.out (by simp; omega) ?_)
               intro g cap w2 own2 gr2 _
               have bel2 : Below w.heap.size w w2 := (Hbq.out.alloc hsq _).grown gr2 (by simp; omega) (fun k hk => (HO.out.lt k hk).1)
               have own3 : w2.ownsRow w.heap.size 52 3 (.slice (some ⟨g, 0, none⟩) (a + (j + 1)) cap) (a + (j + 1)) (ss (qL D P t ++ seg a (j + 1) t)) := by
                 rw [Hsucc.out, show ((a + 1 + j : Nat) : Int) = (a : Int) + (j : Int) + 1 by omega]; exact own2
               have Own3 := Lib.hid own3
               have Bel2 := Lib.hid bel2
               clear own2 gr2 own3 bel2
               go_wp2_with fail
               go_roundw
               case rel => exact ⟨j + 1, by omega, by go_num, Own3.out, Bel2.out⟩
               case measure => simp [intOf]; omega
             · obtain rfl : j = c := by omega
               have Own : Hid (wr.ownsRow w.heap.size 52 3 (.slice ao (a + j) ka) (qL D P (t + 1)).length (ss (qL D P (t + 1)))) := by
                 show World.ownsRow _ _ _ _ _ _ _
                 rw [Hnext.out, List.length_append, seg_length, Ha.out]; exact hoq
               clear hoq
               go_wp2_with fail
               go_roundw
               case rel => exact ⟨t + 1, by have := Hmore.out; omega, by go_num, Own.out, hbq⟩
               case measure => simp [intOf]; omega
        · have hd1 : decide ((a : Int) < (P : Int) - 1) = false := by simp only [decide_eq_false_iff_not]; omega
          have hres : Hid (R = qL D P t) := by show _ = _; rw [HR.out]; exact qR0_eq (by rw [ha]; omega)
          have Hor := Lib.hid hor
          have Ha := Lib.hid ha
          clear hor ha
          go_wp2_with fail
          go_ret2
          exact ⟨_, rfl, by rw [hres.out, Ha.out]; exact Hor.out, hbel⟩

end Go.Proofs.Ytghfkgbmmkcjhaa
