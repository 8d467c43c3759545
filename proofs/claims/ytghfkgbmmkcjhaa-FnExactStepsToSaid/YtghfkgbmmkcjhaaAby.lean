/- The arrivals by ordered sends. -/
import Derived.Test.YtghfkgbmmkcjhaaAbyL
namespace Go.Proofs.Ytghfkgbmmkcjhaa
open Go.ChangeShapes Go.WideShapes Go.ChangeAt Go.RowKit
set_option linter.unusedVariables false


set_option maxHeartbeats 4000000 in
set_option maxRecDepth 20000 in
theorem by_pos (b off cap : Nat) (d : Int) (l : List Snd) (n : Nat) (w : World) (Hn : Hid (n = l.length)) (hn : n ≤ 1000) (hcap : n ≤ cap) (hd : 1 ≤ d ∧ d ≤ 10) (HS : Hid (SmallS d l)) (HF : Hid (SmallF l)) (Hc : Hid (∀ i, i < n → Sat3 w b off l i)) :
    Calls Try.prog 77 #[.int .i64 d, .slice (some ⟨b, off, none⟩) n cap] w fun e w' => e = .returned (.tuple #[.agg (AA (mkA d befA l)), .bool ((List.range 40).all fun (i : Nat) => mkA d befA l i == fillA d befA l i)]) ∧ Below w.heap.size w w' := by
  have eg : ∀ args w, (callFunc 88 args).run Try.prog w = .ok (.enter 88 args) w := enters_of Try.func88 (by kernel_rfl) rfl
  have hmf : ∀ (fn : Fn) (first cap : Array Value) (w : World), (Instr.makeFunc fn first cap).run Try.prog w = .ok (.func fn first cap) w := fun _ _ _ _ => rfl
  obtain ⟨R, HR⟩ : ∃ R : Bool, Hid (R = (List.range 40).all fun (i : Nat) => mkA d befA l i == fillA d befA l i) := ⟨_, Lib.hid rfl⟩
  rw [← HR.out]
  go_enter Try.func77, Try.ntmps77
  go_upto_region 2 with (fail)
  rw [← ZA_eq]
  obtain ⟨B, hB⟩ : ∃ B, w.heap.size = B := ⟨_, rfl⟩
  have hBw : w.heap.size ≤ B := by omega
  have HB0 : Hid (((w.alloc (.cells #[.int .i64 d] 3)).alloc (.cells ZA 57)).heap[B]? = some (.cells #[.int .i64 d] 3 (0, 0))) := by
    show _ = _
    rw [← hB, Below.heap_alloc _ _ _ (by simp), heap_alloc_new]
  have HZ0 : Hid (((w.alloc (.cells #[.int .i64 d] 3)).alloc (.cells ZA 57)).heap[B + 1]? = some (.cells ZA 57 (0, 0))) := by
    show _ = _
    rw [← hB]
    have := heap_alloc_new (w.alloc (.cells #[.int .i64 d] 3)) (.cells ZA 57)
    simpa using this
  have HH0 : Hid (Below w.heap.size w ((w.alloc (.cells #[.int .i64 d] 3)).alloc (.cells ZA 57))) := ((Below.refl _ _).alloc (Nat.le_refl _) _).alloc (by simp) _
  rw [hB]
  obtain ⟨w0, hw0⟩ : ∃ w0, ((w.alloc (.cells #[.int .i64 d] 3)).alloc (.cells ZA 57)) = w0 := ⟨_, rfl⟩
  rw [hw0] at HB0 HZ0 HH0 ⊢
  clear hw0 hB
  go_wp2_with fail
  refine (before_any w0).mono ?_
  rintro e w1 ⟨rfl, hb1⟩
  have hB1 : B + 1 < w0.heap.size := (Array.getElem?_eq_some_iff.1 HZ0.out).1
  have hs1 := hb1.size
  go_wp2_with (with_reducible refine wpList_store_row rfl 57 (.tmp 7) (.tmp 11) rfl w1.heap.size (AA befA) ?r1a ?r1b 57 _ (heap_alloc_new w1 _) ?r1c ?r1d ?r1e ?_)
  case r1a => rfl
  case r1b => rfl
  case r1c => rw [infoA, AA_size]
  case r1d => first | rfl | (rw [AA_size]; rfl) | (rw [AA_size, AA_size])
  case r1e => exact AA_one _
  try simp only [Act.put]
  rw [← ZA_eq]
  have HK0 : Hid (Keep B w1.heap.size d befA w ((w1.alloc (.cells ZA 57)).setRow w1.heap.size (AA befA))) := by
    refine ⟨?_, ?_, ?_, ?_, by omega⟩
    · rw [setRow_other _ _ _ _ (by omega), Below.heap_alloc _ _ _ (by omega)]
      exact (hb1.block _ (by omega)).trans HB0.out
    · rw [setRow_other _ _ _ _ (by omega), Below.heap_alloc _ _ _ (by omega)]
      exact (hb1.block _ hB1).trans HZ0.out
    · exact setRow_heap _ _ _ _ _ _ (heap_alloc_new w1 _)
    · have hs0 := HH0.out.size
      exact below_setRow ((HH0.out.trans (hb1.mono hs0)).alloc (by omega) _) (by omega) _
  obtain ⟨w3, hw3⟩ : ∃ w3, ((w1.alloc (.cells ZA 57)).setRow w1.heap.size (AA befA)) = w3 := ⟨_, rfl⟩
  rw [hw3] at HK0 ⊢
  obtain ⟨Pm, hPm⟩ : ∃ Pm, w1.heap.size = Pm := ⟨_, rfl⟩
  rw [hPm] at HK0 ⊢
  clear hw3 hPm HB0 HZ0 HH0 hb1 hs1 hB1
  go_loopw [14] (fun i wr => ∃ k : Nat, k ≤ n ∧ i = .int .i64 k ∧ Hid (Keep B Pm d (mkA d befA (l.take k)) w wr)) (fun i _ => n - (intOf i).toNat)
  case atStart => exact ⟨0, Nat.zero_le _, rfl, HK0⟩
  case round =>
    clear HK0
    obtain ⟨k, hk, rfl, HK⟩ := hrel
    have hsz := HK.out.b.size
    by_cases hlt : k < n
    · have hkl : k < l.length := by rw [← Hn.out]; exact hlt
      obtain ⟨h0, h1, h2⟩ := (Hc.out k hlt).kept HK.out.b
      obtain ⟨⟨t1, t2⟩, s1, s2⟩ := HS.out k hkl
      obtain ⟨f1, f2⟩ := HF.out k hkl
      have hst := mkA_take d befA l k hkl
      rw [lsn_parts] at hst
      obtain ⟨x0, hx0⟩ := Int.eq_ofNat_of_zero_le f1
      obtain ⟨x1, hx1⟩ : ∃ x, st l k = x := ⟨_, rfl⟩
      obtain ⟨x2, hx2⟩ : ∃ x, sm l k = x := ⟨_, rfl⟩
      rw [hx0] at h0 hst f1 f2
      rw [hx1] at h1 hst t1 t2
      rw [hx2] at h2 hst s1 s2
      obtain ⟨M, hM⟩ : ∃ M, mkA d befA (l.take k) = M := ⟨_, rfl⟩
      rw [hM] at HK hst
      have HK1 : Hid (Keep B Pm d M w (wr.alloc (.cells #[.int .i64 (x0 : Int), .int .i64 x1, .int .i64 x2] 52))) := HK.out.later ((Below.refl _ _).alloc (Nat.le_refl _) _)
      have hc := cell_of_row _ Pm x0 _ _ _ HK1.out.p
      rw [AA_get _ x0 (by omega)] at hc
      have hp0 : (0 : Int) ≤ (x0 : Int) := by omega
      have hp1 : (x0 : Int) < 40 := by omega
      have hk1 : (0 : Int) ≤ k := by omega
      have hk2 : (k : Int) < n := by omega
      have hk3 : (0 : Int) ≤ (k : Int) + 1 := by omega
      have hk4 : (k : Int) + 1 ≤ (cap : Int) := by omega
      have hwk : IntKind.i64.wrap ((k : Int) + 1) = ((k + 1 : Nat) : Int) := by rw [IntWalk.i64_in _ (by omega)]; omega
      by_cases hm : M x0 ≤ x2
      · have hmd : decide (M x0 ≤ x2) = true := by simpa using hm
        have Hst : Hid (mkA d befA (l.take (k + 1)) = upA d M ((x0 : Int), x1, x2)) := by
          show _ = _; rw [hst]; unfold mkS; rw [if_pos hm]
        have hF := fun (W : World) (hq : W.cell? ⟨B, 0, none⟩ = some (.int .i64 d)) (hW : SendsAt W (some ⟨b, off + k * 3, none⟩) [((x0 : Int), x1, x2)]) => fill_any (some ⟨b, off + k * 3, none⟩) 1 B M d [((x0 : Int), x1, x2)] 1 W (Lib.hid rfl) (by omega) hq (Lib.hid (fun i hi => by
          obtain rfl : i = 0 := by simpa using hi
          exact ⟨⟨t1, t2⟩, s1, s2⟩)) hW
        have HSA : Hid (∀ W : World, Below wr.heap.size wr W → SendsAt W (some ⟨b, off + k * 3, none⟩) [((x0 : Int), x1, x2)]) := fun W hW => .inr ⟨b, off + k * 3, rfl, fun i hi => by
          obtain rfl : i = 0 := by simpa using hi
          have q : Sat3 wr b (off + k * 3) [((x0 : Int), x1, x2)] 0 := ⟨h0, h1, h2⟩
          exact q.kept hW⟩
        have HFi := Lib.hid hF
        have HbA : Hid (Below wr.heap.size wr (wr.alloc (.cells #[.int .i64 (x0 : Int), .int .i64 x1, .int .i64 x2] 52)).drew) := ((Below.refl wr.heap.size wr).alloc (Nat.le_refl _) _).drew
        clear hst hM HK hF hx0 hx1 hx2 hm
        go_wp2_with fail
        go_region
        all_goals
          have HK2 := Lib.hid HK1.out.drew
          go_upto_region 7 with (fail)
          refine wp_region_any (by kernel_rfl) ?_
          change wpAny _ _ _ _ _ _ _ (World.drew _)
          have HK3 := Lib.hid HK2.out.drew
          have HbB := Lib.hid HbA.out.drew
          refine wpAny_take (i := 0) (v := ?_) rfl (by kernel_rfl) (by kernel_rfl) (by kernel_rfl) (fun _ _ _ h => h) (Or.inl ⟨by rfl, ?y0⟩) ?_
          case y0 => intro w; go_simp; first | done | with_reducible rfl
          try simp only [List.getElem_toArray]
          try simp only [List.getElem_cons_succ]
          try simp only [List.getElem_cons_zero]
          try simp only [Act.put]
          try simp only [List.setIfInBounds_toArray]
          try simp only [List.set_cons_succ]
          try simp only [List.set_cons_zero]
          refine wpAny_take (i := 2) (v := ?_) rfl (by kernel_rfl) (by kernel_rfl) (by kernel_rfl) (fun _ _ _ h => h) (Or.inl ⟨by rfl, ?y2⟩) ?_
          case y2 => intro w; go_simp; first | done | with_reducible rfl
          try simp only [List.getElem_toArray]
          try simp only [List.getElem_cons_succ]
          try simp only [List.getElem_cons_zero]
          try simp only [Act.put]
          try simp only [List.setIfInBounds_toArray]
          try simp only [List.set_cons_succ]
          try simp only [List.set_cons_zero]
          refine wpAny_take (i := 3) (v := ?_) rfl (by kernel_rfl) (by kernel_rfl) (by kernel_rfl) (fun _ _ _ h => h) (Or.inl ⟨by rfl, ?y3⟩) ?_
          case y3 => intro w; go_simp; first | done | with_reducible rfl
          try simp only [List.getElem_toArray]
          try simp only [List.getElem_cons_succ]
          try simp only [List.getElem_cons_zero]
          try simp only [Act.put]
          try simp only [List.setIfInBounds_toArray]
          try simp only [List.set_cons_succ]
          try simp only [List.set_cons_zero]
          refine wpAny_take (i := 4) (v := ?_) rfl (by kernel_rfl) (by kernel_rfl) (by kernel_rfl) (fun _ _ _ h => h) (Or.inl ⟨by rfl, ?y4⟩) ?_
          case y4 => intro w; go_simp; first | done | with_reducible rfl
          try simp only [List.getElem_toArray]
          try simp only [List.getElem_cons_succ]
          try simp only [List.getElem_cons_zero]
          try simp only [Act.put]
          try simp only [List.setIfInBounds_toArray]
          try simp only [List.set_cons_succ]
          try simp only [List.set_cons_zero]
          refine wpAny_take (i := 5) (v := .int .i64 ((k + 1 : Nat) : Int)) rfl (by kernel_rfl) (by kernel_rfl) (by kernel_rfl) (fun _ _ _ h => h) (Or.inl ⟨by rfl, ?y5⟩) ?_
          case y5 => intro w; go_simp; first | done | rfl
          try simp only [List.getElem_toArray]
          try simp only [List.getElem_cons_succ]
          try simp only [List.getElem_cons_zero]
          try simp only [Act.put]
          try simp only [List.setIfInBounds_toArray]
          try simp only [List.set_cons_succ]
          try simp only [List.set_cons_zero]
          refine wpAny_take (i := 6) (v := ?_) rfl (by kernel_rfl) (by kernel_rfl) (by kernel_rfl) (fun _ _ _ h => h) (Or.inl ⟨by rfl, ?y6⟩) ?_
          case y6 => intro w; go_simp; first | done | with_reducible rfl
          try simp only [List.getElem_toArray]
          try simp only [List.getElem_cons_succ]
          try simp only [List.getElem_cons_zero]
          try simp only [Act.put]
          try simp only [List.setIfInBounds_toArray]
          try simp only [List.set_cons_succ]
          try simp only [List.set_cons_zero]
          refine wpAny_take (i := 7) (v := .int .i64 ((k + 1 : Nat) : Int)) rfl (by kernel_rfl) (by kernel_rfl) (by kernel_rfl) (fun _ _ _ h => h) (Or.inl ⟨by rfl, ?y7⟩) ?_
          case y7 => intro w; go_simp; first | done | rfl
          try simp only [List.getElem_toArray]
          try simp only [List.getElem_cons_succ]
          try simp only [List.getElem_cons_zero]
          try simp only [Act.put]
          try simp only [List.setIfInBounds_toArray]
          try simp only [List.set_cons_succ]
          try simp only [List.set_cons_zero]
          refine wpAny_take (i := 8) (v := .slice (some ⟨b, off + k * 3, none⟩) 1 1) rfl (by kernel_rfl) (by kernel_rfl) (by kernel_rfl) (fun _ _ _ h => h) (Or.inl ⟨by rfl, ?y8⟩) ?_
          case y8 => intro w; go_simp; first | done | rfl
          try simp only [List.getElem_toArray]
          try simp only [List.getElem_cons_succ]
          try simp only [List.getElem_cons_zero]
          try simp only [Act.put]
          try simp only [List.setIfInBounds_toArray]
          try simp only [List.set_cons_succ]
          try simp only [List.set_cons_zero]
          refine wpAny_ready (rs := [1]) (by kernel_rfl) (by simp) ?_
          refine AllReady.cons rfl (fun K hK => ?_) AllReady.nil
          refine step_load_row rfl 57 (.tmp 7) rfl Pm rfl 57 (AA M) (0, 0) _ HK3.out.p Try.underlying57 ⟨_, _, rfl⟩ (by rw [infoA, AA_size]) ?_
          try (refine hK _ _ ?_; clear hK K)
          try simp only [List.getElem_toArray]
          try simp only [List.getElem_cons_succ]
          try simp only [List.getElem_cons_zero]
          try simp only [Act.put]
          try simp only [List.setIfInBounds_toArray]
          try simp only [List.set_cons_succ]
          try simp only [List.set_cons_zero]
          refine wpAny_ready (rs := [9]) (by kernel_rfl) (by simp) ?_
          refine AllReady.cons rfl (fun K hK => ?_) AllReady.nil
          go_simp
          go_at_fn 88
          refine (HFi.out _ HK3.out.cell (HSA.out _ HbB.out)).mono ?_
          rintro e w5 ⟨rfl, hb5⟩
          have HK5 := Lib.hid (HK3.out.later hb5)
          clear hb5
          go_wp2_with fail
          try (refine hK _ _ ?_; clear hK K)
          try simp only [List.getElem_toArray]
          try simp only [List.getElem_cons_succ]
          try simp only [List.getElem_cons_zero]
          try simp only [Act.put]
          try simp only [List.setIfInBounds_toArray]
          try simp only [List.set_cons_succ]
          try simp only [List.set_cons_zero]
          refine wpAny_ready (rs := [10]) (by kernel_rfl) (by simp) ?_
          refine AllReady.cons rfl (fun K hK => ?_) AllReady.nil
          refine step_store_row rfl 57 (.tmp 7) (.tmp 35) rfl Pm (AA (upA d M ((x0 : Int), x1, x2))) rfl rfl 57 _ HK5.out.p (by rw [infoA, AA_size]) (by rw [AA_size, AA_size]) (AA_one _) ?_
          try (refine hK _ _ ?_; clear hK K)
          try simp only [List.getElem_toArray]
          try simp only [List.getElem_cons_succ]
          try simp only [List.getElem_cons_zero]
          try simp only [Act.put]
          try simp only [List.setIfInBounds_toArray]
          try simp only [List.set_cons_succ]
          try simp only [List.set_cons_zero]
          refine wpAny_done (by kernel_rfl) ?_ _
          have HK6 : Hid (Keep B Pm d (mkA d befA (l.take (k + 1))) w (w5.setRow Pm (AA (upA d M ((x0 : Int), x1, x2))))) := by rw [Hst.out]; exact HK5.out.set hBw
          go_wp2_with fail
          go_roundw
          case rel => exact ⟨k + 1, by omega, by go_num, HK6⟩
          case measure => simp [intOf]; omega
      · have hmd : decide (M x0 ≤ x2) = false := by simpa using hm
        have Hst : Hid (mkA d befA (l.take (k + 1)) = M) := by
          show _ = _; rw [hst]; unfold mkS; rw [if_neg hm]
        clear hst hM HK hx0 hx1 hx2
        go_wp2_with fail
        go_region
        all_goals
          have HK2 : Hid (Keep B Pm d (mkA d befA (l.take (k + 1))) w (wr.alloc (.cells #[.int .i64 (x0 : Int), .int .i64 x1, .int .i64 x2] 52)).drew) := by rw [Hst.out]; exact HK1.out.drew
          go_wp2_with fail
          go_roundw
          case rel => exact ⟨k + 1, by omega, by go_num, HK2⟩
          case measure => simp [intOf]; omega
    · obtain rfl : k = n := by omega
      have hp : l.take k = l := List.take_of_length_le (by rw [← Hn.out]; exact Nat.le_refl _)
      rw [hp] at HK
      clear hlt hk hp
      obtain ⟨M, hM⟩ : ∃ M, mkA d befA l = M := ⟨_, rfl⟩
      obtain ⟨G, hG⟩ : ∃ G, fillA d befA l = G := ⟨_, rfl⟩
      have HM := Lib.hid hM
      rw [hM] at HK
      have hEq := fun W => eqAA M G W
      have hRR : ((List.range 40).all fun (i : Nat) => M i == G i) = R := by rw [HR.out, hM, hG]
      rw [hRR] at hEq
      have hFi := fun (W : World) (hq : W.cell? ⟨B, 0, none⟩ = some (.int .i64 d)) (hW : SendsAt W (some ⟨b, off, none⟩) l) => fill_any (some ⟨b, off, none⟩) cap B befA d l k W Hn (by omega) hq HS hW
      rw [hG] at hFi
      have HFi := Lib.hid hFi
      have HSA : Hid (∀ W : World, Below w.heap.size w W → SendsAt W (some ⟨b, off, none⟩) l) := fun W hW => .inr ⟨b, off, rfl, fun i hi => (Hc.out i (by rw [Hn.out]; exact hi)).kept hW⟩
      clear hM hG hRR hFi
      go_upto_region 9 with (fail)
      refine wp_region_any (by kernel_rfl) ?_
      change wpAny _ _ _ _ _ _ _ (World.drew _)
      have HKs0 := Lib.hid HK.out.drew
      refine wpAny_take (i := 2) (v := ?_) rfl (by kernel_rfl) (by kernel_rfl) (by kernel_rfl) (fun _ _ _ h => h) (Or.inl ⟨by rfl, ?y2⟩) ?_
      case y2 => intro w; go_simp; first | done | with_reducible rfl
      try simp only [List.getElem_toArray]
      try simp only [List.getElem_cons_succ]
      try simp only [List.getElem_cons_zero]
      try simp only [Act.put]
      try simp only [List.setIfInBounds_toArray]
      try simp only [List.set_cons_succ]
      try simp only [List.set_cons_zero]
      refine wpAny_take (i := 4) (v := ?_) rfl (by kernel_rfl) (by kernel_rfl) (by kernel_rfl) (fun _ _ _ h => h) (Or.inl ⟨by rfl, ?y4⟩) ?_
      case y4 => intro w; go_simp; first | done | with_reducible rfl
      try simp only [List.getElem_toArray]
      try simp only [List.getElem_cons_succ]
      try simp only [List.getElem_cons_zero]
      try simp only [Act.put]
      try simp only [List.setIfInBounds_toArray]
      try simp only [List.set_cons_succ]
      try simp only [List.set_cons_zero]
      refine wpAny_ready (rs := [0, 1, 3]) (by kernel_rfl) (by simp) ?_
      refine AllReady.cons rfl (fun K hK => ?_) ?_
      · refine step_load_row rfl 57 (.tmp 7) rfl Pm rfl 57 (AA M) (0, 0) _ HKs0.out.p Try.underlying57 ⟨_, _, rfl⟩ (by rw [infoA, AA_size]) ?_
        try (refine hK _ _ ?_; clear hK K)
        try simp only [List.getElem_toArray]
        try simp only [List.getElem_cons_succ]
        try simp only [List.getElem_cons_zero]
        try simp only [Act.put]
        try simp only [List.setIfInBounds_toArray]
        try simp only [List.set_cons_succ]
        try simp only [List.set_cons_zero]
        refine wpAny_ready (rs := [1, 3]) (by kernel_rfl) (by simp) ?_
        refine AllReady.cons rfl (fun K hK => ?_) ?_
        · refine step_load_row rfl 57 (.tmp 7) rfl Pm rfl 57 (AA M) (0, 0) _ HKs0.out.p Try.underlying57 ⟨_, _, rfl⟩ (by rw [infoA, AA_size]) ?_
          try (refine hK _ _ ?_; clear hK K)
          try simp only [List.getElem_toArray]
          try simp only [List.getElem_cons_succ]
          try simp only [List.getElem_cons_zero]
          try simp only [Act.put]
          try simp only [List.setIfInBounds_toArray]
          try simp only [List.set_cons_succ]
          try simp only [List.set_cons_zero]
          refine wpAny_ready (rs := [3]) (by kernel_rfl) (by simp) ?_
          refine AllReady.cons rfl (fun K hK => ?_) AllReady.nil
          go_simp
          go_wp2_with (go_at_call 89; refine (before_any _).mono ?_; rintro e w3 ⟨rfl, hb3⟩; have HKs3 := Lib.hid (HKs0.out.later hb3); clear hb3)
          try (refine hK _ _ ?_; clear hK K)
          try simp only [List.getElem_toArray]
          try simp only [List.getElem_cons_succ]
          try simp only [List.getElem_cons_zero]
          try simp only [Act.put]
          try simp only [List.setIfInBounds_toArray]
          try simp only [List.set_cons_succ]
          try simp only [List.set_cons_zero]
          refine wpAny_ready (rs := [5]) (by kernel_rfl) (by simp) ?_
          refine AllReady.cons rfl (fun K hK => ?_) AllReady.nil
          go_simp
          go_at_fn 88
          refine (HFi.out _ HKs3.out.cell (HSA.out _ HKs3.out.b)).mono ?_
          rintro e w5 ⟨rfl, hb5⟩
          have HKs5 := Lib.hid (HKs3.out.later hb5)
          clear hb5
          go_wp2_with fail
          try (refine hK _ _ ?_; clear hK K)
          try simp only [List.getElem_toArray]
          try simp only [List.getElem_cons_succ]
          try simp only [List.getElem_cons_zero]
          try simp only [Act.put]
          try simp only [List.setIfInBounds_toArray]
          try simp only [List.set_cons_succ]
          try simp only [List.set_cons_zero]
          refine wpAny_take (i := 6) (v := .bool R) rfl (by kernel_rfl) (by kernel_rfl) (by kernel_rfl) (fun _ _ _ h => h) (Or.inl ⟨by rfl, ?y6⟩) ?_
          case y6 => intro w; go_simp; first | done | rfl
          try simp only [List.getElem_toArray]
          try simp only [List.getElem_cons_succ]
          try simp only [List.getElem_cons_zero]
          try simp only [Act.put]
          try simp only [List.setIfInBounds_toArray]
          try simp only [List.set_cons_succ]
          try simp only [List.set_cons_zero]
          refine wpAny_ready (rs := [7]) (by kernel_rfl) (by simp) ?_
          refine AllReady.cons rfl (fun K hK => ?_) AllReady.nil
          refine step_store_row rfl 57 (.tmp 4) (.tmp 37) rfl (B + 1) (AA M) rfl rfl 57 _ HKs5.out.z (by rw [infoA, AA_size]) (by show (AA fun _ => 0).size = _; rw [AA_size, AA_size]) (AA_one _) ?_
          try (refine hK _ _ ?_; clear hK K)
          try simp only [List.getElem_toArray]
          try simp only [List.getElem_cons_succ]
          try simp only [List.getElem_cons_zero]
          try simp only [Act.put]
          try simp only [List.setIfInBounds_toArray]
          try simp only [List.set_cons_succ]
          try simp only [List.set_cons_zero]
          refine wpAny_take (i := 8) (v := ?_) rfl (by kernel_rfl) (by kernel_rfl) (by kernel_rfl) (fun _ _ _ h => h) (Or.inl ⟨by rfl, ?y8⟩) ?_
          case y8 => intro w; go_simp; first | done | with_reducible rfl
          try simp only [List.getElem_toArray]
          try simp only [List.getElem_cons_succ]
          try simp only [List.getElem_cons_zero]
          try simp only [Act.put]
          try simp only [List.setIfInBounds_toArray]
          try simp only [List.set_cons_succ]
          try simp only [List.set_cons_zero]
          refine wpAny_done (by kernel_rfl) ?_ _
          go_wp2_with fail
          refine bodyPost_ret (results_row_tmp rfl _ _ (B + 1) 57 _ (0, 0) _ rfl (setRow_heap _ _ _ _ _ _ HKs5.out.z) Try.underlying57 ⟨_, _, rfl⟩ (by rw [infoA, AA_size])) rfl ⟨by rw [HM.out]; rfl, below_setRow HKs5.out.b (by omega) _⟩
        refine AllReady.cons rfl (fun K hK => ?_) AllReady.nil
        go_simp
        go_wp2_with (go_at_call 89; refine (before_any _).mono ?_; rintro e w3 ⟨rfl, hb3⟩; have HKs3 := Lib.hid (HKs0.out.later hb3); clear hb3)
        try (refine hK _ _ ?_; clear hK K)
        try simp only [List.getElem_toArray]
        try simp only [List.getElem_cons_succ]
        try simp only [List.getElem_cons_zero]
        try simp only [Act.put]
        try simp only [List.setIfInBounds_toArray]
        try simp only [List.set_cons_succ]
        try simp only [List.set_cons_zero]
        refine wpAny_ready (rs := [1, 5]) (by kernel_rfl) (by simp) ?_
        refine AllReady.cons rfl (fun K hK => ?_) ?_
        · refine step_load_row rfl 57 (.tmp 7) rfl Pm rfl 57 (AA M) (0, 0) _ HKs3.out.p Try.underlying57 ⟨_, _, rfl⟩ (by rw [infoA, AA_size]) ?_
          try (refine hK _ _ ?_; clear hK K)
          try simp only [List.getElem_toArray]
          try simp only [List.getElem_cons_succ]
          try simp only [List.getElem_cons_zero]
          try simp only [Act.put]
          try simp only [List.setIfInBounds_toArray]
          try simp only [List.set_cons_succ]
          try simp only [List.set_cons_zero]
          refine wpAny_ready (rs := [5]) (by kernel_rfl) (by simp) ?_
          refine AllReady.cons rfl (fun K hK => ?_) AllReady.nil
          go_simp
          go_at_fn 88
          refine (HFi.out _ HKs3.out.cell (HSA.out _ HKs3.out.b)).mono ?_
          rintro e w5 ⟨rfl, hb5⟩
          have HKs5 := Lib.hid (HKs3.out.later hb5)
          clear hb5
          go_wp2_with fail
          try (refine hK _ _ ?_; clear hK K)
          try simp only [List.getElem_toArray]
          try simp only [List.getElem_cons_succ]
          try simp only [List.getElem_cons_zero]
          try simp only [Act.put]
          try simp only [List.setIfInBounds_toArray]
          try simp only [List.set_cons_succ]
          try simp only [List.set_cons_zero]
          refine wpAny_take (i := 6) (v := .bool R) rfl (by kernel_rfl) (by kernel_rfl) (by kernel_rfl) (fun _ _ _ h => h) (Or.inl ⟨by rfl, ?y6⟩) ?_
          case y6 => intro w; go_simp; first | done | rfl
          try simp only [List.getElem_toArray]
          try simp only [List.getElem_cons_succ]
          try simp only [List.getElem_cons_zero]
          try simp only [Act.put]
          try simp only [List.setIfInBounds_toArray]
          try simp only [List.set_cons_succ]
          try simp only [List.set_cons_zero]
          refine wpAny_ready (rs := [7]) (by kernel_rfl) (by simp) ?_
          refine AllReady.cons rfl (fun K hK => ?_) AllReady.nil
          refine step_store_row rfl 57 (.tmp 4) (.tmp 37) rfl (B + 1) (AA M) rfl rfl 57 _ HKs5.out.z (by rw [infoA, AA_size]) (by show (AA fun _ => 0).size = _; rw [AA_size, AA_size]) (AA_one _) ?_
          try (refine hK _ _ ?_; clear hK K)
          try simp only [List.getElem_toArray]
          try simp only [List.getElem_cons_succ]
          try simp only [List.getElem_cons_zero]
          try simp only [Act.put]
          try simp only [List.setIfInBounds_toArray]
          try simp only [List.set_cons_succ]
          try simp only [List.set_cons_zero]
          refine wpAny_take (i := 8) (v := ?_) rfl (by kernel_rfl) (by kernel_rfl) (by kernel_rfl) (fun _ _ _ h => h) (Or.inl ⟨by rfl, ?y8⟩) ?_
          case y8 => intro w; go_simp; first | done | with_reducible rfl
          try simp only [List.getElem_toArray]
          try simp only [List.getElem_cons_succ]
          try simp only [List.getElem_cons_zero]
          try simp only [Act.put]
          try simp only [List.setIfInBounds_toArray]
          try simp only [List.set_cons_succ]
          try simp only [List.set_cons_zero]
          refine wpAny_done (by kernel_rfl) ?_ _
          go_wp2_with fail
          refine bodyPost_ret (results_row_tmp rfl _ _ (B + 1) 57 _ (0, 0) _ rfl (setRow_heap _ _ _ _ _ _ HKs5.out.z) Try.underlying57 ⟨_, _, rfl⟩ (by rw [infoA, AA_size])) rfl ⟨by rw [HM.out]; rfl, below_setRow HKs5.out.b (by omega) _⟩
        refine AllReady.cons rfl (fun K hK => ?_) AllReady.nil
        go_simp
        go_at_fn 88
        refine (HFi.out _ HKs3.out.cell (HSA.out _ HKs3.out.b)).mono ?_
        rintro e w5 ⟨rfl, hb5⟩
        have HKs5 := Lib.hid (HKs3.out.later hb5)
        clear hb5
        go_wp2_with fail
        try (refine hK _ _ ?_; clear hK K)
        try simp only [List.getElem_toArray]
        try simp only [List.getElem_cons_succ]
        try simp only [List.getElem_cons_zero]
        try simp only [Act.put]
        try simp only [List.setIfInBounds_toArray]
        try simp only [List.set_cons_succ]
        try simp only [List.set_cons_zero]
        refine wpAny_ready (rs := [1, 7]) (by kernel_rfl) (by simp) ?_
        refine AllReady.cons rfl (fun K hK => ?_) ?_
        · refine step_load_row rfl 57 (.tmp 7) rfl Pm rfl 57 (AA M) (0, 0) _ HKs5.out.p Try.underlying57 ⟨_, _, rfl⟩ (by rw [infoA, AA_size]) ?_
          try (refine hK _ _ ?_; clear hK K)
          try simp only [List.getElem_toArray]
          try simp only [List.getElem_cons_succ]
          try simp only [List.getElem_cons_zero]
          try simp only [Act.put]
          try simp only [List.setIfInBounds_toArray]
          try simp only [List.set_cons_succ]
          try simp only [List.set_cons_zero]
          refine wpAny_take (i := 6) (v := .bool R) rfl (by kernel_rfl) (by kernel_rfl) (by kernel_rfl) (fun _ _ _ h => h) (Or.inl ⟨by rfl, ?y6⟩) ?_
          case y6 => intro w; go_simp; first | done | rfl
          try simp only [List.getElem_toArray]
          try simp only [List.getElem_cons_succ]
          try simp only [List.getElem_cons_zero]
          try simp only [Act.put]
          try simp only [List.setIfInBounds_toArray]
          try simp only [List.set_cons_succ]
          try simp only [List.set_cons_zero]
          refine wpAny_ready (rs := [7]) (by kernel_rfl) (by simp) ?_
          refine AllReady.cons rfl (fun K hK => ?_) AllReady.nil
          refine step_store_row rfl 57 (.tmp 4) (.tmp 37) rfl (B + 1) (AA M) rfl rfl 57 _ HKs5.out.z (by rw [infoA, AA_size]) (by show (AA fun _ => 0).size = _; rw [AA_size, AA_size]) (AA_one _) ?_
          try (refine hK _ _ ?_; clear hK K)
          try simp only [List.getElem_toArray]
          try simp only [List.getElem_cons_succ]
          try simp only [List.getElem_cons_zero]
          try simp only [Act.put]
          try simp only [List.setIfInBounds_toArray]
          try simp only [List.set_cons_succ]
          try simp only [List.set_cons_zero]
          refine wpAny_take (i := 8) (v := ?_) rfl (by kernel_rfl) (by kernel_rfl) (by kernel_rfl) (fun _ _ _ h => h) (Or.inl ⟨by rfl, ?y8⟩) ?_
          case y8 => intro w; go_simp; first | done | with_reducible rfl
          try simp only [List.getElem_toArray]
          try simp only [List.getElem_cons_succ]
          try simp only [List.getElem_cons_zero]
          try simp only [Act.put]
          try simp only [List.setIfInBounds_toArray]
          try simp only [List.set_cons_succ]
          try simp only [List.set_cons_zero]
          refine wpAny_done (by kernel_rfl) ?_ _
          go_wp2_with fail
          refine bodyPost_ret (results_row_tmp rfl _ _ (B + 1) 57 _ (0, 0) _ rfl (setRow_heap _ _ _ _ _ _ HKs5.out.z) Try.underlying57 ⟨_, _, rfl⟩ (by rw [infoA, AA_size])) rfl ⟨by rw [HM.out]; rfl, below_setRow HKs5.out.b (by omega) _⟩
        refine AllReady.cons rfl (fun K hK => ?_) AllReady.nil
        refine step_store_row rfl 57 (.tmp 4) (.tmp 37) rfl (B + 1) (AA M) rfl rfl 57 _ HKs5.out.z (by rw [infoA, AA_size]) (by show (AA fun _ => 0).size = _; rw [AA_size, AA_size]) (AA_one _) ?_
        try (refine hK _ _ ?_; clear hK K)
        try simp only [List.getElem_toArray]
        try simp only [List.getElem_cons_succ]
        try simp only [List.getElem_cons_zero]
        try simp only [Act.put]
        try simp only [List.setIfInBounds_toArray]
        try simp only [List.set_cons_succ]
        try simp only [List.set_cons_zero]
        refine wpAny_ready (rs := [1]) (by kernel_rfl) (by simp) ?_
        refine AllReady.cons rfl (fun K hK => ?_) AllReady.nil
        refine step_load_row rfl 57 (.tmp 7) rfl Pm rfl 57 (AA M) (0, 0) _ ((setRow_other _ _ _ _ (by have := HKs5.out.l; omega)).trans HKs5.out.p) Try.underlying57 ⟨_, _, rfl⟩ (by rw [infoA, AA_size]) ?_
        try (refine hK _ _ ?_; clear hK K)
        try simp only [List.getElem_toArray]
        try simp only [List.getElem_cons_succ]
        try simp only [List.getElem_cons_zero]
        try simp only [Act.put]
        try simp only [List.setIfInBounds_toArray]
        try simp only [List.set_cons_succ]
        try simp only [List.set_cons_zero]
        refine wpAny_take (i := 6) (v := .bool R) rfl (by kernel_rfl) (by kernel_rfl) (by kernel_rfl) (fun _ _ _ h => h) (Or.inl ⟨by rfl, ?y6⟩) ?_
        case y6 => intro w; go_simp; first | done | rfl
        try simp only [List.getElem_toArray]
        try simp only [List.getElem_cons_succ]
        try simp only [List.getElem_cons_zero]
        try simp only [Act.put]
        try simp only [List.setIfInBounds_toArray]
        try simp only [List.set_cons_succ]
        try simp only [List.set_cons_zero]
        refine wpAny_take (i := 8) (v := ?_) rfl (by kernel_rfl) (by kernel_rfl) (by kernel_rfl) (fun _ _ _ h => h) (Or.inl ⟨by rfl, ?y8⟩) ?_
        case y8 => intro w; go_simp; first | done | with_reducible rfl
        try simp only [List.getElem_toArray]
        try simp only [List.getElem_cons_succ]
        try simp only [List.getElem_cons_zero]
        try simp only [Act.put]
        try simp only [List.setIfInBounds_toArray]
        try simp only [List.set_cons_succ]
        try simp only [List.set_cons_zero]
        refine wpAny_done (by kernel_rfl) ?_ _
        go_wp2_with fail
        refine bodyPost_ret (results_row_tmp rfl _ _ (B + 1) 57 _ (0, 0) _ rfl (setRow_heap _ _ _ _ _ _ HKs5.out.z) Try.underlying57 ⟨_, _, rfl⟩ (by rw [infoA, AA_size])) rfl ⟨by rw [HM.out]; rfl, below_setRow HKs5.out.b (by omega) _⟩
      refine AllReady.cons rfl (fun K hK => ?_) ?_
      · refine step_load_row rfl 57 (.tmp 7) rfl Pm rfl 57 (AA M) (0, 0) _ HKs0.out.p Try.underlying57 ⟨_, _, rfl⟩ (by rw [infoA, AA_size]) ?_
        try (refine hK _ _ ?_; clear hK K)
        try simp only [List.getElem_toArray]
        try simp only [List.getElem_cons_succ]
        try simp only [List.getElem_cons_zero]
        try simp only [Act.put]
        try simp only [List.setIfInBounds_toArray]
        try simp only [List.set_cons_succ]
        try simp only [List.set_cons_zero]
        refine wpAny_ready (rs := [0, 3]) (by kernel_rfl) (by simp) ?_
        refine AllReady.cons rfl (fun K hK => ?_) ?_
        · refine step_load_row rfl 57 (.tmp 7) rfl Pm rfl 57 (AA M) (0, 0) _ HKs0.out.p Try.underlying57 ⟨_, _, rfl⟩ (by rw [infoA, AA_size]) ?_
          try (refine hK _ _ ?_; clear hK K)
          try simp only [List.getElem_toArray]
          try simp only [List.getElem_cons_succ]
          try simp only [List.getElem_cons_zero]
          try simp only [Act.put]
          try simp only [List.setIfInBounds_toArray]
          try simp only [List.set_cons_succ]
          try simp only [List.set_cons_zero]
          refine wpAny_ready (rs := [3]) (by kernel_rfl) (by simp) ?_
          refine AllReady.cons rfl (fun K hK => ?_) AllReady.nil
          go_simp
          go_wp2_with (go_at_call 89; refine (before_any _).mono ?_; rintro e w3 ⟨rfl, hb3⟩; have HKs3 := Lib.hid (HKs0.out.later hb3); clear hb3)
          try (refine hK _ _ ?_; clear hK K)
          try simp only [List.getElem_toArray]
          try simp only [List.getElem_cons_succ]
          try simp only [List.getElem_cons_zero]
          try simp only [Act.put]
          try simp only [List.setIfInBounds_toArray]
          try simp only [List.set_cons_succ]
          try simp only [List.set_cons_zero]
          refine wpAny_ready (rs := [5]) (by kernel_rfl) (by simp) ?_
          refine AllReady.cons rfl (fun K hK => ?_) AllReady.nil
          go_simp
          go_at_fn 88
          refine (HFi.out _ HKs3.out.cell (HSA.out _ HKs3.out.b)).mono ?_
          rintro e w5 ⟨rfl, hb5⟩
          have HKs5 := Lib.hid (HKs3.out.later hb5)
          clear hb5
          go_wp2_with fail
          try (refine hK _ _ ?_; clear hK K)
          try simp only [List.getElem_toArray]
          try simp only [List.getElem_cons_succ]
          try simp only [List.getElem_cons_zero]
          try simp only [Act.put]
          try simp only [List.setIfInBounds_toArray]
          try simp only [List.set_cons_succ]
          try simp only [List.set_cons_zero]
          refine wpAny_take (i := 6) (v := .bool R) rfl (by kernel_rfl) (by kernel_rfl) (by kernel_rfl) (fun _ _ _ h => h) (Or.inl ⟨by rfl, ?y6⟩) ?_
          case y6 => intro w; go_simp; first | done | rfl
          try simp only [List.getElem_toArray]
          try simp only [List.getElem_cons_succ]
          try simp only [List.getElem_cons_zero]
          try simp only [Act.put]
          try simp only [List.setIfInBounds_toArray]
          try simp only [List.set_cons_succ]
          try simp only [List.set_cons_zero]
          refine wpAny_ready (rs := [7]) (by kernel_rfl) (by simp) ?_
          refine AllReady.cons rfl (fun K hK => ?_) AllReady.nil
          refine step_store_row rfl 57 (.tmp 4) (.tmp 37) rfl (B + 1) (AA M) rfl rfl 57 _ HKs5.out.z (by rw [infoA, AA_size]) (by show (AA fun _ => 0).size = _; rw [AA_size, AA_size]) (AA_one _) ?_
          try (refine hK _ _ ?_; clear hK K)
          try simp only [List.getElem_toArray]
          try simp only [List.getElem_cons_succ]
          try simp only [List.getElem_cons_zero]
          try simp only [Act.put]
          try simp only [List.setIfInBounds_toArray]
          try simp only [List.set_cons_succ]
          try simp only [List.set_cons_zero]
          refine wpAny_take (i := 8) (v := ?_) rfl (by kernel_rfl) (by kernel_rfl) (by kernel_rfl) (fun _ _ _ h => h) (Or.inl ⟨by rfl, ?y8⟩) ?_
          case y8 => intro w; go_simp; first | done | with_reducible rfl
          try simp only [List.getElem_toArray]
          try simp only [List.getElem_cons_succ]
          try simp only [List.getElem_cons_zero]
          try simp only [Act.put]
          try simp only [List.setIfInBounds_toArray]
          try simp only [List.set_cons_succ]
          try simp only [List.set_cons_zero]
          refine wpAny_done (by kernel_rfl) ?_ _
          go_wp2_with fail
          refine bodyPost_ret (results_row_tmp rfl _ _ (B + 1) 57 _ (0, 0) _ rfl (setRow_heap _ _ _ _ _ _ HKs5.out.z) Try.underlying57 ⟨_, _, rfl⟩ (by rw [infoA, AA_size])) rfl ⟨by rw [HM.out]; rfl, below_setRow HKs5.out.b (by omega) _⟩
        refine AllReady.cons rfl (fun K hK => ?_) AllReady.nil
        go_simp
        go_wp2_with (go_at_call 89; refine (before_any _).mono ?_; rintro e w3 ⟨rfl, hb3⟩; have HKs3 := Lib.hid (HKs0.out.later hb3); clear hb3)
        try (refine hK _ _ ?_; clear hK K)
        try simp only [List.getElem_toArray]
        try simp only [List.getElem_cons_succ]
        try simp only [List.getElem_cons_zero]
        try simp only [Act.put]
        try simp only [List.setIfInBounds_toArray]
        try simp only [List.set_cons_succ]
        try simp only [List.set_cons_zero]
        refine wpAny_ready (rs := [0, 5]) (by kernel_rfl) (by simp) ?_
        refine AllReady.cons rfl (fun K hK => ?_) ?_
        · refine step_load_row rfl 57 (.tmp 7) rfl Pm rfl 57 (AA M) (0, 0) _ HKs3.out.p Try.underlying57 ⟨_, _, rfl⟩ (by rw [infoA, AA_size]) ?_
          try (refine hK _ _ ?_; clear hK K)
          try simp only [List.getElem_toArray]
          try simp only [List.getElem_cons_succ]
          try simp only [List.getElem_cons_zero]
          try simp only [Act.put]
          try simp only [List.setIfInBounds_toArray]
          try simp only [List.set_cons_succ]
          try simp only [List.set_cons_zero]
          refine wpAny_ready (rs := [5]) (by kernel_rfl) (by simp) ?_
          refine AllReady.cons rfl (fun K hK => ?_) AllReady.nil
          go_simp
          go_at_fn 88
          refine (HFi.out _ HKs3.out.cell (HSA.out _ HKs3.out.b)).mono ?_
          rintro e w5 ⟨rfl, hb5⟩
          have HKs5 := Lib.hid (HKs3.out.later hb5)
          clear hb5
          go_wp2_with fail
          try (refine hK _ _ ?_; clear hK K)
          try simp only [List.getElem_toArray]
          try simp only [List.getElem_cons_succ]
          try simp only [List.getElem_cons_zero]
          try simp only [Act.put]
          try simp only [List.setIfInBounds_toArray]
          try simp only [List.set_cons_succ]
          try simp only [List.set_cons_zero]
          refine wpAny_take (i := 6) (v := .bool R) rfl (by kernel_rfl) (by kernel_rfl) (by kernel_rfl) (fun _ _ _ h => h) (Or.inl ⟨by rfl, ?y6⟩) ?_
          case y6 => intro w; go_simp; first | done | rfl
          try simp only [List.getElem_toArray]
          try simp only [List.getElem_cons_succ]
          try simp only [List.getElem_cons_zero]
          try simp only [Act.put]
          try simp only [List.setIfInBounds_toArray]
          try simp only [List.set_cons_succ]
          try simp only [List.set_cons_zero]
          refine wpAny_ready (rs := [7]) (by kernel_rfl) (by simp) ?_
          refine AllReady.cons rfl (fun K hK => ?_) AllReady.nil
          refine step_store_row rfl 57 (.tmp 4) (.tmp 37) rfl (B + 1) (AA M) rfl rfl 57 _ HKs5.out.z (by rw [infoA, AA_size]) (by show (AA fun _ => 0).size = _; rw [AA_size, AA_size]) (AA_one _) ?_
          try (refine hK _ _ ?_; clear hK K)
          try simp only [List.getElem_toArray]
          try simp only [List.getElem_cons_succ]
          try simp only [List.getElem_cons_zero]
          try simp only [Act.put]
          try simp only [List.setIfInBounds_toArray]
          try simp only [List.set_cons_succ]
          try simp only [List.set_cons_zero]
          refine wpAny_take (i := 8) (v := ?_) rfl (by kernel_rfl) (by kernel_rfl) (by kernel_rfl) (fun _ _ _ h => h) (Or.inl ⟨by rfl, ?y8⟩) ?_
          case y8 => intro w; go_simp; first | done | with_reducible rfl
          try simp only [List.getElem_toArray]
          try simp only [List.getElem_cons_succ]
          try simp only [List.getElem_cons_zero]
          try simp only [Act.put]
          try simp only [List.setIfInBounds_toArray]
          try simp only [List.set_cons_succ]
          try simp only [List.set_cons_zero]
          refine wpAny_done (by kernel_rfl) ?_ _
          go_wp2_with fail
          refine bodyPost_ret (results_row_tmp rfl _ _ (B + 1) 57 _ (0, 0) _ rfl (setRow_heap _ _ _ _ _ _ HKs5.out.z) Try.underlying57 ⟨_, _, rfl⟩ (by rw [infoA, AA_size])) rfl ⟨by rw [HM.out]; rfl, below_setRow HKs5.out.b (by omega) _⟩
        refine AllReady.cons rfl (fun K hK => ?_) AllReady.nil
        go_simp
        go_at_fn 88
        refine (HFi.out _ HKs3.out.cell (HSA.out _ HKs3.out.b)).mono ?_
        rintro e w5 ⟨rfl, hb5⟩
        have HKs5 := Lib.hid (HKs3.out.later hb5)
        clear hb5
        go_wp2_with fail
        try (refine hK _ _ ?_; clear hK K)
        try simp only [List.getElem_toArray]
        try simp only [List.getElem_cons_succ]
        try simp only [List.getElem_cons_zero]
        try simp only [Act.put]
        try simp only [List.setIfInBounds_toArray]
        try simp only [List.set_cons_succ]
        try simp only [List.set_cons_zero]
        refine wpAny_take (i := 6) (v := .bool R) rfl (by kernel_rfl) (by kernel_rfl) (by kernel_rfl) (fun _ _ _ h => h) (Or.inl ⟨by rfl, ?y6⟩) ?_
        case y6 => intro w; go_simp; first | done | rfl
        try simp only [List.getElem_toArray]
        try simp only [List.getElem_cons_succ]
        try simp only [List.getElem_cons_zero]
        try simp only [Act.put]
        try simp only [List.setIfInBounds_toArray]
        try simp only [List.set_cons_succ]
        try simp only [List.set_cons_zero]
        refine wpAny_ready (rs := [0]) (by kernel_rfl) (by simp) ?_
        refine AllReady.cons rfl (fun K hK => ?_) AllReady.nil
        refine step_load_row rfl 57 (.tmp 7) rfl Pm rfl 57 (AA M) (0, 0) _ HKs5.out.p Try.underlying57 ⟨_, _, rfl⟩ (by rw [infoA, AA_size]) ?_
        try (refine hK _ _ ?_; clear hK K)
        try simp only [List.getElem_toArray]
        try simp only [List.getElem_cons_succ]
        try simp only [List.getElem_cons_zero]
        try simp only [Act.put]
        try simp only [List.setIfInBounds_toArray]
        try simp only [List.set_cons_succ]
        try simp only [List.set_cons_zero]
        refine wpAny_ready (rs := [7]) (by kernel_rfl) (by simp) ?_
        refine AllReady.cons rfl (fun K hK => ?_) AllReady.nil
        refine step_store_row rfl 57 (.tmp 4) (.tmp 37) rfl (B + 1) (AA M) rfl rfl 57 _ HKs5.out.z (by rw [infoA, AA_size]) (by show (AA fun _ => 0).size = _; rw [AA_size, AA_size]) (AA_one _) ?_
        try (refine hK _ _ ?_; clear hK K)
        try simp only [List.getElem_toArray]
        try simp only [List.getElem_cons_succ]
        try simp only [List.getElem_cons_zero]
        try simp only [Act.put]
        try simp only [List.setIfInBounds_toArray]
        try simp only [List.set_cons_succ]
        try simp only [List.set_cons_zero]
        refine wpAny_take (i := 8) (v := ?_) rfl (by kernel_rfl) (by kernel_rfl) (by kernel_rfl) (fun _ _ _ h => h) (Or.inl ⟨by rfl, ?y8⟩) ?_
        case y8 => intro w; go_simp; first | done | with_reducible rfl
        try simp only [List.getElem_toArray]
        try simp only [List.getElem_cons_succ]
        try simp only [List.getElem_cons_zero]
        try simp only [Act.put]
        try simp only [List.setIfInBounds_toArray]
        try simp only [List.set_cons_succ]
        try simp only [List.set_cons_zero]
        refine wpAny_done (by kernel_rfl) ?_ _
        go_wp2_with fail
        refine bodyPost_ret (results_row_tmp rfl _ _ (B + 1) 57 _ (0, 0) _ rfl (setRow_heap _ _ _ _ _ _ HKs5.out.z) Try.underlying57 ⟨_, _, rfl⟩ (by rw [infoA, AA_size])) rfl ⟨by rw [HM.out]; rfl, below_setRow HKs5.out.b (by omega) _⟩
      refine AllReady.cons rfl (fun K hK => ?_) AllReady.nil
      go_simp
      go_wp2_with (go_at_call 89; refine (before_any _).mono ?_; rintro e w3 ⟨rfl, hb3⟩; have HKs3 := Lib.hid (HKs0.out.later hb3); clear hb3)
      try (refine hK _ _ ?_; clear hK K)
      try simp only [List.getElem_toArray]
      try simp only [List.getElem_cons_succ]
      try simp only [List.getElem_cons_zero]
      try simp only [Act.put]
      try simp only [List.setIfInBounds_toArray]
      try simp only [List.set_cons_succ]
      try simp only [List.set_cons_zero]
      refine wpAny_ready (rs := [0, 1, 5]) (by kernel_rfl) (by simp) ?_
      refine AllReady.cons rfl (fun K hK => ?_) ?_
      · refine step_load_row rfl 57 (.tmp 7) rfl Pm rfl 57 (AA M) (0, 0) _ HKs3.out.p Try.underlying57 ⟨_, _, rfl⟩ (by rw [infoA, AA_size]) ?_
        try (refine hK _ _ ?_; clear hK K)
        try simp only [List.getElem_toArray]
        try simp only [List.getElem_cons_succ]
        try simp only [List.getElem_cons_zero]
        try simp only [Act.put]
        try simp only [List.setIfInBounds_toArray]
        try simp only [List.set_cons_succ]
        try simp only [List.set_cons_zero]
        refine wpAny_ready (rs := [1, 5]) (by kernel_rfl) (by simp) ?_
        refine AllReady.cons rfl (fun K hK => ?_) ?_
        · refine step_load_row rfl 57 (.tmp 7) rfl Pm rfl 57 (AA M) (0, 0) _ HKs3.out.p Try.underlying57 ⟨_, _, rfl⟩ (by rw [infoA, AA_size]) ?_
          try (refine hK _ _ ?_; clear hK K)
          try simp only [List.getElem_toArray]
          try simp only [List.getElem_cons_succ]
          try simp only [List.getElem_cons_zero]
          try simp only [Act.put]
          try simp only [List.setIfInBounds_toArray]
          try simp only [List.set_cons_succ]
          try simp only [List.set_cons_zero]
          refine wpAny_ready (rs := [5]) (by kernel_rfl) (by simp) ?_
          refine AllReady.cons rfl (fun K hK => ?_) AllReady.nil
          go_simp
          go_at_fn 88
          refine (HFi.out _ HKs3.out.cell (HSA.out _ HKs3.out.b)).mono ?_
          rintro e w5 ⟨rfl, hb5⟩
          have HKs5 := Lib.hid (HKs3.out.later hb5)
          clear hb5
          go_wp2_with fail
          try (refine hK _ _ ?_; clear hK K)
          try simp only [List.getElem_toArray]
          try simp only [List.getElem_cons_succ]
          try simp only [List.getElem_cons_zero]
          try simp only [Act.put]
          try simp only [List.setIfInBounds_toArray]
          try simp only [List.set_cons_succ]
          try simp only [List.set_cons_zero]
          refine wpAny_take (i := 6) (v := .bool R) rfl (by kernel_rfl) (by kernel_rfl) (by kernel_rfl) (fun _ _ _ h => h) (Or.inl ⟨by rfl, ?y6⟩) ?_
          case y6 => intro w; go_simp; first | done | rfl
          try simp only [List.getElem_toArray]
          try simp only [List.getElem_cons_succ]
          try simp only [List.getElem_cons_zero]
          try simp only [Act.put]
          try simp only [List.setIfInBounds_toArray]
          try simp only [List.set_cons_succ]
          try simp only [List.set_cons_zero]
          refine wpAny_ready (rs := [7]) (by kernel_rfl) (by simp) ?_
          refine AllReady.cons rfl (fun K hK => ?_) AllReady.nil
          refine step_store_row rfl 57 (.tmp 4) (.tmp 37) rfl (B + 1) (AA M) rfl rfl 57 _ HKs5.out.z (by rw [infoA, AA_size]) (by show (AA fun _ => 0).size = _; rw [AA_size, AA_size]) (AA_one _) ?_
          try (refine hK _ _ ?_; clear hK K)
          try simp only [List.getElem_toArray]
          try simp only [List.getElem_cons_succ]
          try simp only [List.getElem_cons_zero]
          try simp only [Act.put]
          try simp only [List.setIfInBounds_toArray]
          try simp only [List.set_cons_succ]
          try simp only [List.set_cons_zero]
          refine wpAny_take (i := 8) (v := ?_) rfl (by kernel_rfl) (by kernel_rfl) (by kernel_rfl) (fun _ _ _ h => h) (Or.inl ⟨by rfl, ?y8⟩) ?_
          case y8 => intro w; go_simp; first | done | with_reducible rfl
          try simp only [List.getElem_toArray]
          try simp only [List.getElem_cons_succ]
          try simp only [List.getElem_cons_zero]
          try simp only [Act.put]
          try simp only [List.setIfInBounds_toArray]
          try simp only [List.set_cons_succ]
          try simp only [List.set_cons_zero]
          refine wpAny_done (by kernel_rfl) ?_ _
          go_wp2_with fail
          refine bodyPost_ret (results_row_tmp rfl _ _ (B + 1) 57 _ (0, 0) _ rfl (setRow_heap _ _ _ _ _ _ HKs5.out.z) Try.underlying57 ⟨_, _, rfl⟩ (by rw [infoA, AA_size])) rfl ⟨by rw [HM.out]; rfl, below_setRow HKs5.out.b (by omega) _⟩
        refine AllReady.cons rfl (fun K hK => ?_) AllReady.nil
        go_simp
        go_at_fn 88
        refine (HFi.out _ HKs3.out.cell (HSA.out _ HKs3.out.b)).mono ?_
        rintro e w5 ⟨rfl, hb5⟩
        have HKs5 := Lib.hid (HKs3.out.later hb5)
        clear hb5
        go_wp2_with fail
        try (refine hK _ _ ?_; clear hK K)
        try simp only [List.getElem_toArray]
        try simp only [List.getElem_cons_succ]
        try simp only [List.getElem_cons_zero]
        try simp only [Act.put]
        try simp only [List.setIfInBounds_toArray]
        try simp only [List.set_cons_succ]
        try simp only [List.set_cons_zero]
        refine wpAny_ready (rs := [1, 7]) (by kernel_rfl) (by simp) ?_
        refine AllReady.cons rfl (fun K hK => ?_) ?_
        · refine step_load_row rfl 57 (.tmp 7) rfl Pm rfl 57 (AA M) (0, 0) _ HKs5.out.p Try.underlying57 ⟨_, _, rfl⟩ (by rw [infoA, AA_size]) ?_
          try (refine hK _ _ ?_; clear hK K)
          try simp only [List.getElem_toArray]
          try simp only [List.getElem_cons_succ]
          try simp only [List.getElem_cons_zero]
          try simp only [Act.put]
          try simp only [List.setIfInBounds_toArray]
          try simp only [List.set_cons_succ]
          try simp only [List.set_cons_zero]
          refine wpAny_take (i := 6) (v := .bool R) rfl (by kernel_rfl) (by kernel_rfl) (by kernel_rfl) (fun _ _ _ h => h) (Or.inl ⟨by rfl, ?y6⟩) ?_
          case y6 => intro w; go_simp; first | done | rfl
          try simp only [List.getElem_toArray]
          try simp only [List.getElem_cons_succ]
          try simp only [List.getElem_cons_zero]
          try simp only [Act.put]
          try simp only [List.setIfInBounds_toArray]
          try simp only [List.set_cons_succ]
          try simp only [List.set_cons_zero]
          refine wpAny_ready (rs := [7]) (by kernel_rfl) (by simp) ?_
          refine AllReady.cons rfl (fun K hK => ?_) AllReady.nil
          refine step_store_row rfl 57 (.tmp 4) (.tmp 37) rfl (B + 1) (AA M) rfl rfl 57 _ HKs5.out.z (by rw [infoA, AA_size]) (by show (AA fun _ => 0).size = _; rw [AA_size, AA_size]) (AA_one _) ?_
          try (refine hK _ _ ?_; clear hK K)
          try simp only [List.getElem_toArray]
          try simp only [List.getElem_cons_succ]
          try simp only [List.getElem_cons_zero]
          try simp only [Act.put]
          try simp only [List.setIfInBounds_toArray]
          try simp only [List.set_cons_succ]
          try simp only [List.set_cons_zero]
          refine wpAny_take (i := 8) (v := ?_) rfl (by kernel_rfl) (by kernel_rfl) (by kernel_rfl) (fun _ _ _ h => h) (Or.inl ⟨by rfl, ?y8⟩) ?_
          case y8 => intro w; go_simp; first | done | with_reducible rfl
          try simp only [List.getElem_toArray]
          try simp only [List.getElem_cons_succ]
          try simp only [List.getElem_cons_zero]
          try simp only [Act.put]
          try simp only [List.setIfInBounds_toArray]
          try simp only [List.set_cons_succ]
          try simp only [List.set_cons_zero]
          refine wpAny_done (by kernel_rfl) ?_ _
          go_wp2_with fail
          refine bodyPost_ret (results_row_tmp rfl _ _ (B + 1) 57 _ (0, 0) _ rfl (setRow_heap _ _ _ _ _ _ HKs5.out.z) Try.underlying57 ⟨_, _, rfl⟩ (by rw [infoA, AA_size])) rfl ⟨by rw [HM.out]; rfl, below_setRow HKs5.out.b (by omega) _⟩
        refine AllReady.cons rfl (fun K hK => ?_) AllReady.nil
        refine step_store_row rfl 57 (.tmp 4) (.tmp 37) rfl (B + 1) (AA M) rfl rfl 57 _ HKs5.out.z (by rw [infoA, AA_size]) (by show (AA fun _ => 0).size = _; rw [AA_size, AA_size]) (AA_one _) ?_
        try (refine hK _ _ ?_; clear hK K)
        try simp only [List.getElem_toArray]
        try simp only [List.getElem_cons_succ]
        try simp only [List.getElem_cons_zero]
        try simp only [Act.put]
        try simp only [List.setIfInBounds_toArray]
        try simp only [List.set_cons_succ]
        try simp only [List.set_cons_zero]
        refine wpAny_ready (rs := [1]) (by kernel_rfl) (by simp) ?_
        refine AllReady.cons rfl (fun K hK => ?_) AllReady.nil
        refine step_load_row rfl 57 (.tmp 7) rfl Pm rfl 57 (AA M) (0, 0) _ ((setRow_other _ _ _ _ (by have := HKs5.out.l; omega)).trans HKs5.out.p) Try.underlying57 ⟨_, _, rfl⟩ (by rw [infoA, AA_size]) ?_
        try (refine hK _ _ ?_; clear hK K)
        try simp only [List.getElem_toArray]
        try simp only [List.getElem_cons_succ]
        try simp only [List.getElem_cons_zero]
        try simp only [Act.put]
        try simp only [List.setIfInBounds_toArray]
        try simp only [List.set_cons_succ]
        try simp only [List.set_cons_zero]
        refine wpAny_take (i := 6) (v := .bool R) rfl (by kernel_rfl) (by kernel_rfl) (by kernel_rfl) (fun _ _ _ h => h) (Or.inl ⟨by rfl, ?y6⟩) ?_
        case y6 => intro w; go_simp; first | done | rfl
        try simp only [List.getElem_toArray]
        try simp only [List.getElem_cons_succ]
        try simp only [List.getElem_cons_zero]
        try simp only [Act.put]
        try simp only [List.setIfInBounds_toArray]
        try simp only [List.set_cons_succ]
        try simp only [List.set_cons_zero]
        refine wpAny_take (i := 8) (v := ?_) rfl (by kernel_rfl) (by kernel_rfl) (by kernel_rfl) (fun _ _ _ h => h) (Or.inl ⟨by rfl, ?y8⟩) ?_
        case y8 => intro w; go_simp; first | done | with_reducible rfl
        try simp only [List.getElem_toArray]
        try simp only [List.getElem_cons_succ]
        try simp only [List.getElem_cons_zero]
        try simp only [Act.put]
        try simp only [List.setIfInBounds_toArray]
        try simp only [List.set_cons_succ]
        try simp only [List.set_cons_zero]
        refine wpAny_done (by kernel_rfl) ?_ _
        go_wp2_with fail
        refine bodyPost_ret (results_row_tmp rfl _ _ (B + 1) 57 _ (0, 0) _ rfl (setRow_heap _ _ _ _ _ _ HKs5.out.z) Try.underlying57 ⟨_, _, rfl⟩ (by rw [infoA, AA_size])) rfl ⟨by rw [HM.out]; rfl, below_setRow HKs5.out.b (by omega) _⟩
      refine AllReady.cons rfl (fun K hK => ?_) ?_
      · refine step_load_row rfl 57 (.tmp 7) rfl Pm rfl 57 (AA M) (0, 0) _ HKs3.out.p Try.underlying57 ⟨_, _, rfl⟩ (by rw [infoA, AA_size]) ?_
        try (refine hK _ _ ?_; clear hK K)
        try simp only [List.getElem_toArray]
        try simp only [List.getElem_cons_succ]
        try simp only [List.getElem_cons_zero]
        try simp only [Act.put]
        try simp only [List.setIfInBounds_toArray]
        try simp only [List.set_cons_succ]
        try simp only [List.set_cons_zero]
        refine wpAny_ready (rs := [0, 5]) (by kernel_rfl) (by simp) ?_
        refine AllReady.cons rfl (fun K hK => ?_) ?_
        · refine step_load_row rfl 57 (.tmp 7) rfl Pm rfl 57 (AA M) (0, 0) _ HKs3.out.p Try.underlying57 ⟨_, _, rfl⟩ (by rw [infoA, AA_size]) ?_
          try (refine hK _ _ ?_; clear hK K)
          try simp only [List.getElem_toArray]
          try simp only [List.getElem_cons_succ]
          try simp only [List.getElem_cons_zero]
          try simp only [Act.put]
          try simp only [List.setIfInBounds_toArray]
          try simp only [List.set_cons_succ]
          try simp only [List.set_cons_zero]
          refine wpAny_ready (rs := [5]) (by kernel_rfl) (by simp) ?_
          refine AllReady.cons rfl (fun K hK => ?_) AllReady.nil
          go_simp
          go_at_fn 88
          refine (HFi.out _ HKs3.out.cell (HSA.out _ HKs3.out.b)).mono ?_
          rintro e w5 ⟨rfl, hb5⟩
          have HKs5 := Lib.hid (HKs3.out.later hb5)
          clear hb5
          go_wp2_with fail
          try (refine hK _ _ ?_; clear hK K)
          try simp only [List.getElem_toArray]
          try simp only [List.getElem_cons_succ]
          try simp only [List.getElem_cons_zero]
          try simp only [Act.put]
          try simp only [List.setIfInBounds_toArray]
          try simp only [List.set_cons_succ]
          try simp only [List.set_cons_zero]
          refine wpAny_take (i := 6) (v := .bool R) rfl (by kernel_rfl) (by kernel_rfl) (by kernel_rfl) (fun _ _ _ h => h) (Or.inl ⟨by rfl, ?y6⟩) ?_
          case y6 => intro w; go_simp; first | done | rfl
          try simp only [List.getElem_toArray]
          try simp only [List.getElem_cons_succ]
          try simp only [List.getElem_cons_zero]
          try simp only [Act.put]
          try simp only [List.setIfInBounds_toArray]
          try simp only [List.set_cons_succ]
          try simp only [List.set_cons_zero]
          refine wpAny_ready (rs := [7]) (by kernel_rfl) (by simp) ?_
          refine AllReady.cons rfl (fun K hK => ?_) AllReady.nil
          refine step_store_row rfl 57 (.tmp 4) (.tmp 37) rfl (B + 1) (AA M) rfl rfl 57 _ HKs5.out.z (by rw [infoA, AA_size]) (by show (AA fun _ => 0).size = _; rw [AA_size, AA_size]) (AA_one _) ?_
          try (refine hK _ _ ?_; clear hK K)
          try simp only [List.getElem_toArray]
          try simp only [List.getElem_cons_succ]
          try simp only [List.getElem_cons_zero]
          try simp only [Act.put]
          try simp only [List.setIfInBounds_toArray]
          try simp only [List.set_cons_succ]
          try simp only [List.set_cons_zero]
          refine wpAny_take (i := 8) (v := ?_) rfl (by kernel_rfl) (by kernel_rfl) (by kernel_rfl) (fun _ _ _ h => h) (Or.inl ⟨by rfl, ?y8⟩) ?_
          case y8 => intro w; go_simp; first | done | with_reducible rfl
          try simp only [List.getElem_toArray]
          try simp only [List.getElem_cons_succ]
          try simp only [List.getElem_cons_zero]
          try simp only [Act.put]
          try simp only [List.setIfInBounds_toArray]
          try simp only [List.set_cons_succ]
          try simp only [List.set_cons_zero]
          refine wpAny_done (by kernel_rfl) ?_ _
          go_wp2_with fail
          refine bodyPost_ret (results_row_tmp rfl _ _ (B + 1) 57 _ (0, 0) _ rfl (setRow_heap _ _ _ _ _ _ HKs5.out.z) Try.underlying57 ⟨_, _, rfl⟩ (by rw [infoA, AA_size])) rfl ⟨by rw [HM.out]; rfl, below_setRow HKs5.out.b (by omega) _⟩
        refine AllReady.cons rfl (fun K hK => ?_) AllReady.nil
        go_simp
        go_at_fn 88
        refine (HFi.out _ HKs3.out.cell (HSA.out _ HKs3.out.b)).mono ?_
        rintro e w5 ⟨rfl, hb5⟩
        have HKs5 := Lib.hid (HKs3.out.later hb5)
        clear hb5
        go_wp2_with fail
        try (refine hK _ _ ?_; clear hK K)
        try simp only [List.getElem_toArray]
        try simp only [List.getElem_cons_succ]
        try simp only [List.getElem_cons_zero]
        try simp only [Act.put]
        try simp only [List.setIfInBounds_toArray]
        try simp only [List.set_cons_succ]
        try simp only [List.set_cons_zero]
        refine wpAny_take (i := 6) (v := .bool R) rfl (by kernel_rfl) (by kernel_rfl) (by kernel_rfl) (fun _ _ _ h => h) (Or.inl ⟨by rfl, ?y6⟩) ?_
        case y6 => intro w; go_simp; first | done | rfl
        try simp only [List.getElem_toArray]
        try simp only [List.getElem_cons_succ]
        try simp only [List.getElem_cons_zero]
        try simp only [Act.put]
        try simp only [List.setIfInBounds_toArray]
        try simp only [List.set_cons_succ]
        try simp only [List.set_cons_zero]
        refine wpAny_ready (rs := [0]) (by kernel_rfl) (by simp) ?_
        refine AllReady.cons rfl (fun K hK => ?_) AllReady.nil
        refine step_load_row rfl 57 (.tmp 7) rfl Pm rfl 57 (AA M) (0, 0) _ HKs5.out.p Try.underlying57 ⟨_, _, rfl⟩ (by rw [infoA, AA_size]) ?_
        try (refine hK _ _ ?_; clear hK K)
        try simp only [List.getElem_toArray]
        try simp only [List.getElem_cons_succ]
        try simp only [List.getElem_cons_zero]
        try simp only [Act.put]
        try simp only [List.setIfInBounds_toArray]
        try simp only [List.set_cons_succ]
        try simp only [List.set_cons_zero]
        refine wpAny_ready (rs := [7]) (by kernel_rfl) (by simp) ?_
        refine AllReady.cons rfl (fun K hK => ?_) AllReady.nil
        refine step_store_row rfl 57 (.tmp 4) (.tmp 37) rfl (B + 1) (AA M) rfl rfl 57 _ HKs5.out.z (by rw [infoA, AA_size]) (by show (AA fun _ => 0).size = _; rw [AA_size, AA_size]) (AA_one _) ?_
        try (refine hK _ _ ?_; clear hK K)
        try simp only [List.getElem_toArray]
        try simp only [List.getElem_cons_succ]
        try simp only [List.getElem_cons_zero]
        try simp only [Act.put]
        try simp only [List.setIfInBounds_toArray]
        try simp only [List.set_cons_succ]
        try simp only [List.set_cons_zero]
        refine wpAny_take (i := 8) (v := ?_) rfl (by kernel_rfl) (by kernel_rfl) (by kernel_rfl) (fun _ _ _ h => h) (Or.inl ⟨by rfl, ?y8⟩) ?_
        case y8 => intro w; go_simp; first | done | with_reducible rfl
        try simp only [List.getElem_toArray]
        try simp only [List.getElem_cons_succ]
        try simp only [List.getElem_cons_zero]
        try simp only [Act.put]
        try simp only [List.setIfInBounds_toArray]
        try simp only [List.set_cons_succ]
        try simp only [List.set_cons_zero]
        refine wpAny_done (by kernel_rfl) ?_ _
        go_wp2_with fail
        refine bodyPost_ret (results_row_tmp rfl _ _ (B + 1) 57 _ (0, 0) _ rfl (setRow_heap _ _ _ _ _ _ HKs5.out.z) Try.underlying57 ⟨_, _, rfl⟩ (by rw [infoA, AA_size])) rfl ⟨by rw [HM.out]; rfl, below_setRow HKs5.out.b (by omega) _⟩
      refine AllReady.cons rfl (fun K hK => ?_) AllReady.nil
      go_simp
      go_at_fn 88
      refine (HFi.out _ HKs3.out.cell (HSA.out _ HKs3.out.b)).mono ?_
      rintro e w5 ⟨rfl, hb5⟩
      have HKs5 := Lib.hid (HKs3.out.later hb5)
      clear hb5
      go_wp2_with fail
      try (refine hK _ _ ?_; clear hK K)
      try simp only [List.getElem_toArray]
      try simp only [List.getElem_cons_succ]
      try simp only [List.getElem_cons_zero]
      try simp only [Act.put]
      try simp only [List.setIfInBounds_toArray]
      try simp only [List.set_cons_succ]
      try simp only [List.set_cons_zero]
      refine wpAny_ready (rs := [0, 1]) (by kernel_rfl) (by simp) ?_
      refine AllReady.cons rfl (fun K hK => ?_) ?_
      · refine step_load_row rfl 57 (.tmp 7) rfl Pm rfl 57 (AA M) (0, 0) _ HKs5.out.p Try.underlying57 ⟨_, _, rfl⟩ (by rw [infoA, AA_size]) ?_
        try (refine hK _ _ ?_; clear hK K)
        try simp only [List.getElem_toArray]
        try simp only [List.getElem_cons_succ]
        try simp only [List.getElem_cons_zero]
        try simp only [Act.put]
        try simp only [List.setIfInBounds_toArray]
        try simp only [List.set_cons_succ]
        try simp only [List.set_cons_zero]
        refine wpAny_ready (rs := [1, 7]) (by kernel_rfl) (by simp) ?_
        refine AllReady.cons rfl (fun K hK => ?_) ?_
        · refine step_load_row rfl 57 (.tmp 7) rfl Pm rfl 57 (AA M) (0, 0) _ HKs5.out.p Try.underlying57 ⟨_, _, rfl⟩ (by rw [infoA, AA_size]) ?_
          try (refine hK _ _ ?_; clear hK K)
          try simp only [List.getElem_toArray]
          try simp only [List.getElem_cons_succ]
          try simp only [List.getElem_cons_zero]
          try simp only [Act.put]
          try simp only [List.setIfInBounds_toArray]
          try simp only [List.set_cons_succ]
          try simp only [List.set_cons_zero]
          refine wpAny_take (i := 6) (v := .bool R) rfl (by kernel_rfl) (by kernel_rfl) (by kernel_rfl) (fun _ _ _ h => h) (Or.inl ⟨by rfl, ?y6⟩) ?_
          case y6 => intro w; go_simp; first | done | rfl
          try simp only [List.getElem_toArray]
          try simp only [List.getElem_cons_succ]
          try simp only [List.getElem_cons_zero]
          try simp only [Act.put]
          try simp only [List.setIfInBounds_toArray]
          try simp only [List.set_cons_succ]
          try simp only [List.set_cons_zero]
          refine wpAny_ready (rs := [7]) (by kernel_rfl) (by simp) ?_
          refine AllReady.cons rfl (fun K hK => ?_) AllReady.nil
          refine step_store_row rfl 57 (.tmp 4) (.tmp 37) rfl (B + 1) (AA M) rfl rfl 57 _ HKs5.out.z (by rw [infoA, AA_size]) (by show (AA fun _ => 0).size = _; rw [AA_size, AA_size]) (AA_one _) ?_
          try (refine hK _ _ ?_; clear hK K)
          try simp only [List.getElem_toArray]
          try simp only [List.getElem_cons_succ]
          try simp only [List.getElem_cons_zero]
          try simp only [Act.put]
          try simp only [List.setIfInBounds_toArray]
          try simp only [List.set_cons_succ]
          try simp only [List.set_cons_zero]
          refine wpAny_take (i := 8) (v := ?_) rfl (by kernel_rfl) (by kernel_rfl) (by kernel_rfl) (fun _ _ _ h => h) (Or.inl ⟨by rfl, ?y8⟩) ?_
          case y8 => intro w; go_simp; first | done | with_reducible rfl
          try simp only [List.getElem_toArray]
          try simp only [List.getElem_cons_succ]
          try simp only [List.getElem_cons_zero]
          try simp only [Act.put]
          try simp only [List.setIfInBounds_toArray]
          try simp only [List.set_cons_succ]
          try simp only [List.set_cons_zero]
          refine wpAny_done (by kernel_rfl) ?_ _
          go_wp2_with fail
          refine bodyPost_ret (results_row_tmp rfl _ _ (B + 1) 57 _ (0, 0) _ rfl (setRow_heap _ _ _ _ _ _ HKs5.out.z) Try.underlying57 ⟨_, _, rfl⟩ (by rw [infoA, AA_size])) rfl ⟨by rw [HM.out]; rfl, below_setRow HKs5.out.b (by omega) _⟩
        refine AllReady.cons rfl (fun K hK => ?_) AllReady.nil
        refine step_store_row rfl 57 (.tmp 4) (.tmp 37) rfl (B + 1) (AA M) rfl rfl 57 _ HKs5.out.z (by rw [infoA, AA_size]) (by show (AA fun _ => 0).size = _; rw [AA_size, AA_size]) (AA_one _) ?_
        try (refine hK _ _ ?_; clear hK K)
        try simp only [List.getElem_toArray]
        try simp only [List.getElem_cons_succ]
        try simp only [List.getElem_cons_zero]
        try simp only [Act.put]
        try simp only [List.setIfInBounds_toArray]
        try simp only [List.set_cons_succ]
        try simp only [List.set_cons_zero]
        refine wpAny_ready (rs := [1]) (by kernel_rfl) (by simp) ?_
        refine AllReady.cons rfl (fun K hK => ?_) AllReady.nil
        refine step_load_row rfl 57 (.tmp 7) rfl Pm rfl 57 (AA M) (0, 0) _ ((setRow_other _ _ _ _ (by have := HKs5.out.l; omega)).trans HKs5.out.p) Try.underlying57 ⟨_, _, rfl⟩ (by rw [infoA, AA_size]) ?_
        try (refine hK _ _ ?_; clear hK K)
        try simp only [List.getElem_toArray]
        try simp only [List.getElem_cons_succ]
        try simp only [List.getElem_cons_zero]
        try simp only [Act.put]
        try simp only [List.setIfInBounds_toArray]
        try simp only [List.set_cons_succ]
        try simp only [List.set_cons_zero]
        refine wpAny_take (i := 6) (v := .bool R) rfl (by kernel_rfl) (by kernel_rfl) (by kernel_rfl) (fun _ _ _ h => h) (Or.inl ⟨by rfl, ?y6⟩) ?_
        case y6 => intro w; go_simp; first | done | rfl
        try simp only [List.getElem_toArray]
        try simp only [List.getElem_cons_succ]
        try simp only [List.getElem_cons_zero]
        try simp only [Act.put]
        try simp only [List.setIfInBounds_toArray]
        try simp only [List.set_cons_succ]
        try simp only [List.set_cons_zero]
        refine wpAny_take (i := 8) (v := ?_) rfl (by kernel_rfl) (by kernel_rfl) (by kernel_rfl) (fun _ _ _ h => h) (Or.inl ⟨by rfl, ?y8⟩) ?_
        case y8 => intro w; go_simp; first | done | with_reducible rfl
        try simp only [List.getElem_toArray]
        try simp only [List.getElem_cons_succ]
        try simp only [List.getElem_cons_zero]
        try simp only [Act.put]
        try simp only [List.setIfInBounds_toArray]
        try simp only [List.set_cons_succ]
        try simp only [List.set_cons_zero]
        refine wpAny_done (by kernel_rfl) ?_ _
        go_wp2_with fail
        refine bodyPost_ret (results_row_tmp rfl _ _ (B + 1) 57 _ (0, 0) _ rfl (setRow_heap _ _ _ _ _ _ HKs5.out.z) Try.underlying57 ⟨_, _, rfl⟩ (by rw [infoA, AA_size])) rfl ⟨by rw [HM.out]; rfl, below_setRow HKs5.out.b (by omega) _⟩
      refine AllReady.cons rfl (fun K hK => ?_) AllReady.nil
      refine step_load_row rfl 57 (.tmp 7) rfl Pm rfl 57 (AA M) (0, 0) _ HKs5.out.p Try.underlying57 ⟨_, _, rfl⟩ (by rw [infoA, AA_size]) ?_
      try (refine hK _ _ ?_; clear hK K)
      try simp only [List.getElem_toArray]
      try simp only [List.getElem_cons_succ]
      try simp only [List.getElem_cons_zero]
      try simp only [Act.put]
      try simp only [List.setIfInBounds_toArray]
      try simp only [List.set_cons_succ]
      try simp only [List.set_cons_zero]
      refine wpAny_take (i := 6) (v := .bool R) rfl (by kernel_rfl) (by kernel_rfl) (by kernel_rfl) (fun _ _ _ h => h) (Or.inl ⟨by rfl, ?y6⟩) ?_
      case y6 => intro w; go_simp; first | done | rfl
      try simp only [List.getElem_toArray]
      try simp only [List.getElem_cons_succ]
      try simp only [List.getElem_cons_zero]
      try simp only [Act.put]
      try simp only [List.setIfInBounds_toArray]
      try simp only [List.set_cons_succ]
      try simp only [List.set_cons_zero]
      refine wpAny_ready (rs := [0]) (by kernel_rfl) (by simp) ?_
      refine AllReady.cons rfl (fun K hK => ?_) AllReady.nil
      refine step_load_row rfl 57 (.tmp 7) rfl Pm rfl 57 (AA M) (0, 0) _ HKs5.out.p Try.underlying57 ⟨_, _, rfl⟩ (by rw [infoA, AA_size]) ?_
      try (refine hK _ _ ?_; clear hK K)
      try simp only [List.getElem_toArray]
      try simp only [List.getElem_cons_succ]
      try simp only [List.getElem_cons_zero]
      try simp only [Act.put]
      try simp only [List.setIfInBounds_toArray]
      try simp only [List.set_cons_succ]
      try simp only [List.set_cons_zero]
      refine wpAny_ready (rs := [7]) (by kernel_rfl) (by simp) ?_
      refine AllReady.cons rfl (fun K hK => ?_) AllReady.nil
      refine step_store_row rfl 57 (.tmp 4) (.tmp 37) rfl (B + 1) (AA M) rfl rfl 57 _ HKs5.out.z (by rw [infoA, AA_size]) (by show (AA fun _ => 0).size = _; rw [AA_size, AA_size]) (AA_one _) ?_
      try (refine hK _ _ ?_; clear hK K)
      try simp only [List.getElem_toArray]
      try simp only [List.getElem_cons_succ]
      try simp only [List.getElem_cons_zero]
      try simp only [Act.put]
      try simp only [List.setIfInBounds_toArray]
      try simp only [List.set_cons_succ]
      try simp only [List.set_cons_zero]
      refine wpAny_take (i := 8) (v := ?_) rfl (by kernel_rfl) (by kernel_rfl) (by kernel_rfl) (fun _ _ _ h => h) (Or.inl ⟨by rfl, ?y8⟩) ?_
      case y8 => intro w; go_simp; first | done | with_reducible rfl
      try simp only [List.getElem_toArray]
      try simp only [List.getElem_cons_succ]
      try simp only [List.getElem_cons_zero]
      try simp only [Act.put]
      try simp only [List.setIfInBounds_toArray]
      try simp only [List.set_cons_succ]
      try simp only [List.set_cons_zero]
      refine wpAny_done (by kernel_rfl) ?_ _
      go_wp2_with fail
      refine bodyPost_ret (results_row_tmp rfl _ _ (B + 1) 57 _ (0, 0) _ rfl (setRow_heap _ _ _ _ _ _ HKs5.out.z) Try.underlying57 ⟨_, _, rfl⟩ (by rw [infoA, AA_size])) rfl ⟨by rw [HM.out]; rfl, below_setRow HKs5.out.b (by omega) _⟩

end Go.Proofs.Ytghfkgbmmkcjhaa
