/- The arrivals by ordered sends. -/
import Derived.Test.YtghfkgbmmkcjhaaAby
namespace Go.Proofs.Ytghfkgbmmkcjhaa
open Go.ChangeShapes Go.WideShapes Go.ChangeAt Go.RowKit
set_option linter.unusedVariables false


set_option maxHeartbeats 4000000 in
set_option maxRecDepth 20000 in
theorem by_zero (ao : Option Addr) (cap : Nat) (d : Int) (w : World) :
    Calls Try.prog 77 #[.int .i64 d, .slice ao 0 cap] w fun e w' => e = .returned (.tuple #[.agg (AA (mkA d befA [])), .bool ((List.range 40).all fun (i : Nat) => mkA d befA [] i == fillA d befA [] i)]) ∧ Below w.heap.size w w' := by
  have eg : ∀ args w, (callFunc 88 args).run Try.prog w = .ok (.enter 88 args) w := enters_of Try.func88 (by kernel_rfl) rfl
  have hmf : ∀ (fn : Fn) (first cap : Array Value) (w : World), (Instr.makeFunc fn first cap).run Try.prog w = .ok (.func fn first cap) w := fun _ _ _ _ => rfl
  obtain ⟨l, hl⟩ : ∃ l : List Snd, l = [] := ⟨_, rfl⟩
  rw [← hl]
  have HS : Hid (SmallS d l) := by rw [hl]; exact fun i hi => absurd hi (by simp)
  have Hn : Hid (0 = l.length) := by rw [hl]; rfl
  have HL := Lib.hid hl
  clear hl
  obtain ⟨R, HR⟩ : ∃ R : Bool, Hid (R = (List.range 40).all fun (i : Nat) => mkA d befA l i == fillA d befA l i) := ⟨_, Lib.hid rfl⟩
  rw [← HR.out]
  go_enter Try.func77, Try.ntmps77
  go_upto_region 2 with (fail)
  rw [← ZA_eq]
  obtain ⟨B, hB⟩ : ∃ B, w.heap.size = B := ⟨_, rfl⟩
  have hBw : w.heap.size ≤ B := by omega
  have HB0 : Hid (((w.alloc (.cells #[.int .i64 d] 3)).alloc (.cells ZA 57)).heap[B]? = some (.cells #[.int .i64 d] 3 (0, 0))) := by
    show _ = _
    rw [← hB, Below.heap_alloc _ _ _ (by simp), heap_alloc_new]
  have HZ0 : Hid (((w.alloc (.cells #[.int .i64 d] 3)).alloc (.cells ZA 57)).heap[B + 1]? = some (.cells ZA 57 (0, 0))) := by
    show _ = _
    rw [← hB]
    have := heap_alloc_new (w.alloc (.cells #[.int .i64 d] 3)) (.cells ZA 57)
    simpa using this
  have HH0 : Hid (Below w.heap.size w ((w.alloc (.cells #[.int .i64 d] 3)).alloc (.cells ZA 57))) := ((Below.refl _ _).alloc (Nat.le_refl _) _).alloc (by simp) _
  rw [hB]
  obtain ⟨w0, hw0⟩ : ∃ w0, ((w.alloc (.cells #[.int .i64 d] 3)).alloc (.cells ZA 57)) = w0 := ⟨_, rfl⟩
  rw [hw0] at HB0 HZ0 HH0 ⊢
  clear hw0 hB
  go_wp2_with fail
  refine (before_any w0).mono ?_
  rintro e w1 ⟨rfl, hb1⟩
  have hB1 : B + 1 < w0.heap.size := (Array.getElem?_eq_some_iff.1 HZ0.out).1
  have hs1 := hb1.size
  go_wp2_with (with_reducible refine wpList_store_row rfl 57 (.tmp 7) (.tmp 11) rfl w1.heap.size (AA befA) ?r1a ?r1b 57 _ (heap_alloc_new w1 _) ?r1c ?r1d ?r1e ?_)
  case r1a => rfl
  case r1b => rfl
  case r1c => rw [infoA, AA_size]
  case r1d => first | rfl | (rw [AA_size]; rfl) | (rw [AA_size, AA_size])
  case r1e => exact AA_one _
  try simp only [Act.put]
  rw [← ZA_eq]
  have HK0 : Hid (Keep B w1.heap.size d befA w ((w1.alloc (.cells ZA 57)).setRow w1.heap.size (AA befA))) := by
    refine ⟨?_, ?_, ?_, ?_, by omega⟩
    · rw [setRow_other _ _ _ _ (by omega), Below.heap_alloc _ _ _ (by omega)]
      exact (hb1.block _ (by omega)).trans HB0.out
    · rw [setRow_other _ _ _ _ (by omega), Below.heap_alloc _ _ _ (by omega)]
      exact (hb1.block _ hB1).trans HZ0.out
    · exact setRow_heap _ _ _ _ _ _ (heap_alloc_new w1 _)
    · have hs0 := HH0.out.size
      exact below_setRow ((HH0.out.trans (hb1.mono hs0)).alloc (by omega) _) (by omega) _
  obtain ⟨w3, hw3⟩ : ∃ w3, ((w1.alloc (.cells ZA 57)).setRow w1.heap.size (AA befA)) = w3 := ⟨_, rfl⟩
  rw [hw3] at HK0 ⊢
  obtain ⟨Pm, hPm⟩ : ∃ Pm, w1.heap.size = Pm := ⟨_, rfl⟩
  rw [hPm] at HK0 ⊢
  clear hw3 hPm HB0 HZ0 HH0 hb1 hs1 hB1
  go_loopw [14] (fun i wr => i = .int .i64 0 ∧ Hid (Keep B Pm d befA w wr)) (fun _ _ => 0)
  case atStart => exact ⟨rfl, HK0⟩
  case round =>
    clear HK0
    obtain ⟨rfl, HK⟩ := hrel
    have hsz := HK.out.b.size
    · have hp : befA = mkA d befA l := by rw [HL.out]; rfl
      rw [hp] at HK
      clear hp
      obtain ⟨M, hM⟩ : ∃ M, mkA d befA l = M := ⟨_, rfl⟩
      obtain ⟨G, hG⟩ : ∃ G, fillA d befA l = G := ⟨_, rfl⟩
      have HM := Lib.hid hM
      rw [hM] at HK
      have hEq := fun W => eqAA M G W
      have hRR : ((List.range 40).all fun (i : Nat) => M i == G i) = R := by rw [HR.out, hM, hG]
      rw [hRR] at hEq
      have hFi := fun (W : World) (hq : W.cell? ⟨B, 0, none⟩ = some (.int .i64 d)) (hW : SendsAt W ao l) => fill_any ao cap B befA d l 0 W Hn (by omega) hq HS hW
      rw [hG] at hFi
      have HFi := Lib.hid hFi
      have HSA : Hid (∀ W : World, Below w.heap.size w W → SendsAt W ao l) := fun W hW => .inl HL.out
      clear hM hG hRR hFi
      go_upto_region 9 with (fail)
      refine wp_region_any (by kernel_rfl) ?_
      change wpAny _ _ _ _ _ _ _ (World.drew _)
      have HKs0 := Lib.hid HK.out.drew
      refine wpAny_take (i := 2) (v := ?_) rfl (by kernel_rfl) (by kernel_rfl) (by kernel_rfl) (fun _ _ _ h => h) (Or.inl ⟨by rfl, ?y2⟩) ?_
      case y2 => intro w; go_simp; first | done | with_reducible rfl
      try simp only [List.getElem_toArray]
      try simp only [List.getElem_cons_succ]
      try simp only [List.getElem_cons_zero]
      try simp only [Act.put]
      try simp only [List.setIfInBounds_toArray]
      try simp only [List.set_cons_succ]
      try simp only [List.set_cons_zero]
      refine wpAny_take (i := 4) (v := ?_) rfl (by kernel_rfl) (by kernel_rfl) (by kernel_rfl) (fun _ _ _ h => h) (Or.inl ⟨by rfl, ?y4⟩) ?_
      case y4 => intro w; go_simp; first | done | with_reducible rfl
      try simp only [List.getElem_toArray]
      try simp only [List.getElem_cons_succ]
      try simp only [List.getElem_cons_zero]
      try simp only [Act.put]
      try simp only [List.setIfInBounds_toArray]
      try simp only [List.set_cons_succ]
      try simp only [List.set_cons_zero]
      refine wpAny_ready (rs := [0, 1, 3]) (by kernel_rfl) (by simp) ?_
      refine AllReady.cons rfl (fun K hK => ?_) ?_
      · refine step_load_row rfl 57 (.tmp 7) rfl Pm rfl 57 (AA M) (0, 0) _ HKs0.out.p Try.underlying57 ⟨_, _, rfl⟩ (by rw [infoA, AA_size]) ?_
        try (refine hK _ _ ?_; clear hK K)
        try simp only [List.getElem_toArray]
        try simp only [List.getElem_cons_succ]
        try simp only [List.getElem_cons_zero]
        try simp only [Act.put]
        try simp only [List.setIfInBounds_toArray]
        try simp only [List.set_cons_succ]
        try simp only [List.set_cons_zero]
        refine wpAny_ready (rs := [1, 3]) (by kernel_rfl) (by simp) ?_
        refine AllReady.cons rfl (fun K hK => ?_) ?_
        · refine step_load_row rfl 57 (.tmp 7) rfl Pm rfl 57 (AA M) (0, 0) _ HKs0.out.p Try.underlying57 ⟨_, _, rfl⟩ (by rw [infoA, AA_size]) ?_
          try (refine hK _ _ ?_; clear hK K)
          try simp only [List.getElem_toArray]
          try simp only [List.getElem_cons_succ]
          try simp only [List.getElem_cons_zero]
          try simp only [Act.put]
          try simp only [List.setIfInBounds_toArray]
          try simp only [List.set_cons_succ]
          try simp only [List.set_cons_zero]
          refine wpAny_ready (rs := [3]) (by kernel_rfl) (by simp) ?_
          refine AllReady.cons rfl (fun K hK => ?_) AllReady.nil
          go_simp
          go_wp2_with (go_at_call 89; refine (before_any _).mono ?_; rintro e w3 ⟨rfl, hb3⟩; have HKs3 := Lib.hid (HKs0.out.later hb3); clear hb3)
          try (refine hK _ _ ?_; clear hK K)
          try simp only [List.getElem_toArray]
          try simp only [List.getElem_cons_succ]
          try simp only [List.getElem_cons_zero]
          try simp only [Act.put]
          try simp only [List.setIfInBounds_toArray]
          try simp only [List.set_cons_succ]
          try simp only [List.set_cons_zero]
          refine wpAny_ready (rs := [5]) (by kernel_rfl) (by simp) ?_
          refine AllReady.cons rfl (fun K hK => ?_) AllReady.nil
          go_simp
          go_at_fn 88
          refine (HFi.out _ HKs3.out.cell (HSA.out _ HKs3.out.b)).mono ?_
          rintro e w5 ⟨rfl, hb5⟩
          have HKs5 := Lib.hid (HKs3.out.later hb5)
          clear hb5
          go_wp2_with fail
          try (refine hK _ _ ?_; clear hK K)
          try simp only [List.getElem_toArray]
          try simp only [List.getElem_cons_succ]
          try simp only [List.getElem_cons_zero]
          try simp only [Act.put]
          try simp only [List.setIfInBounds_toArray]
          try simp only [List.set_cons_succ]
          try simp only [List.set_cons_zero]
          refine wpAny_take (i := 6) (v := .bool R) rfl (by kernel_rfl) (by kernel_rfl) (by kernel_rfl) (fun _ _ _ h => h) (Or.inl ⟨by rfl, ?y6⟩) ?_
          case y6 => intro w; go_simp; first | done | rfl
          try simp only [List.getElem_toArray]
          try simp only [List.getElem_cons_succ]
          try simp only [List.getElem_cons_zero]
          try simp only [Act.put]
          try simp only [List.setIfInBounds_toArray]
          try simp only [List.set_cons_succ]
          try simp only [List.set_cons_zero]
          refine wpAny_ready (rs := [7]) (by kernel_rfl) (by simp) ?_
          refine AllReady.cons rfl (fun K hK => ?_) AllReady.nil
          refine step_store_row rfl 57 (.tmp 4) (.tmp 37) rfl (B + 1) (AA M) rfl rfl 57 _ HKs5.out.z (by rw [infoA, AA_size]) (by show (AA fun _ => 0).size = _; rw [AA_size, AA_size]) (AA_one _) ?_
          try (refine hK _ _ ?_; clear hK K)
          try simp only [List.getElem_toArray]
          try simp only [List.getElem_cons_succ]
          try simp only [List.getElem_cons_zero]
          try simp only [Act.put]
          try simp only [List.setIfInBounds_toArray]
          try simp only [List.set_cons_succ]
          try simp only [List.set_cons_zero]
          refine wpAny_take (i := 8) (v := ?_) rfl (by kernel_rfl) (by kernel_rfl) (by kernel_rfl) (fun _ _ _ h => h) (Or.inl ⟨by rfl, ?y8⟩) ?_
          case y8 => intro w; go_simp; first | done | with_reducible rfl
          try simp only [List.getElem_toArray]
          try simp only [List.getElem_cons_succ]
          try simp only [List.getElem_cons_zero]
          try simp only [Act.put]
          try simp only [List.setIfInBounds_toArray]
          try simp only [List.set_cons_succ]
          try simp only [List.set_cons_zero]
          refine wpAny_done (by kernel_rfl) ?_ _
          go_wp2_with fail
          refine bodyPost_ret (results_row_tmp rfl _ _ (B + 1) 57 _ (0, 0) _ rfl (setRow_heap _ _ _ _ _ _ HKs5.out.z) Try.underlying57 ⟨_, _, rfl⟩ (by rw [infoA, AA_size])) rfl ⟨by rw [HM.out]; rfl, below_setRow HKs5.out.b (by omega) _⟩
        refine AllReady.cons rfl (fun K hK => ?_) AllReady.nil
        go_simp
        go_wp2_with (go_at_call 89; refine (before_any _).mono ?_; rintro e w3 ⟨rfl, hb3⟩; have HKs3 := Lib.hid (HKs0.out.later hb3); clear hb3)
        try (refine hK _ _ ?_; clear hK K)
        try simp only [List.getElem_toArray]
        try simp only [List.getElem_cons_succ]
        try simp only [List.getElem_cons_zero]
        try simp only [Act.put]
        try simp only [List.setIfInBounds_toArray]
        try simp only [List.set_cons_succ]
        try simp only [List.set_cons_zero]
        refine wpAny_ready (rs := [1, 5]) (by kernel_rfl) (by simp) ?_
        refine AllReady.cons rfl (fun K hK => ?_) ?_
        · refine step_load_row rfl 57 (.tmp 7) rfl Pm rfl 57 (AA M) (0, 0) _ HKs3.out.p Try.underlying57 ⟨_, _, rfl⟩ (by rw [infoA, AA_size]) ?_
          try (refine hK _ _ ?_; clear hK K)
          try simp only [List.getElem_toArray]
          try simp only [List.getElem_cons_succ]
          try simp only [List.getElem_cons_zero]
          try simp only [Act.put]
          try simp only [List.setIfInBounds_toArray]
          try simp only [List.set_cons_succ]
          try simp only [List.set_cons_zero]
          refine wpAny_ready (rs := [5]) (by kernel_rfl) (by simp) ?_
          refine AllReady.cons rfl (fun K hK => ?_) AllReady.nil
          go_simp
          go_at_fn 88
          refine (HFi.out _ HKs3.out.cell (HSA.out _ HKs3.out.b)).mono ?_
          rintro e w5 ⟨rfl, hb5⟩
          have HKs5 := Lib.hid (HKs3.out.later hb5)
          clear hb5
          go_wp2_with fail
          try (refine hK _ _ ?_; clear hK K)
          try simp only [List.getElem_toArray]
          try simp only [List.getElem_cons_succ]
          try simp only [List.getElem_cons_zero]
          try simp only [Act.put]
          try simp only [List.setIfInBounds_toArray]
          try simp only [List.set_cons_succ]
          try simp only [List.set_cons_zero]
          refine wpAny_take (i := 6) (v := .bool R) rfl (by kernel_rfl) (by kernel_rfl) (by kernel_rfl) (fun _ _ _ h => h) (Or.inl ⟨by rfl, ?y6⟩) ?_
          case y6 => intro w; go_simp; first | done | rfl
          try simp only [List.getElem_toArray]
          try simp only [List.getElem_cons_succ]
          try simp only [List.getElem_cons_zero]
          try simp only [Act.put]
          try simp only [List.setIfInBounds_toArray]
          try simp only [List.set_cons_succ]
          try simp only [List.set_cons_zero]
          refine wpAny_ready (rs := [7]) (by kernel_rfl) (by simp) ?_
          refine AllReady.cons rfl (fun K hK => ?_) AllReady.nil
          refine step_store_row rfl 57 (.tmp 4) (.tmp 37) rfl (B + 1) (AA M) rfl rfl 57 _ HKs5.out.z (by rw [infoA, AA_size]) (by show (AA fun _ => 0).size = _; rw [AA_size, AA_size]) (AA_one _) ?_
          try (refine hK _ _ ?_; clear hK K)
          try simp only [List.getElem_toArray]
          try simp only [List.getElem_cons_succ]
          try simp only [List.getElem_cons_zero]
          try simp only [Act.put]
          try simp only [List.setIfInBounds_toArray]
          try simp only [List.set_cons_succ]
          try simp only [List.set_cons_zero]
          refine wpAny_take (i := 8) (v := ?_) rfl (by kernel_rfl) (by kernel_rfl) (by kernel_rfl) (fun _ _ _ h => h) (Or.inl ⟨by rfl, ?y8⟩) ?_
          case y8 => intro w; go_simp; first | done | with_reducible rfl
          try simp only [List.getElem_toArray]
          try simp only [List.getElem_cons_succ]
          try simp only [List.getElem_cons_zero]
          try simp only [Act.put]
          try simp only [List.setIfInBounds_toArray]
          try simp only [List.set_cons_succ]
          try simp only [List.set_cons_zero]
          refine wpAny_done (by kernel_rfl) ?_ _
          go_wp2_with fail
          refine bodyPost_ret (results_row_tmp rfl _ _ (B + 1) 57 _ (0, 0) _ rfl (setRow_heap _ _ _ _ _ _ HKs5.out.z) Try.underlying57 ⟨_, _, rfl⟩ (by rw [infoA, AA_size])) rfl ⟨by rw [HM.out]; rfl, below_setRow HKs5.out.b (by omega) _⟩
        refine AllReady.cons rfl (fun K hK => ?_) AllReady.nil
        go_simp
        go_at_fn 88
        refine (HFi.out _ HKs3.out.cell (HSA.out _ HKs3.out.b)).mono ?_
        rintro e w5 ⟨rfl, hb5⟩
        have HKs5 := Lib.hid (HKs3.out.later hb5)
        clear hb5
        go_wp2_with fail
        try (refine hK _ _ ?_; clear hK K)
        try simp only [List.getElem_toArray]
        try simp only [List.getElem_cons_succ]
        try simp only [List.getElem_cons_zero]
        try simp only [Act.put]
        try simp only [List.setIfInBounds_toArray]
        try simp only [List.set_cons_succ]
        try simp only [List.set_cons_zero]
        refine wpAny_ready (rs := [1, 7]) (by kernel_rfl) (by simp) ?_
        refine AllReady.cons rfl (fun K hK => ?_) ?_
        · refine step_load_row rfl 57 (.tmp 7) rfl Pm rfl 57 (AA M) (0, 0) _ HKs5.out.p Try.underlying57 ⟨_, _, rfl⟩ (by rw [infoA, AA_size]) ?_
          try (refine hK _ _ ?_; clear hK K)
          try simp only [List.getElem_toArray]
          try simp only [List.getElem_cons_succ]
          try simp only [List.getElem_cons_zero]
          try simp only [Act.put]
          try simp only [List.setIfInBounds_toArray]
          try simp only [List.set_cons_succ]
          try simp only [List.set_cons_zero]
          refine wpAny_take (i := 6) (v := .bool R) rfl (by kernel_rfl) (by kernel_rfl) (by kernel_rfl) (fun _ _ _ h => h) (Or.inl ⟨by rfl, ?y6⟩) ?_
          case y6 => intro w; go_simp; first | done | rfl
          try simp only [List.getElem_toArray]
          try simp only [List.getElem_cons_succ]
          try simp only [List.getElem_cons_zero]
          try simp only [Act.put]
          try simp only [List.setIfInBounds_toArray]
          try simp only [List.set_cons_succ]
          try simp only [List.set_cons_zero]
          refine wpAny_ready (rs := [7]) (by kernel_rfl) (by simp) ?_
          refine AllReady.cons rfl (fun K hK => ?_) AllReady.nil
          refine step_store_row rfl 57 (.tmp 4) (.tmp 37) rfl (B + 1) (AA M) rfl rfl 57 _ HKs5.out.z (by rw [infoA, AA_size]) (by show (AA fun _ => 0).size = _; rw [AA_size, AA_size]) (AA_one _) ?_
          try (refine hK _ _ ?_; clear hK K)
          try simp only [List.getElem_toArray]
          try simp only [List.getElem_cons_succ]
          try simp only [List.getElem_cons_zero]
          try simp only [Act.put]
          try simp only [List.setIfInBounds_toArray]
          try simp only [List.set_cons_succ]
          try simp only [List.set_cons_zero]
          refine wpAny_take (i := 8) (v := ?_) rfl (by kernel_rfl) (by kernel_rfl) (by kernel_rfl) (fun _ _ _ h => h) (Or.inl ⟨by rfl, ?y8⟩) ?_
          case y8 => intro w; go_simp; first | done | with_reducible rfl
          try simp only [List.getElem_toArray]
          try simp only [List.getElem_cons_succ]
          try simp only [List.getElem_cons_zero]
          try simp only [Act.put]
          try simp only [List.setIfInBounds_toArray]
          try simp only [List.set_cons_succ]
          try simp only [List.set_cons_zero]
          refine wpAny_done (by kernel_rfl) ?_ _
          go_wp2_with fail
          refine bodyPost_ret (results_row_tmp rfl _ _ (B + 1) 57 _ (0, 0) _ rfl (setRow_heap _ _ _ _ _ _ HKs5.out.z) Try.underlying57 ⟨_, _, rfl⟩ (by rw [infoA, AA_size])) rfl ⟨by rw [HM.out]; rfl, below_setRow HKs5.out.b (by omega) _⟩
        refine AllReady.cons rfl (fun K hK => ?_) AllReady.nil
        refine step_store_row rfl 57 (.tmp 4) (.tmp 37) rfl (B + 1) (AA M) rfl rfl 57 _ HKs5.out.z (by rw [infoA, AA_size]) (by show (AA fun _ => 0).size = _; rw [AA_size, AA_size]) (AA_one _) ?_
        try (refine hK _ _ ?_; clear hK K)
        try simp only [List.getElem_toArray]
        try simp only [List.getElem_cons_succ]
        try simp only [List.getElem_cons_zero]
        try simp only [Act.put]
        try simp only [List.setIfInBounds_toArray]
        try simp only [List.set_cons_succ]
        try simp only [List.set_cons_zero]
        refine wpAny_ready (rs := [1]) (by kernel_rfl) (by simp) ?_
        refine AllReady.cons rfl (fun K hK => ?_) AllReady.nil
        refine step_load_row rfl 57 (.tmp 7) rfl Pm rfl 57 (AA M) (0, 0) _ ((setRow_other _ _ _ _ (by have := HKs5.out.l; omega)).trans HKs5.out.p) Try.underlying57 ⟨_, _, rfl⟩ (by rw [infoA, AA_size]) ?_
        try (refine hK _ _ ?_; clear hK K)
        try simp only [List.getElem_toArray]
        try simp only [List.getElem_cons_succ]
        try simp only [List.getElem_cons_zero]
        try simp only [Act.put]
        try simp only [List.setIfInBounds_toArray]
        try simp only [List.set_cons_succ]
        try simp only [List.set_cons_zero]
        refine wpAny_take (i := 6) (v := .bool R) rfl (by kernel_rfl) (by kernel_rfl) (by kernel_rfl) (fun _ _ _ h => h) (Or.inl ⟨by rfl, ?y6⟩) ?_
        case y6 => intro w; go_simp; first | done | rfl
        try simp only [List.getElem_toArray]
        try simp only [List.getElem_cons_succ]
        try simp only [List.getElem_cons_zero]
        try simp only [Act.put]
        try simp only [List.setIfInBounds_toArray]
        try simp only [List.set_cons_succ]
        try simp only [List.set_cons_zero]
        refine wpAny_take (i := 8) (v := ?_) rfl (by kernel_rfl) (by kernel_rfl) (by kernel_rfl) (fun _ _ _ h => h) (Or.inl ⟨by rfl, ?y8⟩) ?_
        case y8 => intro w; go_simp; first | done | with_reducible rfl
        try simp only [List.getElem_toArray]
        try simp only [List.getElem_cons_succ]
        try simp only [List.getElem_cons_zero]
        try simp only [Act.put]
        try simp only [List.setIfInBounds_toArray]
        try simp only [List.set_cons_succ]
        try simp only [List.set_cons_zero]
        refine wpAny_done (by kernel_rfl) ?_ _
        go_wp2_with fail
        refine bodyPost_ret (results_row_tmp rfl _ _ (B + 1) 57 _ (0, 0) _ rfl (setRow_heap _ _ _ _ _ _ HKs5.out.z) Try.underlying57 ⟨_, _, rfl⟩ (by rw [infoA, AA_size])) rfl ⟨by rw [HM.out]; rfl, below_setRow HKs5.out.b (by omega) _⟩
      refine AllReady.cons rfl (fun K hK => ?_) ?_
      · refine step_load_row rfl 57 (.tmp 7) rfl Pm rfl 57 (AA M) (0, 0) _ HKs0.out.p Try.underlying57 ⟨_, _, rfl⟩ (by rw [infoA, AA_size]) ?_
        try (refine hK _ _ ?_; clear hK K)
        try simp only [List.getElem_toArray]
        try simp only [List.getElem_cons_succ]
        try simp only [List.getElem_cons_zero]
        try simp only [Act.put]
        try simp only [List.setIfInBounds_toArray]
        try simp only [List.set_cons_succ]
        try simp only [List.set_cons_zero]
        refine wpAny_ready (rs := [0, 3]) (by kernel_rfl) (by simp) ?_
        refine AllReady.cons rfl (fun K hK => ?_) ?_
        · refine step_load_row rfl 57 (.tmp 7) rfl Pm rfl 57 (AA M) (0, 0) _ HKs0.out.p Try.underlying57 ⟨_, _, rfl⟩ (by rw [infoA, AA_size]) ?_
          try (refine hK _ _ ?_; clear hK K)
          try simp only [List.getElem_toArray]
          try simp only [List.getElem_cons_succ]
          try simp only [List.getElem_cons_zero]
          try simp only [Act.put]
          try simp only [List.setIfInBounds_toArray]
          try simp only [List.set_cons_succ]
          try simp only [List.set_cons_zero]
          refine wpAny_ready (rs := [3]) (by kernel_rfl) (by simp) ?_
          refine AllReady.cons rfl (fun K hK => ?_) AllReady.nil
          go_simp
          go_wp2_with (go_at_call 89; refine (before_any _).mono ?_; rintro e w3 ⟨rfl, hb3⟩; have HKs3 := Lib.hid (HKs0.out.later hb3); clear hb3)
          try (refine hK _ _ ?_; clear hK K)
          try simp only [List.getElem_toArray]
          try simp only [List.getElem_cons_succ]
          try simp only [List.getElem_cons_zero]
          try simp only [Act.put]
          try simp only [List.setIfInBounds_toArray]
          try simp only [List.set_cons_succ]
          try simp only [List.set_cons_zero]
          refine wpAny_ready (rs := [5]) (by kernel_rfl) (by simp) ?_
          refine AllReady.cons rfl (fun K hK => ?_) AllReady.nil
          go_simp
          go_at_fn 88
          refine (HFi.out _ HKs3.out.cell (HSA.out _ HKs3.out.b)).mono ?_
          rintro e w5 ⟨rfl, hb5⟩
          have HKs5 := Lib.hid (HKs3.out.later hb5)
          clear hb5
          go_wp2_with fail
          try (refine hK _ _ ?_; clear hK K)
          try simp only [List.getElem_toArray]
          try simp only [List.getElem_cons_succ]
          try simp only [List.getElem_cons_zero]
          try simp only [Act.put]
          try simp only [List.setIfInBounds_toArray]
          try simp only [List.set_cons_succ]
          try simp only [List.set_cons_zero]
          refine wpAny_take (i := 6) (v := .bool R) rfl (by kernel_rfl) (by kernel_rfl) (by kernel_rfl) (fun _ _ _ h => h) (Or.inl ⟨by rfl, ?y6⟩) ?_
          case y6 => intro w; go_simp; first | done | rfl
          try simp only [List.getElem_toArray]
          try simp only [List.getElem_cons_succ]
          try simp only [List.getElem_cons_zero]
          try simp only [Act.put]
          try simp only [List.setIfInBounds_toArray]
          try simp only [List.set_cons_succ]
          try simp only [List.set_cons_zero]
          refine wpAny_ready (rs := [7]) (by kernel_rfl) (by simp) ?_
          refine AllReady.cons rfl (fun K hK => ?_) AllReady.nil
          refine step_store_row rfl 57 (.tmp 4) (.tmp 37) rfl (B + 1) (AA M) rfl rfl 57 _ HKs5.out.z (by rw [infoA, AA_size]) (by show (AA fun _ => 0).size = _; rw [AA_size, AA_size]) (AA_one _) ?_
          try (refine hK _ _ ?_; clear hK K)
          try simp only [List.getElem_toArray]
          try simp only [List.getElem_cons_succ]
          try simp only [List.getElem_cons_zero]
          try simp only [Act.put]
          try simp only [List.setIfInBounds_toArray]
          try simp only [List.set_cons_succ]
          try simp only [List.set_cons_zero]
          refine wpAny_take (i := 8) (v := ?_) rfl (by kernel_rfl) (by kernel_rfl) (by kernel_rfl) (fun _ _ _ h => h) (Or.inl ⟨by rfl, ?y8⟩) ?_
          case y8 => intro w; go_simp; first | done | with_reducible rfl
          try simp only [List.getElem_toArray]
          try simp only [List.getElem_cons_succ]
          try simp only [List.getElem_cons_zero]
          try simp only [Act.put]
          try simp only [List.setIfInBounds_toArray]
          try simp only [List.set_cons_succ]
          try simp only [List.set_cons_zero]
          refine wpAny_done (by kernel_rfl) ?_ _
          go_wp2_with fail
          refine bodyPost_ret (results_row_tmp rfl _ _ (B + 1) 57 _ (0, 0) _ rfl (setRow_heap _ _ _ _ _ _ HKs5.out.z) Try.underlying57 ⟨_, _, rfl⟩ (by rw [infoA, AA_size])) rfl ⟨by rw [HM.out]; rfl, below_setRow HKs5.out.b (by omega) _⟩
        refine AllReady.cons rfl (fun K hK => ?_) AllReady.nil
        go_simp
        go_wp2_with (go_at_call 89; refine (before_any _).mono ?_; rintro e w3 ⟨rfl, hb3⟩; have HKs3 := Lib.hid (HKs0.out.later hb3); clear hb3)
        try (refine hK _ _ ?_; clear hK K)
        try simp only [List.getElem_toArray]
        try simp only [List.getElem_cons_succ]
        try simp only [List.getElem_cons_zero]
        try simp only [Act.put]
        try simp only [List.setIfInBounds_toArray]
        try simp only [List.set_cons_succ]
        try simp only [List.set_cons_zero]
        refine wpAny_ready (rs := [0, 5]) (by kernel_rfl) (by simp) ?_
        refine AllReady.cons rfl (fun K hK => ?_) ?_
        · refine step_load_row rfl 57 (.tmp 7) rfl Pm rfl 57 (AA M) (0, 0) _ HKs3.out.p Try.underlying57 ⟨_, _, rfl⟩ (by rw [infoA, AA_size]) ?_
          try (refine hK _ _ ?_; clear hK K)
          try simp only [List.getElem_toArray]
          try simp only [List.getElem_cons_succ]
          try simp only [List.getElem_cons_zero]
          try simp only [Act.put]
          try simp only [List.setIfInBounds_toArray]
          try simp only [List.set_cons_succ]
          try simp only [List.set_cons_zero]
          refine wpAny_ready (rs := [5]) (by kernel_rfl) (by simp) ?_
          refine AllReady.cons rfl (fun K hK => ?_) AllReady.nil
          go_simp
          go_at_fn 88
          refine (HFi.out _ HKs3.out.cell (HSA.out _ HKs3.out.b)).mono ?_
          rintro e w5 ⟨rfl, hb5⟩
          have HKs5 := Lib.hid (HKs3.out.later hb5)
          clear hb5
          go_wp2_with fail
          try (refine hK _ _ ?_; clear hK K)
          try simp only [List.getElem_toArray]
          try simp only [List.getElem_cons_succ]
          try simp only [List.getElem_cons_zero]
          try simp only [Act.put]
          try simp only [List.setIfInBounds_toArray]
          try simp only [List.set_cons_succ]
          try simp only [List.set_cons_zero]
          refine wpAny_take (i := 6) (v := .bool R) rfl (by kernel_rfl) (by kernel_rfl) (by kernel_rfl) (fun _ _ _ h => h) (Or.inl ⟨by rfl, ?y6⟩) ?_
          case y6 => intro w; go_simp; first | done | rfl
          try simp only [List.getElem_toArray]
          try simp only [List.getElem_cons_succ]
          try simp only [List.getElem_cons_zero]
          try simp only [Act.put]
          try simp only [List.setIfInBounds_toArray]
          try simp only [List.set_cons_succ]
          try simp only [List.set_cons_zero]
          refine wpAny_ready (rs := [7]) (by kernel_rfl) (by simp) ?_
          refine AllReady.cons rfl (fun K hK => ?_) AllReady.nil
          refine step_store_row rfl 57 (.tmp 4) (.tmp 37) rfl (B + 1) (AA M) rfl rfl 57 _ HKs5.out.z (by rw [infoA, AA_size]) (by show (AA fun _ => 0).size = _; rw [AA_size, AA_size]) (AA_one _) ?_
          try (refine hK _ _ ?_; clear hK K)
          try simp only [List.getElem_toArray]
          try simp only [List.getElem_cons_succ]
          try simp only [List.getElem_cons_zero]
          try simp only [Act.put]
          try simp only [List.setIfInBounds_toArray]
          try simp only [List.set_cons_succ]
          try simp only [List.set_cons_zero]
          refine wpAny_take (i := 8) (v := ?_) rfl (by kernel_rfl) (by kernel_rfl) (by kernel_rfl) (fun _ _ _ h => h) (Or.inl ⟨by rfl, ?y8⟩) ?_
          case y8 => intro w; go_simp; first | done | with_reducible rfl
          try simp only [List.getElem_toArray]
          try simp only [List.getElem_cons_succ]
          try simp only [List.getElem_cons_zero]
          try simp only [Act.put]
          try simp only [List.setIfInBounds_toArray]
          try simp only [List.set_cons_succ]
          try simp only [List.set_cons_zero]
          refine wpAny_done (by kernel_rfl) ?_ _
          go_wp2_with fail
          refine bodyPost_ret (results_row_tmp rfl _ _ (B + 1) 57 _ (0, 0) _ rfl (setRow_heap _ _ _ _ _ _ HKs5.out.z) Try.underlying57 ⟨_, _, rfl⟩ (by rw [infoA, AA_size])) rfl ⟨by rw [HM.out]; rfl, below_setRow HKs5.out.b (by omega) _⟩
        refine AllReady.cons rfl (fun K hK => ?_) AllReady.nil
        go_simp
        go_at_fn 88
        refine (HFi.out _ HKs3.out.cell (HSA.out _ HKs3.out.b)).mono ?_
        rintro e w5 ⟨rfl, hb5⟩
        have HKs5 := Lib.hid (HKs3.out.later hb5)
        clear hb5
        go_wp2_with fail
        try (refine hK _ _ ?_; clear hK K)
        try simp only [List.getElem_toArray]
        try simp only [List.getElem_cons_succ]
        try simp only [List.getElem_cons_zero]
        try simp only [Act.put]
        try simp only [List.setIfInBounds_toArray]
        try simp only [List.set_cons_succ]
        try simp only [List.set_cons_zero]
        refine wpAny_take (i := 6) (v := .bool R) rfl (by kernel_rfl) (by kernel_rfl) (by kernel_rfl) (fun _ _ _ h => h) (Or.inl ⟨by rfl, ?y6⟩) ?_
        case y6 => intro w; go_simp; first | done | rfl
        try simp only [List.getElem_toArray]
        try simp only [List.getElem_cons_succ]
        try simp only [List.getElem_cons_zero]
        try simp only [Act.put]
        try simp only [List.setIfInBounds_toArray]
        try simp only [List.set_cons_succ]
        try simp only [List.set_cons_zero]
        refine wpAny_ready (rs := [0]) (by kernel_rfl) (by simp) ?_
        refine AllReady.cons rfl (fun K hK => ?_) AllReady.nil
        refine step_load_row rfl 57 (.tmp 7) rfl Pm rfl 57 (AA M) (0, 0) _ HKs5.out.p Try.underlying57 ⟨_, _, rfl⟩ (by rw [infoA, AA_size]) ?_
        try (refine hK _ _ ?_; clear hK K)
        try simp only [List.getElem_toArray]
        try simp only [List.getElem_cons_succ]
        try simp only [List.getElem_cons_zero]
        try simp only [Act.put]
        try simp only [List.setIfInBounds_toArray]
        try simp only [List.set_cons_succ]
        try simp only [List.set_cons_zero]
        refine wpAny_ready (rs := [7]) (by kernel_rfl) (by simp) ?_
        refine AllReady.cons rfl (fun K hK => ?_) AllReady.nil
        refine step_store_row rfl 57 (.tmp 4) (.tmp 37) rfl (B + 1) (AA M) rfl rfl 57 _ HKs5.out.z (by rw [infoA, AA_size]) (by show (AA fun _ => 0).size = _; rw [AA_size, AA_size]) (AA_one _) ?_
        try (refine hK _ _ ?_; clear hK K)
        try simp only [List.getElem_toArray]
        try simp only [List.getElem_cons_succ]
        try simp only [List.getElem_cons_zero]
        try simp only [Act.put]
        try simp only [List.setIfInBounds_toArray]
        try simp only [List.set_cons_succ]
        try simp only [List.set_cons_zero]
        refine wpAny_take (i := 8) (v := ?_) rfl (by kernel_rfl) (by kernel_rfl) (by kernel_rfl) (fun _ _ _ h => h) (Or.inl ⟨by rfl, ?y8⟩) ?_
        case y8 => intro w; go_simp; first | done | with_reducible rfl
        try simp only [List.getElem_toArray]
        try simp only [List.getElem_cons_succ]
        try simp only [List.getElem_cons_zero]
        try simp only [Act.put]
        try simp only [List.setIfInBounds_toArray]
        try simp only [List.set_cons_succ]
        try simp only [List.set_cons_zero]
        refine wpAny_done (by kernel_rfl) ?_ _
        go_wp2_with fail
        refine bodyPost_ret (results_row_tmp rfl _ _ (B + 1) 57 _ (0, 0) _ rfl (setRow_heap _ _ _ _ _ _ HKs5.out.z) Try.underlying57 ⟨_, _, rfl⟩ (by rw [infoA, AA_size])) rfl ⟨by rw [HM.out]; rfl, below_setRow HKs5.out.b (by omega) _⟩
      refine AllReady.cons rfl (fun K hK => ?_) AllReady.nil
      go_simp
      go_wp2_with (go_at_call 89; refine (before_any _).mono ?_; rintro e w3 ⟨rfl, hb3⟩; have HKs3 := Lib.hid (HKs0.out.later hb3); clear hb3)
      try (refine hK _ _ ?_; clear hK K)
      try simp only [List.getElem_toArray]
      try simp only [List.getElem_cons_succ]
      try simp only [List.getElem_cons_zero]
      try simp only [Act.put]
      try simp only [List.setIfInBounds_toArray]
      try simp only [List.set_cons_succ]
      try simp only [List.set_cons_zero]
      refine wpAny_ready (rs := [0, 1, 5]) (by kernel_rfl) (by simp) ?_
      refine AllReady.cons rfl (fun K hK => ?_) ?_
      · refine step_load_row rfl 57 (.tmp 7) rfl Pm rfl 57 (AA M) (0, 0) _ HKs3.out.p Try.underlying57 ⟨_, _, rfl⟩ (by rw [infoA, AA_size]) ?_
        try (refine hK _ _ ?_; clear hK K)
        try simp only [List.getElem_toArray]
        try simp only [List.getElem_cons_succ]
        try simp only [List.getElem_cons_zero]
        try simp only [Act.put]
        try simp only [List.setIfInBounds_toArray]
        try simp only [List.set_cons_succ]
        try simp only [List.set_cons_zero]
        refine wpAny_ready (rs := [1, 5]) (by kernel_rfl) (by simp) ?_
        refine AllReady.cons rfl (fun K hK => ?_) ?_
        · refine step_load_row rfl 57 (.tmp 7) rfl Pm rfl 57 (AA M) (0, 0) _ HKs3.out.p Try.underlying57 ⟨_, _, rfl⟩ (by rw [infoA, AA_size]) ?_
          try (refine hK _ _ ?_; clear hK K)
          try simp only [List.getElem_toArray]
          try simp only [List.getElem_cons_succ]
          try simp only [List.getElem_cons_zero]
          try simp only [Act.put]
          try simp only [List.setIfInBounds_toArray]
          try simp only [List.set_cons_succ]
          try simp only [List.set_cons_zero]
          refine wpAny_ready (rs := [5]) (by kernel_rfl) (by simp) ?_
          refine AllReady.cons rfl (fun K hK => ?_) AllReady.nil
          go_simp
          go_at_fn 88
          refine (HFi.out _ HKs3.out.cell (HSA.out _ HKs3.out.b)).mono ?_
          rintro e w5 ⟨rfl, hb5⟩
          have HKs5 := Lib.hid (HKs3.out.later hb5)
          clear hb5
          go_wp2_with fail
          try (refine hK _ _ ?_; clear hK K)
          try simp only [List.getElem_toArray]
          try simp only [List.getElem_cons_succ]
          try simp only [List.getElem_cons_zero]
          try simp only [Act.put]
          try simp only [List.setIfInBounds_toArray]
          try simp only [List.set_cons_succ]
          try simp only [List.set_cons_zero]
          refine wpAny_take (i := 6) (v := .bool R) rfl (by kernel_rfl) (by kernel_rfl) (by kernel_rfl) (fun _ _ _ h => h) (Or.inl ⟨by rfl, ?y6⟩) ?_
          case y6 => intro w; go_simp; first | done | rfl
          try simp only [List.getElem_toArray]
          try simp only [List.getElem_cons_succ]
          try simp only [List.getElem_cons_zero]
          try simp only [Act.put]
          try simp only [List.setIfInBounds_toArray]
          try simp only [List.set_cons_succ]
          try simp only [List.set_cons_zero]
          refine wpAny_ready (rs := [7]) (by kernel_rfl) (by simp) ?_
          refine AllReady.cons rfl (fun K hK => ?_) AllReady.nil
          refine step_store_row rfl 57 (.tmp 4) (.tmp 37) rfl (B + 1) (AA M) rfl rfl 57 _ HKs5.out.z (by rw [infoA, AA_size]) (by show (AA fun _ => 0).size = _; rw [AA_size, AA_size]) (AA_one _) ?_
          try (refine hK _ _ ?_; clear hK K)
          try simp only [List.getElem_toArray]
          try simp only [List.getElem_cons_succ]
          try simp only [List.getElem_cons_zero]
          try simp only [Act.put]
          try simp only [List.setIfInBounds_toArray]
          try simp only [List.set_cons_succ]
          try simp only [List.set_cons_zero]
          refine wpAny_take (i := 8) (v := ?_) rfl (by kernel_rfl) (by kernel_rfl) (by kernel_rfl) (fun _ _ _ h => h) (Or.inl ⟨by rfl, ?y8⟩) ?_
          case y8 => intro w; go_simp; first | done | with_reducible rfl
          try simp only [List.getElem_toArray]
          try simp only [List.getElem_cons_succ]
          try simp only [List.getElem_cons_zero]
          try simp only [Act.put]
          try simp only [List.setIfInBounds_toArray]
          try simp only [List.set_cons_succ]
          try simp only [List.set_cons_zero]
          refine wpAny_done (by kernel_rfl) ?_ _
          go_wp2_with fail
          refine bodyPost_ret (results_row_tmp rfl _ _ (B + 1) 57 _ (0, 0) _ rfl (setRow_heap _ _ _ _ _ _ HKs5.out.z) Try.underlying57 ⟨_, _, rfl⟩ (by rw [infoA, AA_size])) rfl ⟨by rw [HM.out]; rfl, below_setRow HKs5.out.b (by omega) _⟩
        refine AllReady.cons rfl (fun K hK => ?_) AllReady.nil
        go_simp
        go_at_fn 88
        refine (HFi.out _ HKs3.out.cell (HSA.out _ HKs3.out.b)).mono ?_
        rintro e w5 ⟨rfl, hb5⟩
        have HKs5 := Lib.hid (HKs3.out.later hb5)
        clear hb5
        go_wp2_with fail
        try (refine hK _ _ ?_; clear hK K)
        try simp only [List.getElem_toArray]
        try simp only [List.getElem_cons_succ]
        try simp only [List.getElem_cons_zero]
        try simp only [Act.put]
        try simp only [List.setIfInBounds_toArray]
        try simp only [List.set_cons_succ]
        try simp only [List.set_cons_zero]
        refine wpAny_ready (rs := [1, 7]) (by kernel_rfl) (by simp) ?_
        refine AllReady.cons rfl (fun K hK => ?_) ?_
        · refine step_load_row rfl 57 (.tmp 7) rfl Pm rfl 57 (AA M) (0, 0) _ HKs5.out.p Try.underlying57 ⟨_, _, rfl⟩ (by rw [infoA, AA_size]) ?_
          try (refine hK _ _ ?_; clear hK K)
          try simp only [List.getElem_toArray]
          try simp only [List.getElem_cons_succ]
          try simp only [List.getElem_cons_zero]
          try simp only [Act.put]
          try simp only [List.setIfInBounds_toArray]
          try simp only [List.set_cons_succ]
          try simp only [List.set_cons_zero]
          refine wpAny_take (i := 6) (v := .bool R) rfl (by kernel_rfl) (by kernel_rfl) (by kernel_rfl) (fun _ _ _ h => h) (Or.inl ⟨by rfl, ?y6⟩) ?_
          case y6 => intro w; go_simp; first | done | rfl
          try simp only [List.getElem_toArray]
          try simp only [List.getElem_cons_succ]
          try simp only [List.getElem_cons_zero]
          try simp only [Act.put]
          try simp only [List.setIfInBounds_toArray]
          try simp only [List.set_cons_succ]
          try simp only [List.set_cons_zero]
          refine wpAny_ready (rs := [7]) (by kernel_rfl) (by simp) ?_
          refine AllReady.cons rfl (fun K hK => ?_) AllReady.nil
          refine step_store_row rfl 57 (.tmp 4) (.tmp 37) rfl (B + 1) (AA M) rfl rfl 57 _ HKs5.out.z (by rw [infoA, AA_size]) (by show (AA fun _ => 0).size = _; rw [AA_size, AA_size]) (AA_one _) ?_
          try (refine hK _ _ ?_; clear hK K)
          try simp only [List.getElem_toArray]
          try simp only [List.getElem_cons_succ]
          try simp only [List.getElem_cons_zero]
          try simp only [Act.put]
          try simp only [List.setIfInBounds_toArray]
          try simp only [List.set_cons_succ]
          try simp only [List.set_cons_zero]
          refine wpAny_take (i := 8) (v := ?_) rfl (by kernel_rfl) (by kernel_rfl) (by kernel_rfl) (fun _ _ _ h => h) (Or.inl ⟨by rfl, ?y8⟩) ?_
          case y8 => intro w; go_simp; first | done | with_reducible rfl
          try simp only [List.getElem_toArray]
          try simp only [List.getElem_cons_succ]
          try simp only [List.getElem_cons_zero]
          try simp only [Act.put]
          try simp only [List.setIfInBounds_toArray]
          try simp only [List.set_cons_succ]
          try simp only [List.set_cons_zero]
          refine wpAny_done (by kernel_rfl) ?_ _
          go_wp2_with fail
          refine bodyPost_ret (results_row_tmp rfl _ _ (B + 1) 57 _ (0, 0) _ rfl (setRow_heap _ _ _ _ _ _ HKs5.out.z) Try.underlying57 ⟨_, _, rfl⟩ (by rw [infoA, AA_size])) rfl ⟨by rw [HM.out]; rfl, below_setRow HKs5.out.b (by omega) _⟩
        refine AllReady.cons rfl (fun K hK => ?_) AllReady.nil
        refine step_store_row rfl 57 (.tmp 4) (.tmp 37) rfl (B + 1) (AA M) rfl rfl 57 _ HKs5.out.z (by rw [infoA, AA_size]) (by show (AA fun _ => 0).size = _; rw [AA_size, AA_size]) (AA_one _) ?_
        try (refine hK _ _ ?_; clear hK K)
        try simp only [List.getElem_toArray]
        try simp only [List.getElem_cons_succ]
        try simp only [List.getElem_cons_zero]
        try simp only [Act.put]
        try simp only [List.setIfInBounds_toArray]
        try simp only [List.set_cons_succ]
        try simp only [List.set_cons_zero]
        refine wpAny_ready (rs := [1]) (by kernel_rfl) (by simp) ?_
        refine AllReady.cons rfl (fun K hK => ?_) AllReady.nil
        refine step_load_row rfl 57 (.tmp 7) rfl Pm rfl 57 (AA M) (0, 0) _ ((setRow_other _ _ _ _ (by have := HKs5.out.l; omega)).trans HKs5.out.p) Try.underlying57 ⟨_, _, rfl⟩ (by rw [infoA, AA_size]) ?_
        try (refine hK _ _ ?_; clear hK K)
        try simp only [List.getElem_toArray]
        try simp only [List.getElem_cons_succ]
        try simp only [List.getElem_cons_zero]
        try simp only [Act.put]
        try simp only [List.setIfInBounds_toArray]
        try simp only [List.set_cons_succ]
        try simp only [List.set_cons_zero]
        refine wpAny_take (i := 6) (v := .bool R) rfl (by kernel_rfl) (by kernel_rfl) (by kernel_rfl) (fun _ _ _ h => h) (Or.inl ⟨by rfl, ?y6⟩) ?_
        case y6 => intro w; go_simp; first | done | rfl
        try simp only [List.getElem_toArray]
        try simp only [List.getElem_cons_succ]
        try simp only [List.getElem_cons_zero]
        try simp only [Act.put]
        try simp only [List.setIfInBounds_toArray]
        try simp only [List.set_cons_succ]
        try simp only [List.set_cons_zero]
        refine wpAny_take (i := 8) (v := ?_) rfl (by kernel_rfl) (by kernel_rfl) (by kernel_rfl) (fun _ _ _ h => h) (Or.inl ⟨by rfl, ?y8⟩) ?_
        case y8 => intro w; go_simp; first | done | with_reducible rfl
        try simp only [List.getElem_toArray]
        try simp only [List.getElem_cons_succ]
        try simp only [List.getElem_cons_zero]
        try simp only [Act.put]
        try simp only [List.setIfInBounds_toArray]
        try simp only [List.set_cons_succ]
        try simp only [List.set_cons_zero]
        refine wpAny_done (by kernel_rfl) ?_ _
        go_wp2_with fail
        refine bodyPost_ret (results_row_tmp rfl _ _ (B + 1) 57 _ (0, 0) _ rfl (setRow_heap _ _ _ _ _ _ HKs5.out.z) Try.underlying57 ⟨_, _, rfl⟩ (by rw [infoA, AA_size])) rfl ⟨by rw [HM.out]; rfl, below_setRow HKs5.out.b (by omega) _⟩
      refine AllReady.cons rfl (fun K hK => ?_) ?_
      · refine step_load_row rfl 57 (.tmp 7) rfl Pm rfl 57 (AA M) (0, 0) _ HKs3.out.p Try.underlying57 ⟨_, _, rfl⟩ (by rw [infoA, AA_size]) ?_
        try (refine hK _ _ ?_; clear hK K)
        try simp only [List.getElem_toArray]
        try simp only [List.getElem_cons_succ]
        try simp only [List.getElem_cons_zero]
        try simp only [Act.put]
        try simp only [List.setIfInBounds_toArray]
        try simp only [List.set_cons_succ]
        try simp only [List.set_cons_zero]
        refine wpAny_ready (rs := [0, 5]) (by kernel_rfl) (by simp) ?_
        refine AllReady.cons rfl (fun K hK => ?_) ?_
        · refine step_load_row rfl 57 (.tmp 7) rfl Pm rfl 57 (AA M) (0, 0) _ HKs3.out.p Try.underlying57 ⟨_, _, rfl⟩ (by rw [infoA, AA_size]) ?_
          try (refine hK _ _ ?_; clear hK K)
          try simp only [List.getElem_toArray]
          try simp only [List.getElem_cons_succ]
          try simp only [List.getElem_cons_zero]
          try simp only [Act.put]
          try simp only [List.setIfInBounds_toArray]
          try simp only [List.set_cons_succ]
          try simp only [List.set_cons_zero]
          refine wpAny_ready (rs := [5]) (by kernel_rfl) (by simp) ?_
          refine AllReady.cons rfl (fun K hK => ?_) AllReady.nil
          go_simp
          go_at_fn 88
          refine (HFi.out _ HKs3.out.cell (HSA.out _ HKs3.out.b)).mono ?_
          rintro e w5 ⟨rfl, hb5⟩
          have HKs5 := Lib.hid (HKs3.out.later hb5)
          clear hb5
          go_wp2_with fail
          try (refine hK _ _ ?_; clear hK K)
          try simp only [List.getElem_toArray]
          try simp only [List.getElem_cons_succ]
          try simp only [List.getElem_cons_zero]
          try simp only [Act.put]
          try simp only [List.setIfInBounds_toArray]
          try simp only [List.set_cons_succ]
          try simp only [List.set_cons_zero]
          refine wpAny_take (i := 6) (v := .bool R) rfl (by kernel_rfl) (by kernel_rfl) (by kernel_rfl) (fun _ _ _ h => h) (Or.inl ⟨by rfl, ?y6⟩) ?_
          case y6 => intro w; go_simp; first | done | rfl
          try simp only [List.getElem_toArray]
          try simp only [List.getElem_cons_succ]
          try simp only [List.getElem_cons_zero]
          try simp only [Act.put]
          try simp only [List.setIfInBounds_toArray]
          try simp only [List.set_cons_succ]
          try simp only [List.set_cons_zero]
          refine wpAny_ready (rs := [7]) (by kernel_rfl) (by simp) ?_
          refine AllReady.cons rfl (fun K hK => ?_) AllReady.nil
          refine step_store_row rfl 57 (.tmp 4) (.tmp 37) rfl (B + 1) (AA M) rfl rfl 57 _ HKs5.out.z (by rw [infoA, AA_size]) (by show (AA fun _ => 0).size = _; rw [AA_size, AA_size]) (AA_one _) ?_
          try (refine hK _ _ ?_; clear hK K)
          try simp only [List.getElem_toArray]
          try simp only [List.getElem_cons_succ]
          try simp only [List.getElem_cons_zero]
          try simp only [Act.put]
          try simp only [List.setIfInBounds_toArray]
          try simp only [List.set_cons_succ]
          try simp only [List.set_cons_zero]
          refine wpAny_take (i := 8) (v := ?_) rfl (by kernel_rfl) (by kernel_rfl) (by kernel_rfl) (fun _ _ _ h => h) (Or.inl ⟨by rfl, ?y8⟩) ?_
          case y8 => intro w; go_simp; first | done | with_reducible rfl
          try simp only [List.getElem_toArray]
          try simp only [List.getElem_cons_succ]
          try simp only [List.getElem_cons_zero]
          try simp only [Act.put]
          try simp only [List.setIfInBounds_toArray]
          try simp only [List.set_cons_succ]
          try simp only [List.set_cons_zero]
          refine wpAny_done (by kernel_rfl) ?_ _
          go_wp2_with fail
          refine bodyPost_ret (results_row_tmp rfl _ _ (B + 1) 57 _ (0, 0) _ rfl (setRow_heap _ _ _ _ _ _ HKs5.out.z) Try.underlying57 ⟨_, _, rfl⟩ (by rw [infoA, AA_size])) rfl ⟨by rw [HM.out]; rfl, below_setRow HKs5.out.b (by omega) _⟩
        refine AllReady.cons rfl (fun K hK => ?_) AllReady.nil
        go_simp
        go_at_fn 88
        refine (HFi.out _ HKs3.out.cell (HSA.out _ HKs3.out.b)).mono ?_
        rintro e w5 ⟨rfl, hb5⟩
        have HKs5 := Lib.hid (HKs3.out.later hb5)
        clear hb5
        go_wp2_with fail
        try (refine hK _ _ ?_; clear hK K)
        try simp only [List.getElem_toArray]
        try simp only [List.getElem_cons_succ]
        try simp only [List.getElem_cons_zero]
        try simp only [Act.put]
        try simp only [List.setIfInBounds_toArray]
        try simp only [List.set_cons_succ]
        try simp only [List.set_cons_zero]
        refine wpAny_take (i := 6) (v := .bool R) rfl (by kernel_rfl) (by kernel_rfl) (by kernel_rfl) (fun _ _ _ h => h) (Or.inl ⟨by rfl, ?y6⟩) ?_
        case y6 => intro w; go_simp; first | done | rfl
        try simp only [List.getElem_toArray]
        try simp only [List.getElem_cons_succ]
        try simp only [List.getElem_cons_zero]
        try simp only [Act.put]
        try simp only [List.setIfInBounds_toArray]
        try simp only [List.set_cons_succ]
        try simp only [List.set_cons_zero]
        refine wpAny_ready (rs := [0]) (by kernel_rfl) (by simp) ?_
        refine AllReady.cons rfl (fun K hK => ?_) AllReady.nil
        refine step_load_row rfl 57 (.tmp 7) rfl Pm rfl 57 (AA M) (0, 0) _ HKs5.out.p Try.underlying57 ⟨_, _, rfl⟩ (by rw [infoA, AA_size]) ?_
        try (refine hK _ _ ?_; clear hK K)
        try simp only [List.getElem_toArray]
        try simp only [List.getElem_cons_succ]
        try simp only [List.getElem_cons_zero]
        try simp only [Act.put]
        try simp only [List.setIfInBounds_toArray]
        try simp only [List.set_cons_succ]
        try simp only [List.set_cons_zero]
        refine wpAny_ready (rs := [7]) (by kernel_rfl) (by simp) ?_
        refine AllReady.cons rfl (fun K hK => ?_) AllReady.nil
        refine step_store_row rfl 57 (.tmp 4) (.tmp 37) rfl (B + 1) (AA M) rfl rfl 57 _ HKs5.out.z (by rw [infoA, AA_size]) (by show (AA fun _ => 0).size = _; rw [AA_size, AA_size]) (AA_one _) ?_
        try (refine hK _ _ ?_; clear hK K)
        try simp only [List.getElem_toArray]
        try simp only [List.getElem_cons_succ]
        try simp only [List.getElem_cons_zero]
        try simp only [Act.put]
        try simp only [List.setIfInBounds_toArray]
        try simp only [List.set_cons_succ]
        try simp only [List.set_cons_zero]
        refine wpAny_take (i := 8) (v := ?_) rfl (by kernel_rfl) (by kernel_rfl) (by kernel_rfl) (fun _ _ _ h => h) (Or.inl ⟨by rfl, ?y8⟩) ?_
        case y8 => intro w; go_simp; first | done | with_reducible rfl
        try simp only [List.getElem_toArray]
        try simp only [List.getElem_cons_succ]
        try simp only [List.getElem_cons_zero]
        try simp only [Act.put]
        try simp only [List.setIfInBounds_toArray]
        try simp only [List.set_cons_succ]
        try simp only [List.set_cons_zero]
        refine wpAny_done (by kernel_rfl) ?_ _
        go_wp2_with fail
        refine bodyPost_ret (results_row_tmp rfl _ _ (B + 1) 57 _ (0, 0) _ rfl (setRow_heap _ _ _ _ _ _ HKs5.out.z) Try.underlying57 ⟨_, _, rfl⟩ (by rw [infoA, AA_size])) rfl ⟨by rw [HM.out]; rfl, below_setRow HKs5.out.b (by omega) _⟩
      refine AllReady.cons rfl (fun K hK => ?_) AllReady.nil
      go_simp
      go_at_fn 88
      refine (HFi.out _ HKs3.out.cell (HSA.out _ HKs3.out.b)).mono ?_
      rintro e w5 ⟨rfl, hb5⟩
      have HKs5 := Lib.hid (HKs3.out.later hb5)
      clear hb5
      go_wp2_with fail
      try (refine hK _ _ ?_; clear hK K)
      try simp only [List.getElem_toArray]
      try simp only [List.getElem_cons_succ]
      try simp only [List.getElem_cons_zero]
      try simp only [Act.put]
      try simp only [List.setIfInBounds_toArray]
      try simp only [List.set_cons_succ]
      try simp only [List.set_cons_zero]
      refine wpAny_ready (rs := [0, 1]) (by kernel_rfl) (by simp) ?_
      refine AllReady.cons rfl (fun K hK => ?_) ?_
      · refine step_load_row rfl 57 (.tmp 7) rfl Pm rfl 57 (AA M) (0, 0) _ HKs5.out.p Try.underlying57 ⟨_, _, rfl⟩ (by rw [infoA, AA_size]) ?_
        try (refine hK _ _ ?_; clear hK K)
        try simp only [List.getElem_toArray]
        try simp only [List.getElem_cons_succ]
        try simp only [List.getElem_cons_zero]
        try simp only [Act.put]
        try simp only [List.setIfInBounds_toArray]
        try simp only [List.set_cons_succ]
        try simp only [List.set_cons_zero]
        refine wpAny_ready (rs := [1, 7]) (by kernel_rfl) (by simp) ?_
        refine AllReady.cons rfl (fun K hK => ?_) ?_
        · refine step_load_row rfl 57 (.tmp 7) rfl Pm rfl 57 (AA M) (0, 0) _ HKs5.out.p Try.underlying57 ⟨_, _, rfl⟩ (by rw [infoA, AA_size]) ?_
          try (refine hK _ _ ?_; clear hK K)
          try simp only [List.getElem_toArray]
          try simp only [List.getElem_cons_succ]
          try simp only [List.getElem_cons_zero]
          try simp only [Act.put]
          try simp only [List.setIfInBounds_toArray]
          try simp only [List.set_cons_succ]
          try simp only [List.set_cons_zero]
          refine wpAny_take (i := 6) (v := .bool R) rfl (by kernel_rfl) (by kernel_rfl) (by kernel_rfl) (fun _ _ _ h => h) (Or.inl ⟨by rfl, ?y6⟩) ?_
          case y6 => intro w; go_simp; first | done | rfl
          try simp only [List.getElem_toArray]
          try simp only [List.getElem_cons_succ]
          try simp only [List.getElem_cons_zero]
          try simp only [Act.put]
          try simp only [List.setIfInBounds_toArray]
          try simp only [List.set_cons_succ]
          try simp only [List.set_cons_zero]
          refine wpAny_ready (rs := [7]) (by kernel_rfl) (by simp) ?_
          refine AllReady.cons rfl (fun K hK => ?_) AllReady.nil
          refine step_store_row rfl 57 (.tmp 4) (.tmp 37) rfl (B + 1) (AA M) rfl rfl 57 _ HKs5.out.z (by rw [infoA, AA_size]) (by show (AA fun _ => 0).size = _; rw [AA_size, AA_size]) (AA_one _) ?_
          try (refine hK _ _ ?_; clear hK K)
          try simp only [List.getElem_toArray]
          try simp only [List.getElem_cons_succ]
          try simp only [List.getElem_cons_zero]
          try simp only [Act.put]
          try simp only [List.setIfInBounds_toArray]
          try simp only [List.set_cons_succ]
          try simp only [List.set_cons_zero]
          refine wpAny_take (i := 8) (v := ?_) rfl (by kernel_rfl) (by kernel_rfl) (by kernel_rfl) (fun _ _ _ h => h) (Or.inl ⟨by rfl, ?y8⟩) ?_
          case y8 => intro w; go_simp; first | done | with_reducible rfl
          try simp only [List.getElem_toArray]
          try simp only [List.getElem_cons_succ]
          try simp only [List.getElem_cons_zero]
          try simp only [Act.put]
          try simp only [List.setIfInBounds_toArray]
          try simp only [List.set_cons_succ]
          try simp only [List.set_cons_zero]
          refine wpAny_done (by kernel_rfl) ?_ _
          go_wp2_with fail
          refine bodyPost_ret (results_row_tmp rfl _ _ (B + 1) 57 _ (0, 0) _ rfl (setRow_heap _ _ _ _ _ _ HKs5.out.z) Try.underlying57 ⟨_, _, rfl⟩ (by rw [infoA, AA_size])) rfl ⟨by rw [HM.out]; rfl, below_setRow HKs5.out.b (by omega) _⟩
        refine AllReady.cons rfl (fun K hK => ?_) AllReady.nil
        refine step_store_row rfl 57 (.tmp 4) (.tmp 37) rfl (B + 1) (AA M) rfl rfl 57 _ HKs5.out.z (by rw [infoA, AA_size]) (by show (AA fun _ => 0).size = _; rw [AA_size, AA_size]) (AA_one _) ?_
        try (refine hK _ _ ?_; clear hK K)
        try simp only [List.getElem_toArray]
        try simp only [List.getElem_cons_succ]
        try simp only [List.getElem_cons_zero]
        try simp only [Act.put]
        try simp only [List.setIfInBounds_toArray]
        try simp only [List.set_cons_succ]
        try simp only [List.set_cons_zero]
        refine wpAny_ready (rs := [1]) (by kernel_rfl) (by simp) ?_
        refine AllReady.cons rfl (fun K hK => ?_) AllReady.nil
        refine step_load_row rfl 57 (.tmp 7) rfl Pm rfl 57 (AA M) (0, 0) _ ((setRow_other _ _ _ _ (by have := HKs5.out.l; omega)).trans HKs5.out.p) Try.underlying57 ⟨_, _, rfl⟩ (by rw [infoA, AA_size]) ?_
        try (refine hK _ _ ?_; clear hK K)
        try simp only [List.getElem_toArray]
        try simp only [List.getElem_cons_succ]
        try simp only [List.getElem_cons_zero]
        try simp only [Act.put]
        try simp only [List.setIfInBounds_toArray]
        try simp only [List.set_cons_succ]
        try simp only [List.set_cons_zero]
        refine wpAny_take (i := 6) (v := .bool R) rfl (by kernel_rfl) (by kernel_rfl) (by kernel_rfl) (fun _ _ _ h => h) (Or.inl ⟨by rfl, ?y6⟩) ?_
        case y6 => intro w; go_simp; first | done | rfl
        try simp only [List.getElem_toArray]
        try simp only [List.getElem_cons_succ]
        try simp only [List.getElem_cons_zero]
        try simp only [Act.put]
        try simp only [List.setIfInBounds_toArray]
        try simp only [List.set_cons_succ]
        try simp only [List.set_cons_zero]
        refine wpAny_take (i := 8) (v := ?_) rfl (by kernel_rfl) (by kernel_rfl) (by kernel_rfl) (fun _ _ _ h => h) (Or.inl ⟨by rfl, ?y8⟩) ?_
        case y8 => intro w; go_simp; first | done | with_reducible rfl
        try simp only [List.getElem_toArray]
        try simp only [List.getElem_cons_succ]
        try simp only [List.getElem_cons_zero]
        try simp only [Act.put]
        try simp only [List.setIfInBounds_toArray]
        try simp only [List.set_cons_succ]
        try simp only [List.set_cons_zero]
        refine wpAny_done (by kernel_rfl) ?_ _
        go_wp2_with fail
        refine bodyPost_ret (results_row_tmp rfl _ _ (B + 1) 57 _ (0, 0) _ rfl (setRow_heap _ _ _ _ _ _ HKs5.out.z) Try.underlying57 ⟨_, _, rfl⟩ (by rw [infoA, AA_size])) rfl ⟨by rw [HM.out]; rfl, below_setRow HKs5.out.b (by omega) _⟩
      refine AllReady.cons rfl (fun K hK => ?_) AllReady.nil
      refine step_load_row rfl 57 (.tmp 7) rfl Pm rfl 57 (AA M) (0, 0) _ HKs5.out.p Try.underlying57 ⟨_, _, rfl⟩ (by rw [infoA, AA_size]) ?_
      try (refine hK _ _ ?_; clear hK K)
      try simp only [List.getElem_toArray]
      try simp only [List.getElem_cons_succ]
      try simp only [List.getElem_cons_zero]
      try simp only [Act.put]
      try simp only [List.setIfInBounds_toArray]
      try simp only [List.set_cons_succ]
      try simp only [List.set_cons_zero]
      refine wpAny_take (i := 6) (v := .bool R) rfl (by kernel_rfl) (by kernel_rfl) (by kernel_rfl) (fun _ _ _ h => h) (Or.inl ⟨by rfl, ?y6⟩) ?_
      case y6 => intro w; go_simp; first | done | rfl
      try simp only [List.getElem_toArray]
      try simp only [List.getElem_cons_succ]
      try simp only [List.getElem_cons_zero]
      try simp only [Act.put]
      try simp only [List.setIfInBounds_toArray]
      try simp only [List.set_cons_succ]
      try simp only [List.set_cons_zero]
      refine wpAny_ready (rs := [0]) (by kernel_rfl) (by simp) ?_
      refine AllReady.cons rfl (fun K hK => ?_) AllReady.nil
      refine step_load_row rfl 57 (.tmp 7) rfl Pm rfl 57 (AA M) (0, 0) _ HKs5.out.p Try.underlying57 ⟨_, _, rfl⟩ (by rw [infoA, AA_size]) ?_
      try (refine hK _ _ ?_; clear hK K)
      try simp only [List.getElem_toArray]
      try simp only [List.getElem_cons_succ]
      try simp only [List.getElem_cons_zero]
      try simp only [Act.put]
      try simp only [List.setIfInBounds_toArray]
      try simp only [List.set_cons_succ]
      try simp only [List.set_cons_zero]
      refine wpAny_ready (rs := [7]) (by kernel_rfl) (by simp) ?_
      refine AllReady.cons rfl (fun K hK => ?_) AllReady.nil
      refine step_store_row rfl 57 (.tmp 4) (.tmp 37) rfl (B + 1) (AA M) rfl rfl 57 _ HKs5.out.z (by rw [infoA, AA_size]) (by show (AA fun _ => 0).size = _; rw [AA_size, AA_size]) (AA_one _) ?_
      try (refine hK _ _ ?_; clear hK K)
      try simp only [List.getElem_toArray]
      try simp only [List.getElem_cons_succ]
      try simp only [List.getElem_cons_zero]
      try simp only [Act.put]
      try simp only [List.setIfInBounds_toArray]
      try simp only [List.set_cons_succ]
      try simp only [List.set_cons_zero]
      refine wpAny_take (i := 8) (v := ?_) rfl (by kernel_rfl) (by kernel_rfl) (by kernel_rfl) (fun _ _ _ h => h) (Or.inl ⟨by rfl, ?y8⟩) ?_
      case y8 => intro w; go_simp; first | done | with_reducible rfl
      try simp only [List.getElem_toArray]
      try simp only [List.getElem_cons_succ]
      try simp only [List.getElem_cons_zero]
      try simp only [Act.put]
      try simp only [List.setIfInBounds_toArray]
      try simp only [List.set_cons_succ]
      try simp only [List.set_cons_zero]
      refine wpAny_done (by kernel_rfl) ?_ _
      go_wp2_with fail
      refine bodyPost_ret (results_row_tmp rfl _ _ (B + 1) 57 _ (0, 0) _ rfl (setRow_heap _ _ _ _ _ _ HKs5.out.z) Try.underlying57 ⟨_, _, rfl⟩ (by rw [infoA, AA_size])) rfl ⟨by rw [HM.out]; rfl, below_setRow HKs5.out.b (by omega) _⟩

theorem by_any (w : World) (ao : Option Addr) (cap : Nat) (d : Int) (l : List Snd) (n : Nat) (Hn : Hid (n = l.length)) (hn : n ≤ 1000) (hcap : n ≤ cap) (hd : 1 ≤ d ∧ d ≤ 10) (HS : Hid (SmallS d l)) (HF : Hid (SmallF l)) (Hc : SendsAt w ao l) :
    Calls Try.prog 77 #[.int .i64 d, .slice ao n cap] w fun e w' => e = .returned (.tuple #[.agg (AA (mkA d befA l)), .bool ((List.range 40).all fun (i : Nat) => mkA d befA l i == fillA d befA l i)]) ∧ Below w.heap.size w w' := by
  by_cases h0 : n = 0
  · subst h0
    obtain rfl : l = [] := List.eq_nil_of_length_eq_zero Hn.out.symm
    exact by_zero ao cap d w
  · rcases Hc with h | ⟨b, off, rfl, hc⟩
    · subst h; exact absurd Hn.out h0
    · exact by_pos b off cap d l n w Hn hn hcap hd HS HF (by rw [Hn.out]; exact hc)

end Go.Proofs.Ytghfkgbmmkcjhaa
