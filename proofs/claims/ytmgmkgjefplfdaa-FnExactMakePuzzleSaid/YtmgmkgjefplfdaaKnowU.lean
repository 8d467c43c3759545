/- What is known behind a call, in the program. -/
import Derived.Test.YtmgmkgjefplfdaaKnowT
import Derived.Deep.RegionLaw
namespace Go.Proofs.Ytmgmkgjefplfdaa
open Go.ChangeShapes Go.WideShapes Go.ChangeAt Go.RowKit
set_option linter.unusedVariables false

set_option maxRecDepth 20000 in
theorem before_nat (f : Int) (s : Nat → Nat) (a b : Nat) (w : World) (hab : a < b) (b1 : b < 10) :
    Calls Try.prog 149 #[.agg (KA f s), .agg #[.int .i64 a, .int .i64 b]] w fun e w' => e = .returned (.agg #[.int .i64 a, .int .i64 b, .int .u16 (s a), .int .u16 (s b)]) ∧ Below w.heap.size w w' := by
  have a2 : (a : Int) < 10 := by omega
  have b2 : (b : Int) < 10 := by omega
  have a0 : (0 : Int) ≤ a := by omega
  have b0 : (0 : Int) ≤ b := by omega
  have ha := KA_get f s a (by omega)
  have hb := KA_get f s b (by omega)
  go_enter Try.func149, Try.ntmps149
  go_wp2_with fail
  go_region
  go_wp2_with fail
  exact bodyPost_ret (v := .agg #[.int .i64 a, .int .i64 b, .int .u16 (s a), .int .u16 (s b)]) (by simp [results, Try.results149, go_sem]) rfl ⟨rfl, by go_grown⟩

theorem before_int (f : Int) (s : Nat → Nat) (a b : Int) (w : World) (ha : 0 ≤ a) (hab : a < b) (b1 : b < 10) :
    Calls Try.prog 149 #[.agg (KA f s), .agg #[.int .i64 a, .int .i64 b]] w fun e w' => e = .returned (.agg #[.int .i64 a, .int .i64 b, .int .u16 (s a.toNat), .int .u16 (s b.toNat)]) ∧ Below w.heap.size w w' := by
  obtain ⟨a, rfl⟩ := Int.eq_ofNat_of_zero_le ha
  obtain ⟨b, rfl⟩ := Int.eq_ofNat_of_zero_le (show 0 ≤ b by omega)
  exact before_nat f s a b w (by omega) (by omega)

def RowShape (d : TypeDesc) : Prop := ∃ fl, d = .struct fl

/-- A whole row is loaded, at a step of a region that draws its order. -/
theorem step_load_row {ops : Array Oper} {o : Oper} {a : Act} {w : World} {K : Act → World → Prop} {Q : Exit → Act → World → Prop} {E : Prop} (hgd : o.guard = none) (ty : TypeId) (x : Operand) (ho : o.op = .load ty x)
    (g : Nat) (hx : a.eval x = .pointer (some ⟨g, 0, none⟩)) (t : TypeId) (cs : Array Value) (fr : Nat × Nat) (d : TypeDesc) (hg : w.heap[g]? = some (.cells cs t fr))
    (hu : Try.prog.underlying ty = some d) (hd : RowShape d) (hi : (Try.prog.info? ty).map (·.size) = some cs.size)
    (h : K (a.put o.dst (.agg cs)) w) : if Region.wanted o (yielded ops a.tmps) = true then Oper.wp Try.prog o a w K Q else E := by
  have hw : Region.wanted o (yielded ops a.tmps) = true := by simp [Region.wanted, hgd]
  rw [if_pos hw]
  exact wp_load_row ty x ho g hx t cs fr d hg hu (by obtain ⟨fl, rfl⟩ := hd; rfl) hi h

/-- A whole row is stored, at a step of a region that draws its order. -/
theorem step_store_row {ops : Array Oper} {o : Oper} {a : Act} {w : World} {K : Act → World → Prop} {Q : Exit → Act → World → Prop} {E : Prop} (hgd : o.guard = none) (ty : TypeId) (x y : Operand) (ho : o.op = .store ty x y)
    (g : Nat) (cells : Array Value) (hx : a.eval x = .pointer (some ⟨g, 0, none⟩)) (hy : a.eval y = .agg cells)
    (t : TypeId) (old : Array Value) (hg : w.heap[g]? = some (.cells old t (0, 0))) (hi : (Try.prog.info? ty).map (·.size) = some cells.size)
    (hold : old.size = cells.size) (h1 : cells.all (·.oneCell') = true)
    (h : K (a.put o.dst undef) (w.setRow g cells)) : if Region.wanted o (yielded ops a.tmps) = true then Oper.wp Try.prog o a w K Q else E := by
  have hw : Region.wanted o (yielded ops a.tmps) = true := by simp [Region.wanted, hgd]
  rw [if_pos hw]
  exact wp_store_row ty x y ho g cells hx hy t old hg hi hold h1 h

set_option maxHeartbeats 3200000 in
set_option maxRecDepth 20000 in
theorem behind_nat (f : Int) (s : Nat → Nat) (a b : Nat) (w : World) (hs : ∀ i, s i < 1024) (hab : a < b) (hb : b < 10) :
    Calls Try.prog 150 #[.agg (KA f s), .agg #[.int .i64 a, .int .i64 b]] w fun e w' => e = .returned (.agg (KA f (stp s (a, b)))) ∧ Below w.heap.size w w' := by
  have Hs := Lib.hid hs
  clear hs
  go_enter Try.func150, Try.ntmps150
  go_wp2_with fail
  have hZ : ZA = #[.int .i64 0, .int .u16 0, .int .u16 0, .int .u16 0, .int .u16 0, .int .u16 0, .int .u16 0, .int .u16 0, .int .u16 0, .int .u16 0, .int .u16 0] := rfl
  have h3 := three w (KA f s) #[.int .i64 a, .int .i64 b] ZA 83
  have T0 : Hid (Three 83 w (KA f s) #[.int .i64 a, .int .i64 b] w.heap.size (((w.alloc (.cells (KA f s) 133)).alloc (.cells #[.int .i64 a, .int .i64 b] 83)).alloc (.cells ZA 133))) := ⟨h3.1, h3.2.1, h3.2.2.1, h3.2.2.2, h3.2.2.2.size⟩
  rw [← hZ]
  generalize ((w.alloc (.cells (KA f s) 133)).alloc (.cells #[.int .i64 a, .int .i64 b] 83)).alloc (.cells ZA 133) = w3 at T0 ⊢
  generalize hBd : w.heap.size = B at T0 ⊢
  have HBd := Lib.hid hBd
  clear hZ h3 hBd
  have T1 := Lib.hid T0.out.drew
  have c0 := T0.out.cellC 0 _ rfl
  have c1 := T0.out.cellC 1 _ rfl
  go_cut [] from 5 (fun wr => ∃ w4, Hid (Three 83 w (KA f s) #[.int .i64 a, .int .i64 b] B w4) ∧ wr = w4.setRow (B + 1 + 1) (KA f (stp s (a, b))))
  case first =>
    refine wp_region_any (by kernel_rfl) ?_
    change wpAny _ _ _ _ _ _ _ (World.drew _)
    refine wpAny_ready (rs := [0, 1, 2]) (by kernel_rfl) (by simp) ?_
    refine AllReady.cons rfl (fun K hK => ?_) ?_
    · refine step_load_row rfl 133 (.tmp 2) rfl B rfl 133 (KA f s) (0, 0) _ T1.out.k Try.underlying133 ⟨_, rfl⟩ (by rw [info133, KA_size]) ?_
      try (refine hK _ _ ?_; clear hK K)
      refine wpAny_ready (rs := [1, 2]) (by kernel_rfl) (by simp) ?_
      refine AllReady.cons rfl (fun K hK => ?_) ?_
      · refine step_load_row rfl 133 (.tmp 2) rfl B rfl 133 (KA f s) (0, 0) _ T1.out.k Try.underlying133 ⟨_, rfl⟩ (by rw [info133, KA_size]) ?_
        try (refine hK _ _ ?_; clear hK K)
        refine wpAny_ready (rs := [2]) (by kernel_rfl) (by simp) ?_
        refine AllReady.cons rfl (fun K hK => ?_) ?_
        · go_simp
          try (refine hK _ _ ?_; clear hK K)
          refine wpAny_ready (rs := [3]) (by kernel_rfl) (by simp) ?_
          refine AllReady.cons rfl (fun K hK => ?_) ?_
          · go_simp
            go_wp2_with (go_at_call 149; refine (before_nat f s a b _ hab hb).mono ?_; rintro e w4 ⟨rfl, hb4⟩; have T4 := Lib.hid (T1.out.later hb4); clear hb4)
            try (refine hK _ _ ?_; clear hK K)
            refine wpAny_ready (rs := [4]) (by kernel_rfl) (by simp) ?_
            refine AllReady.cons rfl (fun K hK => ?_) ?_
            · go_simp
              go_wp2_with (go_at_call 151; refine (behindCallers_st f s a b _ Hs.out hab hb).mono ?_; rintro e w5 ⟨rfl, hb5⟩; have T5 := Lib.hid (T4.out.later hb5); clear hb5)
              try (refine hK _ _ ?_; clear hK K)
              refine wpAny_ready (rs := [5]) (by kernel_rfl) (by simp) ?_
              refine AllReady.cons rfl (fun K hK => ?_) ?_
              · refine step_store_row rfl 133 (.tmp 4) (.tmp 9) rfl (B + 1 + 1) (KA f (stp s (a, b))) rfl rfl 133 ZA T5.out.z (by rw [info133, KA_size]) (by rw [KA_size]; rfl) (KA_one _ _) ?_
                try (refine hK _ _ ?_; clear hK K)
                refine wpAny_done (by kernel_rfl) ?_ _
                go_wp2_with fail
                go_meet
                case rel => exact ⟨_, T5, rfl⟩
              exact AllReady.nil
            exact AllReady.nil
          exact AllReady.nil
        exact AllReady.nil
      refine AllReady.cons rfl (fun K hK => ?_) ?_
      · go_simp
        try (refine hK _ _ ?_; clear hK K)
        refine wpAny_ready (rs := [1]) (by kernel_rfl) (by simp) ?_
        refine AllReady.cons rfl (fun K hK => ?_) ?_
        · refine step_load_row rfl 133 (.tmp 2) rfl B rfl 133 (KA f s) (0, 0) _ T1.out.k Try.underlying133 ⟨_, rfl⟩ (by rw [info133, KA_size]) ?_
          try (refine hK _ _ ?_; clear hK K)
          refine wpAny_ready (rs := [3]) (by kernel_rfl) (by simp) ?_
          refine AllReady.cons rfl (fun K hK => ?_) ?_
          · go_simp
            go_wp2_with (go_at_call 149; refine (before_nat f s a b _ hab hb).mono ?_; rintro e w4 ⟨rfl, hb4⟩; have T4 := Lib.hid (T1.out.later hb4); clear hb4)
            try (refine hK _ _ ?_; clear hK K)
            refine wpAny_ready (rs := [4]) (by kernel_rfl) (by simp) ?_
            refine AllReady.cons rfl (fun K hK => ?_) ?_
            · go_simp
              go_wp2_with (go_at_call 151; refine (behindCallers_st f s a b _ Hs.out hab hb).mono ?_; rintro e w5 ⟨rfl, hb5⟩; have T5 := Lib.hid (T4.out.later hb5); clear hb5)
              try (refine hK _ _ ?_; clear hK K)
              refine wpAny_ready (rs := [5]) (by kernel_rfl) (by simp) ?_
              refine AllReady.cons rfl (fun K hK => ?_) ?_
              · refine step_store_row rfl 133 (.tmp 4) (.tmp 9) rfl (B + 1 + 1) (KA f (stp s (a, b))) rfl rfl 133 ZA T5.out.z (by rw [info133, KA_size]) (by rw [KA_size]; rfl) (KA_one _ _) ?_
                try (refine hK _ _ ?_; clear hK K)
                refine wpAny_done (by kernel_rfl) ?_ _
                go_wp2_with fail
                go_meet
                case rel => exact ⟨_, T5, rfl⟩
              exact AllReady.nil
            exact AllReady.nil
          exact AllReady.nil
        exact AllReady.nil
      exact AllReady.nil
    refine AllReady.cons rfl (fun K hK => ?_) ?_
    · refine step_load_row rfl 133 (.tmp 2) rfl B rfl 133 (KA f s) (0, 0) _ T1.out.k Try.underlying133 ⟨_, rfl⟩ (by rw [info133, KA_size]) ?_
      try (refine hK _ _ ?_; clear hK K)
      refine wpAny_ready (rs := [0, 2]) (by kernel_rfl) (by simp) ?_
      refine AllReady.cons rfl (fun K hK => ?_) ?_
      · refine step_load_row rfl 133 (.tmp 2) rfl B rfl 133 (KA f s) (0, 0) _ T1.out.k Try.underlying133 ⟨_, rfl⟩ (by rw [info133, KA_size]) ?_
        try (refine hK _ _ ?_; clear hK K)
        refine wpAny_ready (rs := [2]) (by kernel_rfl) (by simp) ?_
        refine AllReady.cons rfl (fun K hK => ?_) ?_
        · go_simp
          try (refine hK _ _ ?_; clear hK K)
          refine wpAny_ready (rs := [3]) (by kernel_rfl) (by simp) ?_
          refine AllReady.cons rfl (fun K hK => ?_) ?_
          · go_simp
            go_wp2_with (go_at_call 149; refine (before_nat f s a b _ hab hb).mono ?_; rintro e w4 ⟨rfl, hb4⟩; have T4 := Lib.hid (T1.out.later hb4); clear hb4)
            try (refine hK _ _ ?_; clear hK K)
            refine wpAny_ready (rs := [4]) (by kernel_rfl) (by simp) ?_
            refine AllReady.cons rfl (fun K hK => ?_) ?_
            · go_simp
              go_wp2_with (go_at_call 151; refine (behindCallers_st f s a b _ Hs.out hab hb).mono ?_; rintro e w5 ⟨rfl, hb5⟩; have T5 := Lib.hid (T4.out.later hb5); clear hb5)
              try (refine hK _ _ ?_; clear hK K)
              refine wpAny_ready (rs := [5]) (by kernel_rfl) (by simp) ?_
              refine AllReady.cons rfl (fun K hK => ?_) ?_
              · refine step_store_row rfl 133 (.tmp 4) (.tmp 9) rfl (B + 1 + 1) (KA f (stp s (a, b))) rfl rfl 133 ZA T5.out.z (by rw [info133, KA_size]) (by rw [KA_size]; rfl) (KA_one _ _) ?_
                try (refine hK _ _ ?_; clear hK K)
                refine wpAny_done (by kernel_rfl) ?_ _
                go_wp2_with fail
                go_meet
                case rel => exact ⟨_, T5, rfl⟩
              exact AllReady.nil
            exact AllReady.nil
          exact AllReady.nil
        exact AllReady.nil
      refine AllReady.cons rfl (fun K hK => ?_) ?_
      · go_simp
        try (refine hK _ _ ?_; clear hK K)
        refine wpAny_ready (rs := [0, 3]) (by kernel_rfl) (by simp) ?_
        refine AllReady.cons rfl (fun K hK => ?_) ?_
        · refine step_load_row rfl 133 (.tmp 2) rfl B rfl 133 (KA f s) (0, 0) _ T1.out.k Try.underlying133 ⟨_, rfl⟩ (by rw [info133, KA_size]) ?_
          try (refine hK _ _ ?_; clear hK K)
          refine wpAny_ready (rs := [3]) (by kernel_rfl) (by simp) ?_
          refine AllReady.cons rfl (fun K hK => ?_) ?_
          · go_simp
            go_wp2_with (go_at_call 149; refine (before_nat f s a b _ hab hb).mono ?_; rintro e w4 ⟨rfl, hb4⟩; have T4 := Lib.hid (T1.out.later hb4); clear hb4)
            try (refine hK _ _ ?_; clear hK K)
            refine wpAny_ready (rs := [4]) (by kernel_rfl) (by simp) ?_
            refine AllReady.cons rfl (fun K hK => ?_) ?_
            · go_simp
              go_wp2_with (go_at_call 151; refine (behindCallers_st f s a b _ Hs.out hab hb).mono ?_; rintro e w5 ⟨rfl, hb5⟩; have T5 := Lib.hid (T4.out.later hb5); clear hb5)
              try (refine hK _ _ ?_; clear hK K)
              refine wpAny_ready (rs := [5]) (by kernel_rfl) (by simp) ?_
              refine AllReady.cons rfl (fun K hK => ?_) ?_
              · refine step_store_row rfl 133 (.tmp 4) (.tmp 9) rfl (B + 1 + 1) (KA f (stp s (a, b))) rfl rfl 133 ZA T5.out.z (by rw [info133, KA_size]) (by rw [KA_size]; rfl) (KA_one _ _) ?_
                try (refine hK _ _ ?_; clear hK K)
                refine wpAny_done (by kernel_rfl) ?_ _
                go_wp2_with fail
                go_meet
                case rel => exact ⟨_, T5, rfl⟩
              exact AllReady.nil
            exact AllReady.nil
          exact AllReady.nil
        refine AllReady.cons rfl (fun K hK => ?_) ?_
        · go_simp
          go_wp2_with (go_at_call 149; refine (before_nat f s a b _ hab hb).mono ?_; rintro e w4 ⟨rfl, hb4⟩; have T4 := Lib.hid (T1.out.later hb4); clear hb4)
          try (refine hK _ _ ?_; clear hK K)
          refine wpAny_ready (rs := [0]) (by kernel_rfl) (by simp) ?_
          refine AllReady.cons rfl (fun K hK => ?_) ?_
          · refine step_load_row rfl 133 (.tmp 2) rfl B rfl 133 (KA f s) (0, 0) _ T4.out.k Try.underlying133 ⟨_, rfl⟩ (by rw [info133, KA_size]) ?_
            try (refine hK _ _ ?_; clear hK K)
            refine wpAny_ready (rs := [4]) (by kernel_rfl) (by simp) ?_
            refine AllReady.cons rfl (fun K hK => ?_) ?_
            · go_simp
              go_wp2_with (go_at_call 151; refine (behindCallers_st f s a b _ Hs.out hab hb).mono ?_; rintro e w5 ⟨rfl, hb5⟩; have T5 := Lib.hid (T4.out.later hb5); clear hb5)
              try (refine hK _ _ ?_; clear hK K)
              refine wpAny_ready (rs := [5]) (by kernel_rfl) (by simp) ?_
              refine AllReady.cons rfl (fun K hK => ?_) ?_
              · refine step_store_row rfl 133 (.tmp 4) (.tmp 9) rfl (B + 1 + 1) (KA f (stp s (a, b))) rfl rfl 133 ZA T5.out.z (by rw [info133, KA_size]) (by rw [KA_size]; rfl) (KA_one _ _) ?_
                try (refine hK _ _ ?_; clear hK K)
                refine wpAny_done (by kernel_rfl) ?_ _
                go_wp2_with fail
                go_meet
                case rel => exact ⟨_, T5, rfl⟩
              exact AllReady.nil
            exact AllReady.nil
          exact AllReady.nil
        exact AllReady.nil
      exact AllReady.nil
    refine AllReady.cons rfl (fun K hK => ?_) ?_
    · go_simp
      try (refine hK _ _ ?_; clear hK K)
      refine wpAny_ready (rs := [0, 1]) (by kernel_rfl) (by simp) ?_
      refine AllReady.cons rfl (fun K hK => ?_) ?_
      · refine step_load_row rfl 133 (.tmp 2) rfl B rfl 133 (KA f s) (0, 0) _ T1.out.k Try.underlying133 ⟨_, rfl⟩ (by rw [info133, KA_size]) ?_
        try (refine hK _ _ ?_; clear hK K)
        refine wpAny_ready (rs := [1]) (by kernel_rfl) (by simp) ?_
        refine AllReady.cons rfl (fun K hK => ?_) ?_
        · refine step_load_row rfl 133 (.tmp 2) rfl B rfl 133 (KA f s) (0, 0) _ T1.out.k Try.underlying133 ⟨_, rfl⟩ (by rw [info133, KA_size]) ?_
          try (refine hK _ _ ?_; clear hK K)
          refine wpAny_ready (rs := [3]) (by kernel_rfl) (by simp) ?_
          refine AllReady.cons rfl (fun K hK => ?_) ?_
          · go_simp
            go_wp2_with (go_at_call 149; refine (before_nat f s a b _ hab hb).mono ?_; rintro e w4 ⟨rfl, hb4⟩; have T4 := Lib.hid (T1.out.later hb4); clear hb4)
            try (refine hK _ _ ?_; clear hK K)
            refine wpAny_ready (rs := [4]) (by kernel_rfl) (by simp) ?_
            refine AllReady.cons rfl (fun K hK => ?_) ?_
            · go_simp
              go_wp2_with (go_at_call 151; refine (behindCallers_st f s a b _ Hs.out hab hb).mono ?_; rintro e w5 ⟨rfl, hb5⟩; have T5 := Lib.hid (T4.out.later hb5); clear hb5)
              try (refine hK _ _ ?_; clear hK K)
              refine wpAny_ready (rs := [5]) (by kernel_rfl) (by simp) ?_
              refine AllReady.cons rfl (fun K hK => ?_) ?_
              · refine step_store_row rfl 133 (.tmp 4) (.tmp 9) rfl (B + 1 + 1) (KA f (stp s (a, b))) rfl rfl 133 ZA T5.out.z (by rw [info133, KA_size]) (by rw [KA_size]; rfl) (KA_one _ _) ?_
                try (refine hK _ _ ?_; clear hK K)
                refine wpAny_done (by kernel_rfl) ?_ _
                go_wp2_with fail
                go_meet
                case rel => exact ⟨_, T5, rfl⟩
              exact AllReady.nil
            exact AllReady.nil
          exact AllReady.nil
        exact AllReady.nil
      refine AllReady.cons rfl (fun K hK => ?_) ?_
      · refine step_load_row rfl 133 (.tmp 2) rfl B rfl 133 (KA f s) (0, 0) _ T1.out.k Try.underlying133 ⟨_, rfl⟩ (by rw [info133, KA_size]) ?_
        try (refine hK _ _ ?_; clear hK K)
        refine wpAny_ready (rs := [0, 3]) (by kernel_rfl) (by simp) ?_
        refine AllReady.cons rfl (fun K hK => ?_) ?_
        · refine step_load_row rfl 133 (.tmp 2) rfl B rfl 133 (KA f s) (0, 0) _ T1.out.k Try.underlying133 ⟨_, rfl⟩ (by rw [info133, KA_size]) ?_
          try (refine hK _ _ ?_; clear hK K)
          refine wpAny_ready (rs := [3]) (by kernel_rfl) (by simp) ?_
          refine AllReady.cons rfl (fun K hK => ?_) ?_
          · go_simp
            go_wp2_with (go_at_call 149; refine (before_nat f s a b _ hab hb).mono ?_; rintro e w4 ⟨rfl, hb4⟩; have T4 := Lib.hid (T1.out.later hb4); clear hb4)
            try (refine hK _ _ ?_; clear hK K)
            refine wpAny_ready (rs := [4]) (by kernel_rfl) (by simp) ?_
            refine AllReady.cons rfl (fun K hK => ?_) ?_
            · go_simp
              go_wp2_with (go_at_call 151; refine (behindCallers_st f s a b _ Hs.out hab hb).mono ?_; rintro e w5 ⟨rfl, hb5⟩; have T5 := Lib.hid (T4.out.later hb5); clear hb5)
              try (refine hK _ _ ?_; clear hK K)
              refine wpAny_ready (rs := [5]) (by kernel_rfl) (by simp) ?_
              refine AllReady.cons rfl (fun K hK => ?_) ?_
              · refine step_store_row rfl 133 (.tmp 4) (.tmp 9) rfl (B + 1 + 1) (KA f (stp s (a, b))) rfl rfl 133 ZA T5.out.z (by rw [info133, KA_size]) (by rw [KA_size]; rfl) (KA_one _ _) ?_
                try (refine hK _ _ ?_; clear hK K)
                refine wpAny_done (by kernel_rfl) ?_ _
                go_wp2_with fail
                go_meet
                case rel => exact ⟨_, T5, rfl⟩
              exact AllReady.nil
            exact AllReady.nil
          exact AllReady.nil
        refine AllReady.cons rfl (fun K hK => ?_) ?_
        · go_simp
          go_wp2_with (go_at_call 149; refine (before_nat f s a b _ hab hb).mono ?_; rintro e w4 ⟨rfl, hb4⟩; have T4 := Lib.hid (T1.out.later hb4); clear hb4)
          try (refine hK _ _ ?_; clear hK K)
          refine wpAny_ready (rs := [0]) (by kernel_rfl) (by simp) ?_
          refine AllReady.cons rfl (fun K hK => ?_) ?_
          · refine step_load_row rfl 133 (.tmp 2) rfl B rfl 133 (KA f s) (0, 0) _ T4.out.k Try.underlying133 ⟨_, rfl⟩ (by rw [info133, KA_size]) ?_
            try (refine hK _ _ ?_; clear hK K)
            refine wpAny_ready (rs := [4]) (by kernel_rfl) (by simp) ?_
            refine AllReady.cons rfl (fun K hK => ?_) ?_
            · go_simp
              go_wp2_with (go_at_call 151; refine (behindCallers_st f s a b _ Hs.out hab hb).mono ?_; rintro e w5 ⟨rfl, hb5⟩; have T5 := Lib.hid (T4.out.later hb5); clear hb5)
              try (refine hK _ _ ?_; clear hK K)
              refine wpAny_ready (rs := [5]) (by kernel_rfl) (by simp) ?_
              refine AllReady.cons rfl (fun K hK => ?_) ?_
              · refine step_store_row rfl 133 (.tmp 4) (.tmp 9) rfl (B + 1 + 1) (KA f (stp s (a, b))) rfl rfl 133 ZA T5.out.z (by rw [info133, KA_size]) (by rw [KA_size]; rfl) (KA_one _ _) ?_
                try (refine hK _ _ ?_; clear hK K)
                refine wpAny_done (by kernel_rfl) ?_ _
                go_wp2_with fail
                go_meet
                case rel => exact ⟨_, T5, rfl⟩
              exact AllReady.nil
            exact AllReady.nil
          exact AllReady.nil
        exact AllReady.nil
      exact AllReady.nil
    exact AllReady.nil
  case rest =>
    obtain ⟨w4, T4, rfl⟩ := hcut
    go_wp2_with fail
    refine bodyPost_ret (results_cell_row rfl _ _ (B + 1 + 1) 133 _ (0, 0) _ rfl (setRow_heap _ _ _ _ _ _ T4.out.z) Try.underlying133 rfl ?_) rfl ⟨rfl, ?_⟩
    · rw [info133, KA_size]
    · rw [HBd.out]
      exact below_setRow T4.out.b (by omega) _

theorem behind_st (f : Int) (s : Nat → Nat) (a b : Int) (w : World) (hs : ∀ i, s i < 1024) (ha : 0 ≤ a) (hab : a < b) (hb : b < 10) :
    Calls Try.prog 150 #[.agg (KA f s), .agg #[.int .i64 a, .int .i64 b]] w fun e w' => e = .returned (.agg (KA f (stp s (a, b)))) ∧ Below w.heap.size w w' := by
  obtain ⟨a, rfl⟩ := Int.eq_ofNat_of_zero_le ha
  obtain ⟨b, rfl⟩ := Int.eq_ofNat_of_zero_le (show 0 ≤ b by omega)
  exact behind_nat f s a b w hs (by omega) (by omega)

end Go.Proofs.Ytmgmkgjefplfdaa
