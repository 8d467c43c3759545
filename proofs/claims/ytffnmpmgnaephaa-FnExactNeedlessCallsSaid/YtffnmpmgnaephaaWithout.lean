/- What is known behind the calls without one of them, in the program. -/
import Derived.Test.YtffnmpmgnaephaaSpecNeedless
namespace Go.Proofs.Ytffnmpmgnaephaa
open Go.ChangeShapes Go.WideShapes Go.ChangeAt Go.RowKit
set_option linter.unusedVariables false


theorem row_below2 {w w2 : World} {g : Nat} {K : Array Value} {t : TypeId} (h : w.heap[g]? = some (.cells K t (0, 0))) (hb : Below w.heap.size w w2) : w2.heap[g]? = some (.cells K t (0, 0)) :=
  (hb.block _ (Array.getElem?_eq_some_iff.1 h).1).trans h
theorem gd_drop {f : Int} {l : List (Int × Int)} (h : gdB f l = true) (k : Nat) : gdB f (l.drop k) = true := by
  simp only [gdB, Bool.and_eq_true, decide_eq_true_eq, List.all_eq_true] at h ⊢
  refine ⟨⟨h.1.1, ?_⟩, fun c hc => h.2 c (List.mem_of_mem_drop hc)⟩
  have := h.1.2
  simp only [List.length_drop]; omega

set_option maxHeartbeats 1600000 in
set_option maxRecDepth 20000 in
theorem without_at (b off off2 cap : Nat) (f : Nat) (l p d : List (Int × Int)) (n k m : Nat) (w : World) (hp : p = l.take k) (hd : d = l.drop (k + 1)) (Hm : Hid (m = n - (k + 1) ∧ m = d.length)) (Hn : Hid (n = l.length)) (hl : n ≤ 60) (hcap : n ≤ cap) (hk : k < n) (hg : gdB (f : Int) l = true)
    (hif : (if cap = k + 1 then (some ⟨b, off, none⟩ : Option Addr) else some ⟨b, off + (k + 1) * 2, none⟩) = some ⟨b, off2, none⟩)
    (HP : Hid (CallsAt w (some ⟨b, off, none⟩) p))
    (HD : Hid (CallsAt w (some ⟨b, off2, none⟩) d)) :
    Calls Try.prog 62 #[.int .i64 f, .slice (some ⟨b, off, none⟩) n cap, .int .i64 k] w fun e w' => e = .returned (.agg (KA f (play f (p ++ d)))) ∧ Below w.heap.size w w' := by
  have hff := gd_fr hg
  have Hgp : Hid (gdB (f : Int) p = true) := by rw [hp]; exact gd_take hg k
  have Hgd : Hid (twoB d) := by rw [hd]; exact gd_two (gd_drop hg (k + 1))
  have Hk0 : Hid (k = p.length) := by show _ = _; rw [hp, List.length_take, ← Hn.out]; omega
  have Hm2 : Hid (m = d.length) := Hm.out.2
  have hml : (n : Int) - ((k : Int) + 1) = (m : Int) := by have := Hm.out.1; omega
  have hml2 : n - (k + 1) = m := Hm.out.1.symm
  have e1 : play f (p ++ d) = d.foldl stp (play f p) := by simp [play, List.foldl_append]
  rw [e1]
  clear hg hp hd e1
  have hk0 : (0 : Int) ≤ (k : Int) := by omega
  have hk1 : (k : Int) ≤ (n : Int) := by omega
  have hk2 : (k : Int) ≤ (cap : Int) := by omega
  have hk3 : (0 : Int) ≤ (k : Int) + 1 := by omega
  have hk4 : (k : Int) + 1 ≤ (n : Int) := by omega
  have hk5 : (n : Int) ≤ (cap : Int) := by omega
  have hw1 : IntKind.i64.wrap ((k : Int) + 1) = (k : Int) + 1 := IntWalk.i64_in _ (by omega)
  have hw2 : ((k : Int) + 1).toNat = k + 1 := by omega
  have hm60 : m ≤ 60 := by omega
  go_enter Try.func62, Try.ntmps62
  go_wp2_with fail
  have hZ : ZA = #[.int .i64 0, .int .u16 0, .int .u16 0, .int .u16 0, .int .u16 0, .int .u16 0, .int .u16 0, .int .u16 0, .int .u16 0, .int .u16 0, .int .u16 0] := rfl
  rw [← hZ]
  have HZ1 : Hid ((w.alloc (.cells ZA 57)).drew.heap[w.heap.size]? = some (.cells ZA 57 (0, 0))) := heap_alloc_new w _
  have HW1 : Hid (Below w.heap.size w (w.alloc (.cells ZA 57)).drew) := ((Below.refl _ _).alloc (Nat.le_refl _) _).drew
  clear hZ
  refine wp_region_any (by kernel_rfl) ?_
  change wpAny _ _ _ _ _ _ _ (World.drew _)
  generalize (w.alloc (.cells ZA 57)).drew = w1 at HZ1 HW1 ⊢
  refine wpAny_take (i := 0) (v := ?_) rfl (by kernel_rfl) (by kernel_rfl) (by kernel_rfl) (fun _ _ _ h => h) (Or.inl ⟨by rfl, ?y0⟩) ?_
  case y0 => intro w; go_simp; first | done | with_reducible rfl
  refine wpAny_take (i := 1) (v := ?_) rfl (by kernel_rfl) (by kernel_rfl) (by kernel_rfl) (fun _ _ _ h => h) (Or.inl ⟨by rfl, ?y1⟩) ?_
  case y1 => intro w; go_simp; first | done | with_reducible rfl
  refine wpAny_take (i := 2) (v := ?_) rfl (by kernel_rfl) (by kernel_rfl) (by kernel_rfl) (fun _ _ _ h => h) (Or.inl ⟨by rfl, ?y2⟩) ?_
  case y2 => intro w; go_simp; first | done | with_reducible rfl
  refine wpAny_take (i := 5) (v := ?_) rfl (by kernel_rfl) (by kernel_rfl) (by kernel_rfl) (fun _ _ _ h => h) (Or.inl ⟨by rfl, ?y5⟩) ?_
  case y5 => intro w; go_simp; first | done | with_reducible rfl
  refine wpAny_take (i := 6) (v := ?_) rfl (by kernel_rfl) (by kernel_rfl) (by kernel_rfl) (fun _ _ _ h => h) (Or.inl ⟨by rfl, ?y6⟩) ?_
  case y6 => intro w; go_simp; first | done | with_reducible rfl
  refine wpAny_take (i := 7) (v := ?_) rfl (by kernel_rfl) (by kernel_rfl) (by kernel_rfl) (fun _ _ _ h => h) (Or.inl ⟨by rfl, ?y7⟩) ?_
  case y7 => intro w; go_simp; first | done | with_reducible rfl
  refine wpAny_ready (rs := [3, 8]) (by kernel_rfl) (by simp) ?_
  refine AllReady.cons rfl (fun K hK => ?_) ?_
  · go_simp
    try (refine hK _ _ ?_; clear hK K)
    refine wpAny_ready (rs := [4, 8]) (by kernel_rfl) (by simp) ?_
    refine AllReady.cons rfl (fun K hK => ?_) ?_
    · go_simp
      go_wp2_with (go_at_call 45; refine (knowledgeBehind_any f _ cap p k _ Hk0 Hgp.out (HP.out.kept HW1.out)).mono ?_; rintro e w4 ⟨rfl, hb4⟩; have HW4 : Hid (Below w.heap.size w w4) := HW1.out.trans (hb4.mono HW1.out.size); have HZ4 : Hid (w4.heap[w.heap.size]? = some (.cells ZA 57 (0, 0))) := row_below2 HZ1.out hb4; clear hb4)
      try (refine hK _ _ ?_; clear hK K)
      refine wpAny_ready (rs := [8]) (by kernel_rfl) (by simp) ?_
      refine AllReady.cons rfl (fun K hK => ?_) ?_
      · go_simp
        try (refine hK _ _ ?_; clear hK K)
        refine wpAny_ready (rs := [9]) (by kernel_rfl) (by simp) ?_
        refine AllReady.cons rfl (fun K hK => ?_) ?_
        · go_simp
          go_wp2_with (go_at_call 72; refine (behindAll_any _ _ f (play f p) d m _ (play_small f (by omega) p) Hm2 (by omega) Hgd (HD.out.kept HW4.out)).mono ?_; rintro e w5 ⟨rfl, hb5⟩; have HW5 : Hid (Below w.heap.size w w5) := HW4.out.trans (hb5.mono HW4.out.size); have HZ5 : Hid (w5.heap[w.heap.size]? = some (.cells ZA 57 (0, 0))) := row_below2 HZ4.out hb5; clear hb5)
          try (refine hK _ _ ?_; clear hK K)
          refine wpAny_ready (rs := [10]) (by kernel_rfl) (by simp) ?_
          refine AllReady.cons rfl (fun K hK => ?_) ?_
          · refine step_store_row rfl 57 (.tmp 6) (.tmp 16) rfl w.heap.size (KA f (d.foldl stp (play f p))) rfl rfl 57 ZA HZ5.out (by rw [info57, KA_size]) (by rw [KA_size]; rfl) (KA_one _ _) ?_
            try (refine hK _ _ ?_; clear hK K)
            refine wpAny_done (by kernel_rfl) ?_ _
            go_wp2_with fail
            refine bodyPost_ret (results_cell_row rfl _ _ w.heap.size 57 _ (0, 0) _ rfl (setRow_heap _ _ _ _ _ _ HZ5.out) Try.underlying57 rfl ?_) rfl ⟨rfl, below_setRow HW5.out (Nat.le_refl _) _⟩
            rw [info57, KA_size]
          exact AllReady.nil
        exact AllReady.nil
      exact AllReady.nil
    refine AllReady.cons rfl (fun K hK => ?_) ?_
    · go_simp
      try (refine hK _ _ ?_; clear hK K)
      refine wpAny_ready (rs := [4]) (by kernel_rfl) (by simp) ?_
      refine AllReady.cons rfl (fun K hK => ?_) ?_
      · go_simp
        go_wp2_with (go_at_call 45; refine (knowledgeBehind_any f _ cap p k _ Hk0 Hgp.out (HP.out.kept HW1.out)).mono ?_; rintro e w4 ⟨rfl, hb4⟩; have HW4 : Hid (Below w.heap.size w w4) := HW1.out.trans (hb4.mono HW1.out.size); have HZ4 : Hid (w4.heap[w.heap.size]? = some (.cells ZA 57 (0, 0))) := row_below2 HZ1.out hb4; clear hb4)
        try (refine hK _ _ ?_; clear hK K)
        refine wpAny_ready (rs := [9]) (by kernel_rfl) (by simp) ?_
        refine AllReady.cons rfl (fun K hK => ?_) ?_
        · go_simp
          go_wp2_with (go_at_call 72; refine (behindAll_any _ _ f (play f p) d m _ (play_small f (by omega) p) Hm2 (by omega) Hgd (HD.out.kept HW4.out)).mono ?_; rintro e w5 ⟨rfl, hb5⟩; have HW5 : Hid (Below w.heap.size w w5) := HW4.out.trans (hb5.mono HW4.out.size); have HZ5 : Hid (w5.heap[w.heap.size]? = some (.cells ZA 57 (0, 0))) := row_below2 HZ4.out hb5; clear hb5)
          try (refine hK _ _ ?_; clear hK K)
          refine wpAny_ready (rs := [10]) (by kernel_rfl) (by simp) ?_
          refine AllReady.cons rfl (fun K hK => ?_) ?_
          · refine step_store_row rfl 57 (.tmp 6) (.tmp 16) rfl w.heap.size (KA f (d.foldl stp (play f p))) rfl rfl 57 ZA HZ5.out (by rw [info57, KA_size]) (by rw [KA_size]; rfl) (KA_one _ _) ?_
            try (refine hK _ _ ?_; clear hK K)
            refine wpAny_done (by kernel_rfl) ?_ _
            go_wp2_with fail
            refine bodyPost_ret (results_cell_row rfl _ _ w.heap.size 57 _ (0, 0) _ rfl (setRow_heap _ _ _ _ _ _ HZ5.out) Try.underlying57 rfl ?_) rfl ⟨rfl, below_setRow HW5.out (Nat.le_refl _) _⟩
            rw [info57, KA_size]
          exact AllReady.nil
        exact AllReady.nil
      exact AllReady.nil
    exact AllReady.nil
  refine AllReady.cons rfl (fun K hK => ?_) ?_
  · go_simp
    try (refine hK _ _ ?_; clear hK K)
    refine wpAny_ready (rs := [3]) (by kernel_rfl) (by simp) ?_
    refine AllReady.cons rfl (fun K hK => ?_) ?_
    · go_simp
      try (refine hK _ _ ?_; clear hK K)
      refine wpAny_ready (rs := [4]) (by kernel_rfl) (by simp) ?_
      refine AllReady.cons rfl (fun K hK => ?_) ?_
      · go_simp
        go_wp2_with (go_at_call 45; refine (knowledgeBehind_any f _ cap p k _ Hk0 Hgp.out (HP.out.kept HW1.out)).mono ?_; rintro e w4 ⟨rfl, hb4⟩; have HW4 : Hid (Below w.heap.size w w4) := HW1.out.trans (hb4.mono HW1.out.size); have HZ4 : Hid (w4.heap[w.heap.size]? = some (.cells ZA 57 (0, 0))) := row_below2 HZ1.out hb4; clear hb4)
        try (refine hK _ _ ?_; clear hK K)
        refine wpAny_ready (rs := [9]) (by kernel_rfl) (by simp) ?_
        refine AllReady.cons rfl (fun K hK => ?_) ?_
        · go_simp
          go_wp2_with (go_at_call 72; refine (behindAll_any _ _ f (play f p) d m _ (play_small f (by omega) p) Hm2 (by omega) Hgd (HD.out.kept HW4.out)).mono ?_; rintro e w5 ⟨rfl, hb5⟩; have HW5 : Hid (Below w.heap.size w w5) := HW4.out.trans (hb5.mono HW4.out.size); have HZ5 : Hid (w5.heap[w.heap.size]? = some (.cells ZA 57 (0, 0))) := row_below2 HZ4.out hb5; clear hb5)
          try (refine hK _ _ ?_; clear hK K)
          refine wpAny_ready (rs := [10]) (by kernel_rfl) (by simp) ?_
          refine AllReady.cons rfl (fun K hK => ?_) ?_
          · refine step_store_row rfl 57 (.tmp 6) (.tmp 16) rfl w.heap.size (KA f (d.foldl stp (play f p))) rfl rfl 57 ZA HZ5.out (by rw [info57, KA_size]) (by rw [KA_size]; rfl) (KA_one _ _) ?_
            try (refine hK _ _ ?_; clear hK K)
            refine wpAny_done (by kernel_rfl) ?_ _
            go_wp2_with fail
            refine bodyPost_ret (results_cell_row rfl _ _ w.heap.size 57 _ (0, 0) _ rfl (setRow_heap _ _ _ _ _ _ HZ5.out) Try.underlying57 rfl ?_) rfl ⟨rfl, below_setRow HW5.out (Nat.le_refl _) _⟩
            rw [info57, KA_size]
          exact AllReady.nil
        exact AllReady.nil
      exact AllReady.nil
    exact AllReady.nil
  exact AllReady.nil

theorem without_any (ao : Option Addr) (cap : Nat) (f : Nat) (l : List (Int × Int)) (n k : Nat) (w : World) (Hn : Hid (n = l.length)) (hl : n ≤ 60) (hcap : n ≤ cap) (hk : k < n) (hg : gdB (f : Int) l = true) (hc : CallsAt w ao l) :
    Calls Try.prog 62 #[.int .i64 f, .slice ao n cap, .int .i64 k] w fun e w' => e = .returned (.agg (KA f (play f (less l k)))) ∧ Below w.heap.size w w' := by
  have hct := calls_take hc k
  rcases hc with h | ⟨b, off, rfl, hc⟩
  · subst h; have := Hn.out; simp at this; omega
  · by_cases hcc : cap = k + 1
    · refine without_at b off off cap f l (l.take k) (l.drop (k + 1)) n k (n - (k + 1)) w rfl rfl ⟨rfl, by rw [List.length_drop, ← Hn.out]⟩ Hn hl hcap hk hg (by rw [if_pos hcc]) hct ?_
      refine .inr ⟨b, off, rfl, fun i hi => ?_⟩
      rw [List.length_drop, ← Hn.out] at hi; omega
    · refine without_at b off (off + (k + 1) * 2) cap f l (l.take k) (l.drop (k + 1)) n k (n - (k + 1)) w rfl rfl ⟨rfl, by rw [List.length_drop, ← Hn.out]⟩ Hn hl hcap hk hg (by rw [if_neg hcc]) hct ?_
      exact .inr ⟨b, _, rfl, fun i hi => calls_drop Hn.out (by rw [Hn.out]; exact hc) (k + 1) i hi⟩

end Go.Proofs.Ytffnmpmgnaephaa
