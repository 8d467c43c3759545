/- A network with a pair more: the model. -/
import Derived.Test.YtbddhjpofijmpaaAddI
namespace Go.Proofs.Ytbddhjpofijmpaa
open Go.ChangeShapes Go.WideShapes Go.ChangeAt Go.RowKit
set_option linter.unusedVariables false


theorem plc_lt {X Y : Int} : ∀ {l : List (Int × Int)} {j : Nat}, j < plc l X Y → befC (ca l j, cb l j) (X, Y)
  | [], j, h => by simp [plc] at h
  | a :: r, j, h => by
    unfold plc at h
    by_cases hb : befC a (X, Y)
    · cases j with
      | zero => simpa [ca, cb] using hb
      | succ j =>
        have : j < plc r X Y := by unfold plc; simp [hb] at h; omega
        have := plc_lt (l := r) this
        simpa [ca, cb] using this
    · simp [hb] at h
theorem plc_at {X Y : Int} : ∀ {l : List (Int × Int)}, plc l X Y < l.length → ¬ befC (ca l (plc l X Y), cb l (plc l X Y)) (X, Y)
  | [], h => by simp at h
  | a :: r, h => by
    by_cases hb : befC a (X, Y)
    · have e : plc (a :: r) X Y = plc r X Y + 1 := by unfold plc; simp [hb]
      rw [e] at h ⊢
      have := plc_at (l := r) (X := X) (Y := Y) (by simp at h; omega)
      simpa [ca, cb] using this
    · have e : plc (a :: r) X Y = 0 := by unfold plc; simp [hb]
      rw [e]
      simpa [ca, cb] using hb
theorem ltC_eq (a b c d : Int) : ltC a b c d = decide (befC (a, b) (c, d)) := rfl
theorem plc_low {l : List (Int × Int)} {X Y : Int} {j : Nat} (h : j < plc l X Y) : ltC X Y (ca l j) (cb l j) = false := by
  have := plc_lt h
  unfold befC at this
  simp only [ltC, decide_eq_false_iff_not]
  omega
theorem plc_high {l : List (Int × Int)} {X Y : Int} (hinc : incB l = true) (hn : hasC l X Y = false) {j : Nat} (h : plc l X Y ≤ j) (hj : j < l.length) : ltC X Y (ca l j) (cb l j) = true := by
  have h1 := plc_at (X := X) (Y := Y) (l := l) (by omega)
  have hne : ¬ (ca l j = X ∧ cb l j = Y) := fun hh => by rw [has_yes hj hh.1 hh.2] at hn; cases hn
  have h2 : ¬ befC (ca l j, cb l j) (X, Y) := by
    by_cases he : j = plc l X Y
    · rw [he]; exact h1
    · have h3 := inc_lt hinc (i := plc l X Y) j (by omega) hj
      exact fun h4 => h1 (befC_trans h3 h4)
  unfold befC at h2
  simp only [ltC, decide_eq_true_eq]
  omega

theorem pair_news {w : World} {q : Nat} {X Y : Int} (h0 : w.cell? ⟨q, 0, none⟩ = some (.int .i64 X)) (h1 : w.cell? ⟨q, 1, none⟩ = some (.int .i64 Y)) :
    ∀ j u, (cs [(X, Y)])[j]? = some u → w.cell? ((⟨q, 0, none⟩ : Addr).add j) = some u := by
  refine calls_news (m := [(X, Y)]) (off := 0) fun i hi => ?_
  obtain rfl : i = 0 := by simp at hi; omega
  exact ⟨h0, h1⟩

set_option maxHeartbeats 8000000 in
set_option maxRecDepth 20000 in
theorem specAdd_at (b off off2 cap : Nat) (f X Y : Int) (l : List (Int × Int)) (n pk : Nat) (w : World) (Hn : Hid (n = l.length)) (hcap : n ≤ cap) (Hg : Hid (netB f l = true)) (Hcal : Hid (calB f X Y = true)) (Hhas : Hid (hasC l X Y = false)) (hk : pk ≤ n) (Hpl : Hid (plc l X Y = pk))
    (hif : (if cap = pk then (some ⟨b, off, none⟩ : Option Addr) else some ⟨b, off + pk * 2, none⟩) = some ⟨b, off2, none⟩)
    (Hc : Hid (∀ i, i < n → w.cell? ⟨b, off + i * 2, none⟩ = some (.int .i64 (ca l i)) ∧ w.cell? ⟨b, off + i * 2 + 1, none⟩ = some (.int .i64 (cb l i))))
    (HD : Hid (CallsAt w (some ⟨b, off2, none⟩) (l.drop pk))) :
    Calls Try.prog 34 #[.int .i64 f, .slice (some ⟨b, off, none⟩) n cap, .agg #[.int .i64 X, .int .i64 Y]] w fun e w' => ∃ v, e = .returned (.tuple #[v, .bool true]) ∧ w'.ownsRow w.heap.size 46 2 v (ins l X Y).length (cs (ins l X Y)) ∧ Below w.heap.size w w' := by
  obtain ⟨i0, hi, hz0, hz1, hz2⟩ := info_parts info46
  have h60 : n ≤ 60 := by rw [Hn.out]; exact net_len60 Hg.out
  have hff := net_fr Hg.out
  have hf1 := hff.1
  have hf2 := hff.2
  have HA : Hid (CallsAt w (some ⟨b, off, none⟩) l) := Lib.hid (.inr ⟨b, off, rfl, by rw [← Hn.out]; exact Hc.out⟩)
  have Hlow : Hid (∀ j, j < pk → ltC X Y (ca l j) (cb l j) = false) := Lib.hid (fun j hj => plc_low (by rw [Hpl.out]; exact hj))
  have Hhigh : Hid (∀ j, pk ≤ j → j < n → ltC X Y (ca l j) (cb l j) = true) := Lib.hid (fun j h1 h2 => plc_high (net_inc Hg.out) Hhas.out (by rw [Hpl.out]; exact h1) (by rw [← Hn.out]; exact h2))
  have hmm : 0 ≤ X ∧ X < Y := by have := Hcal.out; simp [calB] at this; omega
  have Hmm : Hid (hasC l (min X Y) (max X Y) = false) := Lib.hid (by rw [show min X Y = X by omega, show max X Y = Y by omega]; exact Hhas.out)
  have HINS : Hid (∀ (v : World) (u : Value), v.ownsRow w.heap.size 46 2 u (pk + 1 + (n - pk)) (cs (l.take pk ++ (X, Y) :: l.drop pk)) → v.ownsRow w.heap.size 46 2 u (ins l X Y).length (cs (ins l X Y))) := Lib.hid (fun v u h => by
    have e : ins l X Y = l.take pk ++ (X, Y) :: l.drop pk := by rw [ins, Hpl.out]; rfl
    have e2 : (ins l X Y).length = pk + 1 + (n - pk) := by rw [ins_len, ← Hn.out]; omega
    rw [e2, e]; exact h)
  have HLL : Hid (pk + 1 + (n - pk) = (l.take pk ++ (X, Y) :: l.drop pk).length) := Lib.hid (by simp only [List.length_append, List.length_take, List.length_drop, List.length_cons, ← Hn.out]; omega)
  have HL1 : Hid ((cs (l.take pk)).length = pk * 2) := Lib.hid (by rw [cs_length, List.length_take, ← Hn.out]; omega)
  have HL2 : Hid (n - pk = (l.drop pk).length) := Lib.hid (by rw [List.length_drop, ← Hn.out])
  clear hmm hff
  have hk0 : (0 : Int) ≤ (pk : Int) := by omega
  have hk1 : (pk : Int) ≤ (n : Int) := by omega
  have hk2 : (pk : Int) ≤ (cap : Int) := by omega
  have hk5 : (n : Int) ≤ (cap : Int) := by omega
  have hnk : (n : Int) - (pk : Int) = ((n - pk : Nat) : Int) := by omega
  go_enter Try.func34, Try.ntmps34
  go_wp2_with fail
  obtain ⟨W0, hW0⟩ : ∃ W0, w.alloc (Obj.cells #[Value.int IntKind.i64 X, Value.int IntKind.i64 Y] 46) = W0 := ⟨_, rfl⟩
  have C0 : Hid (W0.cell? ⟨w.heap.size, 0, none⟩ = some (.int .i64 X)) := Lib.hid (by rw [← hW0]; simp)
  have C1 : Hid (W0.cell? ⟨w.heap.size, 1, none⟩ = some (.int .i64 Y)) := Lib.hid (by rw [← hW0]; simp)
  have HbW : Hid (Below w.heap.size w W0) := Lib.hid (by rw [← hW0]; exact (Below.refl _ _).alloc (Nat.le_refl _) _)
  rw [hW0]
  clear hW0
  have c0 := C0.out
  have c1 := C1.out
  refine (neGood_any f _ cap l n W0 Hn.out (by omega) (HA.out.kept HbW.out)).mono ?_
  rintro e w1 ⟨rfl, hb1⟩
  rw [Hg.out]
  clear c0 c1
  have c0 := cell_old hb1 C0.out
  have c1 := cell_old hb1 C1.out
  go_wp2_with fail
  refine (caCall_any f X Y w1 hf1 hf2).mono ?_
  rintro e w2 ⟨rfl, hb2⟩
  rw [Hcal.out]
  have hb3 := hb1.trans (hb2.mono hb1.size)
  clear hb1 hb2 c0 c1
  have c0 := cell_old hb3 C0.out
  have c1 := cell_old hb3 C1.out
  have hbel : Below w.heap.size w w2 := HbW.out.trans (hb3.mono HbW.out.size)
  go_wp2_with fail
  refine (neIs_any _ cap l n X Y w2 Hn (by omega) (HA.out.kept hbel)).mono ?_
  rintro e w3 ⟨rfl, hb4⟩
  rw [Hmm.out]
  have hb5 : Below W0.heap.size W0 w3 := hb3.trans (hb4.mono hb3.size)
  clear hb3 hb4 hbel c0 c1
  have HN1 : Hid (∀ w', Below W0.heap.size W0 w' → ∀ j u, (cs (l.take pk))[j]? = some u → w'.cell? ((⟨b, off, none⟩ : Addr).add j) = some u) := Lib.hid (fun w' hb => calls_news fun i hi => by
    have hi' : i < pk ∧ i < l.length := by rw [List.length_take] at hi; omega
    have e1 : ca (l.take pk) i = ca l i := by simp [ca, List.getD_eq_getElem?_getD, hi'.1]
    have e2 : cb (l.take pk) i = cb l i := by simp [cb, List.getD_eq_getElem?_getD, hi'.1]
    rw [e1, e2]
    have h := Hc.out i (by rw [Hn.out]; exact hi'.2)
    have hbw : Below w.heap.size w w' := HbW.out.trans (hb.mono HbW.out.size)
    exact ⟨cell_old hbw h.1, cell_old hbw h.2⟩)
  go_wp2_with fail
  go_loopw [8] (fun i wr => ∃ k : Nat, pk ≤ k ∧ k ≤ n ∧ i = .int .i64 k ∧ Below W0.heap.size W0 wr) (fun i _ => (intOf i).toNat)
  case atStart => exact ⟨n, hk, Nat.le_refl _, rfl, hb5⟩
  case round =>
    clear hb5
    obtain ⟨k, hpk, hkn, rfl, hbel⟩ := hrel
    have c0 := cell_old hbel C0.out
    have c1 := cell_old hbel C1.out
    by_cases hz : k = 0
    · obtain rfl : pk = k := by omega
      have hgt : decide ((0 : Int) < (pk : Int)) = false := by simp; omega
      have hgtN : decide (0 < pk) = false := by simp; omega
      clear hz
      go_wp2_with fail
      refine wp_region_quiet_grown mixedT (by kernel_rfl) ?_
      repeat (go_big_quiet_step (fail))
      refine wpQuiet_nil ?_
      intro _ hwz
      obtain ⟨⟨nq, osq⟩, hwz2⟩ := hwz
      subst hwz2
      have HB0 : Hid (Below W0.heap.size W0 (Sort.grow (wr.drewN nq) osq)) := Lib.hid (hbel.trans ((grown_below ⟨⟨nq, osq⟩, rfl⟩).mono hbel.size))
      clear c0 c1 hbel
      generalize Sort.grow (wr.drewN nq) osq = w4 at *
      go_wp2_with fail
      have c0 : w4.drew.cell? ⟨w.heap.size, 0, none⟩ = some (.int .i64 X) := cell_old HB0.out.drew C0.out
      have c1 : w4.drew.cell? ⟨w.heap.size, 1, none⟩ = some (.int .i64 Y) := cell_old HB0.out.drew C1.out
      have HB1 : Hid (Below W0.heap.size W0 w4.drew) := Lib.hid HB0.out.drew
      refine wp_region_any (by kernel_rfl) ?_
      change wpAny _ _ _ _ _ _ _ (World.drew _)
      obtain ⟨v1, hv1⟩ : ∃ v1, w4.drew = v1 := ⟨_, rfl⟩
      rw [hv1] at c0 c1 HB1 ⊢
      clear hv1
      refine wpAny_take (i := 1) (v := ?_) rfl (by kernel_rfl) (by kernel_rfl) (by kernel_rfl) (fun _ _ _ h => h) (Or.inl ⟨by rfl, ?y1⟩) ?_
      case y1 => intro w; go_simp; first | done | with_reducible rfl
      refine wpAny_take (i := 2) (v := ?_) rfl (by kernel_rfl) (by kernel_rfl) (by kernel_rfl) (fun _ _ _ h => h) (Or.inl ⟨by rfl, ?y2⟩) ?_
      case y2 => intro w; go_simp; first | done | with_reducible rfl
      refine wpAny_ready (rs := [0, 3, 5]) (by kernel_rfl) (by simp) ?_
      refine AllReady.cons rfl (fun K hK => ?_) ?_
      · go_simp
        try (refine hK _ _ ?_; clear hK K)
        obtain ⟨v2, hv2⟩ : ∃ v2, v1.alloc (Obj.cells #[] 46) = v2 := ⟨_, rfl⟩
        rw [hv2]
        have HA2 : Hid (Below v1.heap.size v1 v2) := Lib.hid (by rw [← hv2]; exact (Below.refl _ _).alloc (Nat.le_refl _) _)
        have HB2 : Hid (Below W0.heap.size W0 v2) := Lib.hid (HB1.out.trans (HA2.out.mono HB1.out.size))
        obtain ⟨e0, he0⟩ : ∃ e0, v1.heap.size = e0 := ⟨_, rfl⟩
        have HE2 : Hid (v2.ownsRow W0.heap.size 46 2 (.slice (some ⟨e0, 0, none⟩) 0 0) 0 []) := Lib.hid (by rw [← he0, ← hv2]; exact World.ownsRow_lit v1 #[] 0 HB1.out.size (by unfold maxLen; omega) rfl)
        rw [he0]
        clear he0 hv2
        have c0 := cell_old HB2.out C0.out
        have c1 := cell_old HB2.out C1.out
        refine wpAny_ready (rs := [3, 5]) (by kernel_rfl) (by simp) ?_
        refine AllReady.cons rfl (fun K hK => ?_) ?_
        · go_simp
          try (refine hK _ _ ?_; clear hK K)
          refine wpAny_ready (rs := [4, 5]) (by kernel_rfl) (by simp) ?_
          refine AllReady.cons rfl (fun K hK => ?_) ?_
          · refine step_append_mine _ (by rfl) _ _ 25 (by rfl) W0.heap.size 46 i0 _ 2 16 Try.underlying25 hi hz0 hz1 hz2 rfl (by omega) _ 0 [] (by rfl) HE2.out ⟨b, off, none⟩ pk _ (cs (l.take pk)) (by rfl) HL1.out (HN1.out _ HB2.out) (cs_one _) (by unfold maxLen; omega) (by omega) HB2.out.size ?_
            intro u1 v3 own1 gr1
            have HB3 : Hid (Below W0.heap.size W0 v3) := Lib.hid (HB2.out.grown gr1 HB2.out.size (fun b hb => (HE2.out.lt b hb).1))
            have HO3 : Hid (v3.ownsRow W0.heap.size 46 2 u1 (0 + pk) ([] ++ cs (l.take pk))) := Lib.hid own1
            clear own1 gr1
            refine hK _ _ ?_
            clear hK K
            have c0 := cell_old HB3.out C0.out
            have c1 := cell_old HB3.out C1.out
            refine wpAny_ready (rs := [5]) (by kernel_rfl) (by simp) ?_
            refine AllReady.cons rfl (fun K hK => ?_) AllReady.nil
            go_simp
            try (refine hK _ _ ?_; clear hK K)
            refine wpAny_ready (rs := [6]) (by kernel_rfl) (by simp) ?_
            refine AllReady.cons rfl (fun K hK => ?_) AllReady.nil
            go_simp
            try (refine hK _ _ ?_; clear hK K)
            obtain ⟨v4, hv4⟩ : ∃ v4, v3.alloc (Obj.cells #[Value.int IntKind.i64 X, Value.int IntKind.i64 Y] 46) = v4 := ⟨_, rfl⟩
            rw [hv4]
            have HA4 : Hid (Below v3.heap.size v3 v4) := Lib.hid (by rw [← hv4]; exact (Below.refl _ _).alloc (Nat.le_refl _) _)
            have HB4 : Hid (Below W0.heap.size W0 v4) := Lib.hid (HB3.out.trans (HA4.out.mono HB3.out.size))
            obtain ⟨q, hq0⟩ : ∃ q, v3.heap.size = q := ⟨_, rfl⟩
            have HP4 : Hid (v4.cell? ⟨q, 0, none⟩ = some (.int .i64 X) ∧ v4.cell? ⟨q, 1, none⟩ = some (.int .i64 Y) ∧ q < v4.heap.size) := Lib.hid (by rw [← hq0, ← hv4]; simp)
            have HO4 : Hid (v4.ownsRow W0.heap.size 46 2 u1 (0 + pk) ([] ++ cs (l.take pk))) := Lib.hid (own_later HO3.out HA4.out)
            rw [hq0]
            clear hq0 hv4
            refine wpAny_ready (rs := [7]) (by kernel_rfl) (by simp) ?_
            refine AllReady.cons rfl (fun K hK => ?_) AllReady.nil
            refine step_append_mine _ (by rfl) _ _ 25 (by rfl) W0.heap.size 46 i0 _ 2 16 Try.underlying25 hi hz0 hz1 hz2 rfl (by omega) _ (0 + pk) ([] ++ cs (l.take pk)) (by rfl) HO4.out ⟨q, 0, none⟩ 1 _ (cs [(X, Y)]) (by rfl) rfl (pair_news HP4.out.1 HP4.out.2.1) (cs_one _) (by unfold maxLen; omega) (by omega) HB4.out.size ?_
            intro u2 v5 own2 gr2
            have HB5 : Hid (Below W0.heap.size W0 v5) := Lib.hid (HB4.out.grown gr2 HB4.out.size (fun b hb => (HO4.out.lt b hb).1))
            have HO5 : Hid (v5.ownsRow W0.heap.size 46 2 u2 (0 + pk + 1) ([] ++ cs (l.take pk) ++ cs [(X, Y)])) := Lib.hid own2
            clear own2 gr2
            refine hK _ _ ?_
            clear hK K
            refine wpAny_ready (rs := [8]) (by kernel_rfl) (by simp) ?_
            refine AllReady.cons rfl (fun K hK => ?_) AllReady.nil
            go_simp
            try (refine hK _ _ ?_; clear hK K)
            refine wpAny_done (by kernel_rfl) ?_ _
            go_wp2_with (at_builtin; refine step_round _ rfl _ _ 25 rfl W0.heap.size 46 i0 (.agg #[.int .i64 0, .int .i64 0]) Try.underlying25 hi hz0 hz1 hz2 rfl _ (0 + pk + 1) (l.take pk ++ [(X, Y)]) rfl (by rw [cs_append]; exact HO5.out) (some ⟨b, off2, none⟩) _ _ (l.drop pk) rfl HL2.out (HD.out.kept (HbW.out.trans (HB5.out.mono HbW.out.size))) (fun h => by cases h) (by omega) HB5.out.size ?_)
            intro u3 v6 own3 hb3
            obtain ⟨ao9, cap9, rfl, _⟩ := own_shape own3 HLL.out
            have Own3 : Hid (v6.ownsRow w.heap.size 46 2 (.slice ao9 (pk + 1 + (n - pk)) cap9) (ins l X Y).length (cs (ins l X Y))) := Lib.hid (HINS.out _ _ (own_base HbW.out.size own3))
            have HB6 : Hid (Below w.heap.size w v6) := Lib.hid (HbW.out.trans ((HB5.out.trans hb3).mono HbW.out.size))
            clear own3 hb3
            go_wp2_with fail
            go_ret2
            exact ⟨_, rfl, Own3.out, HB6.out⟩
          refine AllReady.cons rfl (fun K hK => ?_) AllReady.nil
          go_simp
          try (refine hK _ _ ?_; clear hK K)
          refine wpAny_ready (rs := [4, 6]) (by kernel_rfl) (by simp) ?_
          refine AllReady.cons rfl (fun K hK => ?_) ?_
          · refine step_append_mine _ (by rfl) _ _ 25 (by rfl) W0.heap.size 46 i0 _ 2 16 Try.underlying25 hi hz0 hz1 hz2 rfl (by omega) _ 0 [] (by rfl) HE2.out ⟨b, off, none⟩ pk _ (cs (l.take pk)) (by rfl) HL1.out (HN1.out _ HB2.out) (cs_one _) (by unfold maxLen; omega) (by omega) HB2.out.size ?_
            intro u1 v3 own1 gr1
            have HB3 : Hid (Below W0.heap.size W0 v3) := Lib.hid (HB2.out.grown gr1 HB2.out.size (fun b hb => (HE2.out.lt b hb).1))
            have HO3 : Hid (v3.ownsRow W0.heap.size 46 2 u1 (0 + pk) ([] ++ cs (l.take pk))) := Lib.hid own1
            clear own1 gr1
            refine hK _ _ ?_
            clear hK K
            refine wpAny_ready (rs := [6]) (by kernel_rfl) (by simp) ?_
            refine AllReady.cons rfl (fun K hK => ?_) AllReady.nil
            go_simp
            try (refine hK _ _ ?_; clear hK K)
            obtain ⟨v4, hv4⟩ : ∃ v4, v3.alloc (Obj.cells #[Value.int IntKind.i64 X, Value.int IntKind.i64 Y] 46) = v4 := ⟨_, rfl⟩
            rw [hv4]
            have HA4 : Hid (Below v3.heap.size v3 v4) := Lib.hid (by rw [← hv4]; exact (Below.refl _ _).alloc (Nat.le_refl _) _)
            have HB4 : Hid (Below W0.heap.size W0 v4) := Lib.hid (HB3.out.trans (HA4.out.mono HB3.out.size))
            obtain ⟨q, hq0⟩ : ∃ q, v3.heap.size = q := ⟨_, rfl⟩
            have HP4 : Hid (v4.cell? ⟨q, 0, none⟩ = some (.int .i64 X) ∧ v4.cell? ⟨q, 1, none⟩ = some (.int .i64 Y) ∧ q < v4.heap.size) := Lib.hid (by rw [← hq0, ← hv4]; simp)
            have HO4 : Hid (v4.ownsRow W0.heap.size 46 2 u1 (0 + pk) ([] ++ cs (l.take pk))) := Lib.hid (own_later HO3.out HA4.out)
            rw [hq0]
            clear hq0 hv4
            refine wpAny_ready (rs := [7]) (by kernel_rfl) (by simp) ?_
            refine AllReady.cons rfl (fun K hK => ?_) AllReady.nil
            refine step_append_mine _ (by rfl) _ _ 25 (by rfl) W0.heap.size 46 i0 _ 2 16 Try.underlying25 hi hz0 hz1 hz2 rfl (by omega) _ (0 + pk) ([] ++ cs (l.take pk)) (by rfl) HO4.out ⟨q, 0, none⟩ 1 _ (cs [(X, Y)]) (by rfl) rfl (pair_news HP4.out.1 HP4.out.2.1) (cs_one _) (by unfold maxLen; omega) (by omega) HB4.out.size ?_
            intro u2 v5 own2 gr2
            have HB5 : Hid (Below W0.heap.size W0 v5) := Lib.hid (HB4.out.grown gr2 HB4.out.size (fun b hb => (HO4.out.lt b hb).1))
            have HO5 : Hid (v5.ownsRow W0.heap.size 46 2 u2 (0 + pk + 1) ([] ++ cs (l.take pk) ++ cs [(X, Y)])) := Lib.hid own2
            clear own2 gr2
            refine hK _ _ ?_
            clear hK K
            refine wpAny_ready (rs := [8]) (by kernel_rfl) (by simp) ?_
            refine AllReady.cons rfl (fun K hK => ?_) AllReady.nil
            go_simp
            try (refine hK _ _ ?_; clear hK K)
            refine wpAny_done (by kernel_rfl) ?_ _
            go_wp2_with (at_builtin; refine step_round _ rfl _ _ 25 rfl W0.heap.size 46 i0 (.agg #[.int .i64 0, .int .i64 0]) Try.underlying25 hi hz0 hz1 hz2 rfl _ (0 + pk + 1) (l.take pk ++ [(X, Y)]) rfl (by rw [cs_append]; exact HO5.out) (some ⟨b, off2, none⟩) _ _ (l.drop pk) rfl HL2.out (HD.out.kept (HbW.out.trans (HB5.out.mono HbW.out.size))) (fun h => by cases h) (by omega) HB5.out.size ?_)
            intro u3 v6 own3 hb3
            obtain ⟨ao9, cap9, rfl, _⟩ := own_shape own3 HLL.out
            have Own3 : Hid (v6.ownsRow w.heap.size 46 2 (.slice ao9 (pk + 1 + (n - pk)) cap9) (ins l X Y).length (cs (ins l X Y))) := Lib.hid (HINS.out _ _ (own_base HbW.out.size own3))
            have HB6 : Hid (Below w.heap.size w v6) := Lib.hid (HbW.out.trans ((HB5.out.trans hb3).mono HbW.out.size))
            clear own3 hb3
            go_wp2_with fail
            go_ret2
            exact ⟨_, rfl, Own3.out, HB6.out⟩
          refine AllReady.cons rfl (fun K hK => ?_) AllReady.nil
          go_simp
          try (refine hK _ _ ?_; clear hK K)
          obtain ⟨v3, hv3⟩ : ∃ v3, v2.alloc (Obj.cells #[Value.int IntKind.i64 X, Value.int IntKind.i64 Y] 46) = v3 := ⟨_, rfl⟩
          rw [hv3]
          have HA3 : Hid (Below v2.heap.size v2 v3) := Lib.hid (by rw [← hv3]; exact (Below.refl _ _).alloc (Nat.le_refl _) _)
          have HB3 : Hid (Below W0.heap.size W0 v3) := Lib.hid (HB2.out.trans (HA3.out.mono HB2.out.size))
          obtain ⟨q, hq0⟩ : ∃ q, v2.heap.size = q := ⟨_, rfl⟩
          have HP3 : Hid (v3.cell? ⟨q, 0, none⟩ = some (.int .i64 X) ∧ v3.cell? ⟨q, 1, none⟩ = some (.int .i64 Y) ∧ q < v3.heap.size) := Lib.hid (by rw [← hq0, ← hv3]; simp)
          have hqe : q ≠ e0 := by rw [← hq0]; have := (HE2.out.lt e0 rfl).2; omega
          have HE3 : Hid (v3.ownsRow W0.heap.size 46 2 (.slice (some ⟨e0, 0, none⟩) 0 0) 0 []) := Lib.hid (own_later HE2.out HA3.out)
          rw [hq0]
          clear hq0 hv3
          refine wpAny_ready (rs := [4]) (by kernel_rfl) (by simp) ?_
          refine AllReady.cons rfl (fun K hK => ?_) AllReady.nil
          refine step_append_mine _ (by rfl) _ _ 25 (by rfl) W0.heap.size 46 i0 _ 2 16 Try.underlying25 hi hz0 hz1 hz2 rfl (by omega) _ 0 [] (by rfl) HE3.out ⟨b, off, none⟩ pk _ (cs (l.take pk)) (by rfl) HL1.out (HN1.out _ HB3.out) (cs_one _) (by unfold maxLen; omega) (by omega) HB3.out.size ?_
          intro u1 v4 own1 gr1
          have HB4 : Hid (Below W0.heap.size W0 v4) := Lib.hid (HB3.out.grown gr1 HB3.out.size (fun b hb => (HE3.out.lt b hb).1))
          have HO4 : Hid (v4.ownsRow W0.heap.size 46 2 u1 (0 + pk) ([] ++ cs (l.take pk))) := Lib.hid own1
          have HP4 : Hid (v4.cell? ⟨q, 0, none⟩ = some (.int .i64 X) ∧ v4.cell? ⟨q, 1, none⟩ = some (.int .i64 Y) ∧ q < v4.heap.size) := Lib.hid ⟨gr1.cell HP3.out.1 (fun h => hqe (Option.some.inj h)), gr1.cell HP3.out.2.1 (fun h => hqe (Option.some.inj h)), Nat.lt_of_lt_of_le HP3.out.2.2 gr1.size⟩
          clear own1 gr1
          refine hK _ _ ?_
          clear hK K
          refine wpAny_ready (rs := [7]) (by kernel_rfl) (by simp) ?_
          refine AllReady.cons rfl (fun K hK => ?_) AllReady.nil
          refine step_append_mine _ (by rfl) _ _ 25 (by rfl) W0.heap.size 46 i0 _ 2 16 Try.underlying25 hi hz0 hz1 hz2 rfl (by omega) _ (0 + pk) ([] ++ cs (l.take pk)) (by rfl) HO4.out ⟨q, 0, none⟩ 1 _ (cs [(X, Y)]) (by rfl) rfl (pair_news HP4.out.1 HP4.out.2.1) (cs_one _) (by unfold maxLen; omega) (by omega) HB4.out.size ?_
          intro u2 v5 own2 gr2
          have HB5 : Hid (Below W0.heap.size W0 v5) := Lib.hid (HB4.out.grown gr2 HB4.out.size (fun b hb => (HO4.out.lt b hb).1))
          have HO5 : Hid (v5.ownsRow W0.heap.size 46 2 u2 (0 + pk + 1) ([] ++ cs (l.take pk) ++ cs [(X, Y)])) := Lib.hid own2
          clear own2 gr2
          refine hK _ _ ?_
          clear hK K
          refine wpAny_ready (rs := [8]) (by kernel_rfl) (by simp) ?_
          refine AllReady.cons rfl (fun K hK => ?_) AllReady.nil
          go_simp
          try (refine hK _ _ ?_; clear hK K)
          refine wpAny_done (by kernel_rfl) ?_ _
          go_wp2_with (at_builtin; refine step_round _ rfl _ _ 25 rfl W0.heap.size 46 i0 (.agg #[.int .i64 0, .int .i64 0]) Try.underlying25 hi hz0 hz1 hz2 rfl _ (0 + pk + 1) (l.take pk ++ [(X, Y)]) rfl (by rw [cs_append]; exact HO5.out) (some ⟨b, off2, none⟩) _ _ (l.drop pk) rfl HL2.out (HD.out.kept (HbW.out.trans (HB5.out.mono HbW.out.size))) (fun h => by cases h) (by omega) HB5.out.size ?_)
          intro u3 v6 own3 hb3
          obtain ⟨ao9, cap9, rfl, _⟩ := own_shape own3 HLL.out
          have Own3 : Hid (v6.ownsRow w.heap.size 46 2 (.slice ao9 (pk + 1 + (n - pk)) cap9) (ins l X Y).length (cs (ins l X Y))) := Lib.hid (HINS.out _ _ (own_base HbW.out.size own3))
          have HB6 : Hid (Below w.heap.size w v6) := Lib.hid (HbW.out.trans ((HB5.out.trans hb3).mono HbW.out.size))
          clear own3 hb3
          go_wp2_with fail
          go_ret2
          exact ⟨_, rfl, Own3.out, HB6.out⟩
        refine AllReady.cons rfl (fun K hK => ?_) AllReady.nil
        go_simp
        try (refine hK _ _ ?_; clear hK K)
        refine wpAny_ready (rs := [3, 6]) (by kernel_rfl) (by simp) ?_
        refine AllReady.cons rfl (fun K hK => ?_) ?_
        · go_simp
          try (refine hK _ _ ?_; clear hK K)
          refine wpAny_ready (rs := [4, 6]) (by kernel_rfl) (by simp) ?_
          refine AllReady.cons rfl (fun K hK => ?_) ?_
          · refine step_append_mine _ (by rfl) _ _ 25 (by rfl) W0.heap.size 46 i0 _ 2 16 Try.underlying25 hi hz0 hz1 hz2 rfl (by omega) _ 0 [] (by rfl) HE2.out ⟨b, off, none⟩ pk _ (cs (l.take pk)) (by rfl) HL1.out (HN1.out _ HB2.out) (cs_one _) (by unfold maxLen; omega) (by omega) HB2.out.size ?_
            intro u1 v3 own1 gr1
            have HB3 : Hid (Below W0.heap.size W0 v3) := Lib.hid (HB2.out.grown gr1 HB2.out.size (fun b hb => (HE2.out.lt b hb).1))
            have HO3 : Hid (v3.ownsRow W0.heap.size 46 2 u1 (0 + pk) ([] ++ cs (l.take pk))) := Lib.hid own1
            clear own1 gr1
            refine hK _ _ ?_
            clear hK K
            refine wpAny_ready (rs := [6]) (by kernel_rfl) (by simp) ?_
            refine AllReady.cons rfl (fun K hK => ?_) AllReady.nil
            go_simp
            try (refine hK _ _ ?_; clear hK K)
            obtain ⟨v4, hv4⟩ : ∃ v4, v3.alloc (Obj.cells #[Value.int IntKind.i64 X, Value.int IntKind.i64 Y] 46) = v4 := ⟨_, rfl⟩
            rw [hv4]
            have HA4 : Hid (Below v3.heap.size v3 v4) := Lib.hid (by rw [← hv4]; exact (Below.refl _ _).alloc (Nat.le_refl _) _)
            have HB4 : Hid (Below W0.heap.size W0 v4) := Lib.hid (HB3.out.trans (HA4.out.mono HB3.out.size))
            obtain ⟨q, hq0⟩ : ∃ q, v3.heap.size = q := ⟨_, rfl⟩
            have HP4 : Hid (v4.cell? ⟨q, 0, none⟩ = some (.int .i64 X) ∧ v4.cell? ⟨q, 1, none⟩ = some (.int .i64 Y) ∧ q < v4.heap.size) := Lib.hid (by rw [← hq0, ← hv4]; simp)
            have HO4 : Hid (v4.ownsRow W0.heap.size 46 2 u1 (0 + pk) ([] ++ cs (l.take pk))) := Lib.hid (own_later HO3.out HA4.out)
            rw [hq0]
            clear hq0 hv4
            refine wpAny_ready (rs := [7]) (by kernel_rfl) (by simp) ?_
            refine AllReady.cons rfl (fun K hK => ?_) AllReady.nil
            refine step_append_mine _ (by rfl) _ _ 25 (by rfl) W0.heap.size 46 i0 _ 2 16 Try.underlying25 hi hz0 hz1 hz2 rfl (by omega) _ (0 + pk) ([] ++ cs (l.take pk)) (by rfl) HO4.out ⟨q, 0, none⟩ 1 _ (cs [(X, Y)]) (by rfl) rfl (pair_news HP4.out.1 HP4.out.2.1) (cs_one _) (by unfold maxLen; omega) (by omega) HB4.out.size ?_
            intro u2 v5 own2 gr2
            have HB5 : Hid (Below W0.heap.size W0 v5) := Lib.hid (HB4.out.grown gr2 HB4.out.size (fun b hb => (HO4.out.lt b hb).1))
            have HO5 : Hid (v5.ownsRow W0.heap.size 46 2 u2 (0 + pk + 1) ([] ++ cs (l.take pk) ++ cs [(X, Y)])) := Lib.hid own2
            clear own2 gr2
            refine hK _ _ ?_
            clear hK K
            refine wpAny_ready (rs := [8]) (by kernel_rfl) (by simp) ?_
            refine AllReady.cons rfl (fun K hK => ?_) AllReady.nil
            go_simp
            try (refine hK _ _ ?_; clear hK K)
            refine wpAny_done (by kernel_rfl) ?_ _
            go_wp2_with (at_builtin; refine step_round _ rfl _ _ 25 rfl W0.heap.size 46 i0 (.agg #[.int .i64 0, .int .i64 0]) Try.underlying25 hi hz0 hz1 hz2 rfl _ (0 + pk + 1) (l.take pk ++ [(X, Y)]) rfl (by rw [cs_append]; exact HO5.out) (some ⟨b, off2, none⟩) _ _ (l.drop pk) rfl HL2.out (HD.out.kept (HbW.out.trans (HB5.out.mono HbW.out.size))) (fun h => by cases h) (by omega) HB5.out.size ?_)
            intro u3 v6 own3 hb3
            obtain ⟨ao9, cap9, rfl, _⟩ := own_shape own3 HLL.out
            have Own3 : Hid (v6.ownsRow w.heap.size 46 2 (.slice ao9 (pk + 1 + (n - pk)) cap9) (ins l X Y).length (cs (ins l X Y))) := Lib.hid (HINS.out _ _ (own_base HbW.out.size own3))
            have HB6 : Hid (Below w.heap.size w v6) := Lib.hid (HbW.out.trans ((HB5.out.trans hb3).mono HbW.out.size))
            clear own3 hb3
            go_wp2_with fail
            go_ret2
            exact ⟨_, rfl, Own3.out, HB6.out⟩
          refine AllReady.cons rfl (fun K hK => ?_) AllReady.nil
          go_simp
          try (refine hK _ _ ?_; clear hK K)
          obtain ⟨v3, hv3⟩ : ∃ v3, v2.alloc (Obj.cells #[Value.int IntKind.i64 X, Value.int IntKind.i64 Y] 46) = v3 := ⟨_, rfl⟩
          rw [hv3]
          have HA3 : Hid (Below v2.heap.size v2 v3) := Lib.hid (by rw [← hv3]; exact (Below.refl _ _).alloc (Nat.le_refl _) _)
          have HB3 : Hid (Below W0.heap.size W0 v3) := Lib.hid (HB2.out.trans (HA3.out.mono HB2.out.size))
          obtain ⟨q, hq0⟩ : ∃ q, v2.heap.size = q := ⟨_, rfl⟩
          have HP3 : Hid (v3.cell? ⟨q, 0, none⟩ = some (.int .i64 X) ∧ v3.cell? ⟨q, 1, none⟩ = some (.int .i64 Y) ∧ q < v3.heap.size) := Lib.hid (by rw [← hq0, ← hv3]; simp)
          have hqe : q ≠ e0 := by rw [← hq0]; have := (HE2.out.lt e0 rfl).2; omega
          have HE3 : Hid (v3.ownsRow W0.heap.size 46 2 (.slice (some ⟨e0, 0, none⟩) 0 0) 0 []) := Lib.hid (own_later HE2.out HA3.out)
          rw [hq0]
          clear hq0 hv3
          refine wpAny_ready (rs := [4]) (by kernel_rfl) (by simp) ?_
          refine AllReady.cons rfl (fun K hK => ?_) AllReady.nil
          refine step_append_mine _ (by rfl) _ _ 25 (by rfl) W0.heap.size 46 i0 _ 2 16 Try.underlying25 hi hz0 hz1 hz2 rfl (by omega) _ 0 [] (by rfl) HE3.out ⟨b, off, none⟩ pk _ (cs (l.take pk)) (by rfl) HL1.out (HN1.out _ HB3.out) (cs_one _) (by unfold maxLen; omega) (by omega) HB3.out.size ?_
          intro u1 v4 own1 gr1
          have HB4 : Hid (Below W0.heap.size W0 v4) := Lib.hid (HB3.out.grown gr1 HB3.out.size (fun b hb => (HE3.out.lt b hb).1))
          have HO4 : Hid (v4.ownsRow W0.heap.size 46 2 u1 (0 + pk) ([] ++ cs (l.take pk))) := Lib.hid own1
          have HP4 : Hid (v4.cell? ⟨q, 0, none⟩ = some (.int .i64 X) ∧ v4.cell? ⟨q, 1, none⟩ = some (.int .i64 Y) ∧ q < v4.heap.size) := Lib.hid ⟨gr1.cell HP3.out.1 (fun h => hqe (Option.some.inj h)), gr1.cell HP3.out.2.1 (fun h => hqe (Option.some.inj h)), Nat.lt_of_lt_of_le HP3.out.2.2 gr1.size⟩
          clear own1 gr1
          refine hK _ _ ?_
          clear hK K
          refine wpAny_ready (rs := [7]) (by kernel_rfl) (by simp) ?_
          refine AllReady.cons rfl (fun K hK => ?_) AllReady.nil
          refine step_append_mine _ (by rfl) _ _ 25 (by rfl) W0.heap.size 46 i0 _ 2 16 Try.underlying25 hi hz0 hz1 hz2 rfl (by omega) _ (0 + pk) ([] ++ cs (l.take pk)) (by rfl) HO4.out ⟨q, 0, none⟩ 1 _ (cs [(X, Y)]) (by rfl) rfl (pair_news HP4.out.1 HP4.out.2.1) (cs_one _) (by unfold maxLen; omega) (by omega) HB4.out.size ?_
          intro u2 v5 own2 gr2
          have HB5 : Hid (Below W0.heap.size W0 v5) := Lib.hid (HB4.out.grown gr2 HB4.out.size (fun b hb => (HO4.out.lt b hb).1))
          have HO5 : Hid (v5.ownsRow W0.heap.size 46 2 u2 (0 + pk + 1) ([] ++ cs (l.take pk) ++ cs [(X, Y)])) := Lib.hid own2
          clear own2 gr2
          refine hK _ _ ?_
          clear hK K
          refine wpAny_ready (rs := [8]) (by kernel_rfl) (by simp) ?_
          refine AllReady.cons rfl (fun K hK => ?_) AllReady.nil
          go_simp
          try (refine hK _ _ ?_; clear hK K)
          refine wpAny_done (by kernel_rfl) ?_ _
          go_wp2_with (at_builtin; refine step_round _ rfl _ _ 25 rfl W0.heap.size 46 i0 (.agg #[.int .i64 0, .int .i64 0]) Try.underlying25 hi hz0 hz1 hz2 rfl _ (0 + pk + 1) (l.take pk ++ [(X, Y)]) rfl (by rw [cs_append]; exact HO5.out) (some ⟨b, off2, none⟩) _ _ (l.drop pk) rfl HL2.out (HD.out.kept (HbW.out.trans (HB5.out.mono HbW.out.size))) (fun h => by cases h) (by omega) HB5.out.size ?_)
          intro u3 v6 own3 hb3
          obtain ⟨ao9, cap9, rfl, _⟩ := own_shape own3 HLL.out
          have Own3 : Hid (v6.ownsRow w.heap.size 46 2 (.slice ao9 (pk + 1 + (n - pk)) cap9) (ins l X Y).length (cs (ins l X Y))) := Lib.hid (HINS.out _ _ (own_base HbW.out.size own3))
          have HB6 : Hid (Below w.heap.size w v6) := Lib.hid (HbW.out.trans ((HB5.out.trans hb3).mono HbW.out.size))
          clear own3 hb3
          go_wp2_with fail
          go_ret2
          exact ⟨_, rfl, Own3.out, HB6.out⟩
        refine AllReady.cons rfl (fun K hK => ?_) AllReady.nil
        go_simp
        try (refine hK _ _ ?_; clear hK K)
        obtain ⟨v3, hv3⟩ : ∃ v3, v2.alloc (Obj.cells #[Value.int IntKind.i64 X, Value.int IntKind.i64 Y] 46) = v3 := ⟨_, rfl⟩
        rw [hv3]
        have HA3 : Hid (Below v2.heap.size v2 v3) := Lib.hid (by rw [← hv3]; exact (Below.refl _ _).alloc (Nat.le_refl _) _)
        have HB3 : Hid (Below W0.heap.size W0 v3) := Lib.hid (HB2.out.trans (HA3.out.mono HB2.out.size))
        obtain ⟨q, hq0⟩ : ∃ q, v2.heap.size = q := ⟨_, rfl⟩
        have HP3 : Hid (v3.cell? ⟨q, 0, none⟩ = some (.int .i64 X) ∧ v3.cell? ⟨q, 1, none⟩ = some (.int .i64 Y) ∧ q < v3.heap.size) := Lib.hid (by rw [← hq0, ← hv3]; simp)
        have hqe : q ≠ e0 := by rw [← hq0]; have := (HE2.out.lt e0 rfl).2; omega
        have HE3 : Hid (v3.ownsRow W0.heap.size 46 2 (.slice (some ⟨e0, 0, none⟩) 0 0) 0 []) := Lib.hid (own_later HE2.out HA3.out)
        rw [hq0]
        clear hq0 hv3
        refine wpAny_ready (rs := [3]) (by kernel_rfl) (by simp) ?_
        refine AllReady.cons rfl (fun K hK => ?_) AllReady.nil
        go_simp
        try (refine hK _ _ ?_; clear hK K)
        refine wpAny_ready (rs := [4]) (by kernel_rfl) (by simp) ?_
        refine AllReady.cons rfl (fun K hK => ?_) AllReady.nil
        refine step_append_mine _ (by rfl) _ _ 25 (by rfl) W0.heap.size 46 i0 _ 2 16 Try.underlying25 hi hz0 hz1 hz2 rfl (by omega) _ 0 [] (by rfl) HE3.out ⟨b, off, none⟩ pk _ (cs (l.take pk)) (by rfl) HL1.out (HN1.out _ HB3.out) (cs_one _) (by unfold maxLen; omega) (by omega) HB3.out.size ?_
        intro u1 v4 own1 gr1
        have HB4 : Hid (Below W0.heap.size W0 v4) := Lib.hid (HB3.out.grown gr1 HB3.out.size (fun b hb => (HE3.out.lt b hb).1))
        have HO4 : Hid (v4.ownsRow W0.heap.size 46 2 u1 (0 + pk) ([] ++ cs (l.take pk))) := Lib.hid own1
        have HP4 : Hid (v4.cell? ⟨q, 0, none⟩ = some (.int .i64 X) ∧ v4.cell? ⟨q, 1, none⟩ = some (.int .i64 Y) ∧ q < v4.heap.size) := Lib.hid ⟨gr1.cell HP3.out.1 (fun h => hqe (Option.some.inj h)), gr1.cell HP3.out.2.1 (fun h => hqe (Option.some.inj h)), Nat.lt_of_lt_of_le HP3.out.2.2 gr1.size⟩
        clear own1 gr1
        refine hK _ _ ?_
        clear hK K
        refine wpAny_ready (rs := [7]) (by kernel_rfl) (by simp) ?_
        refine AllReady.cons rfl (fun K hK => ?_) AllReady.nil
        refine step_append_mine _ (by rfl) _ _ 25 (by rfl) W0.heap.size 46 i0 _ 2 16 Try.underlying25 hi hz0 hz1 hz2 rfl (by omega) _ (0 + pk) ([] ++ cs (l.take pk)) (by rfl) HO4.out ⟨q, 0, none⟩ 1 _ (cs [(X, Y)]) (by rfl) rfl (pair_news HP4.out.1 HP4.out.2.1) (cs_one _) (by unfold maxLen; omega) (by omega) HB4.out.size ?_
        intro u2 v5 own2 gr2
        have HB5 : Hid (Below W0.heap.size W0 v5) := Lib.hid (HB4.out.grown gr2 HB4.out.size (fun b hb => (HO4.out.lt b hb).1))
        have HO5 : Hid (v5.ownsRow W0.heap.size 46 2 u2 (0 + pk + 1) ([] ++ cs (l.take pk) ++ cs [(X, Y)])) := Lib.hid own2
        clear own2 gr2
        refine hK _ _ ?_
        clear hK K
        refine wpAny_ready (rs := [8]) (by kernel_rfl) (by simp) ?_
        refine AllReady.cons rfl (fun K hK => ?_) AllReady.nil
        go_simp
        try (refine hK _ _ ?_; clear hK K)
        refine wpAny_done (by kernel_rfl) ?_ _
        go_wp2_with (at_builtin; refine step_round _ rfl _ _ 25 rfl W0.heap.size 46 i0 (.agg #[.int .i64 0, .int .i64 0]) Try.underlying25 hi hz0 hz1 hz2 rfl _ (0 + pk + 1) (l.take pk ++ [(X, Y)]) rfl (by rw [cs_append]; exact HO5.out) (some ⟨b, off2, none⟩) _ _ (l.drop pk) rfl HL2.out (HD.out.kept (HbW.out.trans (HB5.out.mono HbW.out.size))) (fun h => by cases h) (by omega) HB5.out.size ?_)
        intro u3 v6 own3 hb3
        obtain ⟨ao9, cap9, rfl, _⟩ := own_shape own3 HLL.out
        have Own3 : Hid (v6.ownsRow w.heap.size 46 2 (.slice ao9 (pk + 1 + (n - pk)) cap9) (ins l X Y).length (cs (ins l X Y))) := Lib.hid (HINS.out _ _ (own_base HbW.out.size own3))
        have HB6 : Hid (Below w.heap.size w v6) := Lib.hid (HbW.out.trans ((HB5.out.trans hb3).mono HbW.out.size))
        clear own3 hb3
        go_wp2_with fail
        go_ret2
        exact ⟨_, rfl, Own3.out, HB6.out⟩
      refine AllReady.cons rfl (fun K hK => ?_) ?_
      · go_simp
        try (refine hK _ _ ?_; clear hK K)
        refine wpAny_ready (rs := [0, 5]) (by kernel_rfl) (by simp) ?_
        refine AllReady.cons rfl (fun K hK => ?_) ?_
        · go_simp
          try (refine hK _ _ ?_; clear hK K)
          obtain ⟨v2, hv2⟩ : ∃ v2, v1.alloc (Obj.cells #[] 46) = v2 := ⟨_, rfl⟩
          rw [hv2]
          have HA2 : Hid (Below v1.heap.size v1 v2) := Lib.hid (by rw [← hv2]; exact (Below.refl _ _).alloc (Nat.le_refl _) _)
          have HB2 : Hid (Below W0.heap.size W0 v2) := Lib.hid (HB1.out.trans (HA2.out.mono HB1.out.size))
          obtain ⟨e0, he0⟩ : ∃ e0, v1.heap.size = e0 := ⟨_, rfl⟩
          have HE2 : Hid (v2.ownsRow W0.heap.size 46 2 (.slice (some ⟨e0, 0, none⟩) 0 0) 0 []) := Lib.hid (by rw [← he0, ← hv2]; exact World.ownsRow_lit v1 #[] 0 HB1.out.size (by unfold maxLen; omega) rfl)
          rw [he0]
          clear he0 hv2
          have c0 := cell_old HB2.out C0.out
          have c1 := cell_old HB2.out C1.out
          refine wpAny_ready (rs := [4, 5]) (by kernel_rfl) (by simp) ?_
          refine AllReady.cons rfl (fun K hK => ?_) ?_
          · refine step_append_mine _ (by rfl) _ _ 25 (by rfl) W0.heap.size 46 i0 _ 2 16 Try.underlying25 hi hz0 hz1 hz2 rfl (by omega) _ 0 [] (by rfl) HE2.out ⟨b, off, none⟩ pk _ (cs (l.take pk)) (by rfl) HL1.out (HN1.out _ HB2.out) (cs_one _) (by unfold maxLen; omega) (by omega) HB2.out.size ?_
            intro u1 v3 own1 gr1
            have HB3 : Hid (Below W0.heap.size W0 v3) := Lib.hid (HB2.out.grown gr1 HB2.out.size (fun b hb => (HE2.out.lt b hb).1))
            have HO3 : Hid (v3.ownsRow W0.heap.size 46 2 u1 (0 + pk) ([] ++ cs (l.take pk))) := Lib.hid own1
            clear own1 gr1
            refine hK _ _ ?_
            clear hK K
            have c0 := cell_old HB3.out C0.out
            have c1 := cell_old HB3.out C1.out
            refine wpAny_ready (rs := [5]) (by kernel_rfl) (by simp) ?_
            refine AllReady.cons rfl (fun K hK => ?_) AllReady.nil
            go_simp
            try (refine hK _ _ ?_; clear hK K)
            refine wpAny_ready (rs := [6]) (by kernel_rfl) (by simp) ?_
            refine AllReady.cons rfl (fun K hK => ?_) AllReady.nil
            go_simp
            try (refine hK _ _ ?_; clear hK K)
            obtain ⟨v4, hv4⟩ : ∃ v4, v3.alloc (Obj.cells #[Value.int IntKind.i64 X, Value.int IntKind.i64 Y] 46) = v4 := ⟨_, rfl⟩
            rw [hv4]
            have HA4 : Hid (Below v3.heap.size v3 v4) := Lib.hid (by rw [← hv4]; exact (Below.refl _ _).alloc (Nat.le_refl _) _)
            have HB4 : Hid (Below W0.heap.size W0 v4) := Lib.hid (HB3.out.trans (HA4.out.mono HB3.out.size))
            obtain ⟨q, hq0⟩ : ∃ q, v3.heap.size = q := ⟨_, rfl⟩
            have HP4 : Hid (v4.cell? ⟨q, 0, none⟩ = some (.int .i64 X) ∧ v4.cell? ⟨q, 1, none⟩ = some (.int .i64 Y) ∧ q < v4.heap.size) := Lib.hid (by rw [← hq0, ← hv4]; simp)
            have HO4 : Hid (v4.ownsRow W0.heap.size 46 2 u1 (0 + pk) ([] ++ cs (l.take pk))) := Lib.hid (own_later HO3.out HA4.out)
            rw [hq0]
            clear hq0 hv4
            refine wpAny_ready (rs := [7]) (by kernel_rfl) (by simp) ?_
            refine AllReady.cons rfl (fun K hK => ?_) AllReady.nil
            refine step_append_mine _ (by rfl) _ _ 25 (by rfl) W0.heap.size 46 i0 _ 2 16 Try.underlying25 hi hz0 hz1 hz2 rfl (by omega) _ (0 + pk) ([] ++ cs (l.take pk)) (by rfl) HO4.out ⟨q, 0, none⟩ 1 _ (cs [(X, Y)]) (by rfl) rfl (pair_news HP4.out.1 HP4.out.2.1) (cs_one _) (by unfold maxLen; omega) (by omega) HB4.out.size ?_
            intro u2 v5 own2 gr2
            have HB5 : Hid (Below W0.heap.size W0 v5) := Lib.hid (HB4.out.grown gr2 HB4.out.size (fun b hb => (HO4.out.lt b hb).1))
            have HO5 : Hid (v5.ownsRow W0.heap.size 46 2 u2 (0 + pk + 1) ([] ++ cs (l.take pk) ++ cs [(X, Y)])) := Lib.hid own2
            clear own2 gr2
            refine hK _ _ ?_
            clear hK K
            refine wpAny_ready (rs := [8]) (by kernel_rfl) (by simp) ?_
            refine AllReady.cons rfl (fun K hK => ?_) AllReady.nil
            go_simp
            try (refine hK _ _ ?_; clear hK K)
            refine wpAny_done (by kernel_rfl) ?_ _
            go_wp2_with (at_builtin; refine step_round _ rfl _ _ 25 rfl W0.heap.size 46 i0 (.agg #[.int .i64 0, .int .i64 0]) Try.underlying25 hi hz0 hz1 hz2 rfl _ (0 + pk + 1) (l.take pk ++ [(X, Y)]) rfl (by rw [cs_append]; exact HO5.out) (some ⟨b, off2, none⟩) _ _ (l.drop pk) rfl HL2.out (HD.out.kept (HbW.out.trans (HB5.out.mono HbW.out.size))) (fun h => by cases h) (by omega) HB5.out.size ?_)
            intro u3 v6 own3 hb3
            obtain ⟨ao9, cap9, rfl, _⟩ := own_shape own3 HLL.out
            have Own3 : Hid (v6.ownsRow w.heap.size 46 2 (.slice ao9 (pk + 1 + (n - pk)) cap9) (ins l X Y).length (cs (ins l X Y))) := Lib.hid (HINS.out _ _ (own_base HbW.out.size own3))
            have HB6 : Hid (Below w.heap.size w v6) := Lib.hid (HbW.out.trans ((HB5.out.trans hb3).mono HbW.out.size))
            clear own3 hb3
            go_wp2_with fail
            go_ret2
            exact ⟨_, rfl, Own3.out, HB6.out⟩
          refine AllReady.cons rfl (fun K hK => ?_) AllReady.nil
          go_simp
          try (refine hK _ _ ?_; clear hK K)
          refine wpAny_ready (rs := [4, 6]) (by kernel_rfl) (by simp) ?_
          refine AllReady.cons rfl (fun K hK => ?_) ?_
          · refine step_append_mine _ (by rfl) _ _ 25 (by rfl) W0.heap.size 46 i0 _ 2 16 Try.underlying25 hi hz0 hz1 hz2 rfl (by omega) _ 0 [] (by rfl) HE2.out ⟨b, off, none⟩ pk _ (cs (l.take pk)) (by rfl) HL1.out (HN1.out _ HB2.out) (cs_one _) (by unfold maxLen; omega) (by omega) HB2.out.size ?_
            intro u1 v3 own1 gr1
            have HB3 : Hid (Below W0.heap.size W0 v3) := Lib.hid (HB2.out.grown gr1 HB2.out.size (fun b hb => (HE2.out.lt b hb).1))
            have HO3 : Hid (v3.ownsRow W0.heap.size 46 2 u1 (0 + pk) ([] ++ cs (l.take pk))) := Lib.hid own1
            clear own1 gr1
            refine hK _ _ ?_
            clear hK K
            refine wpAny_ready (rs := [6]) (by kernel_rfl) (by simp) ?_
            refine AllReady.cons rfl (fun K hK => ?_) AllReady.nil
            go_simp
            try (refine hK _ _ ?_; clear hK K)
            obtain ⟨v4, hv4⟩ : ∃ v4, v3.alloc (Obj.cells #[Value.int IntKind.i64 X, Value.int IntKind.i64 Y] 46) = v4 := ⟨_, rfl⟩
            rw [hv4]
            have HA4 : Hid (Below v3.heap.size v3 v4) := Lib.hid (by rw [← hv4]; exact (Below.refl _ _).alloc (Nat.le_refl _) _)
            have HB4 : Hid (Below W0.heap.size W0 v4) := Lib.hid (HB3.out.trans (HA4.out.mono HB3.out.size))
            obtain ⟨q, hq0⟩ : ∃ q, v3.heap.size = q := ⟨_, rfl⟩
            have HP4 : Hid (v4.cell? ⟨q, 0, none⟩ = some (.int .i64 X) ∧ v4.cell? ⟨q, 1, none⟩ = some (.int .i64 Y) ∧ q < v4.heap.size) := Lib.hid (by rw [← hq0, ← hv4]; simp)
            have HO4 : Hid (v4.ownsRow W0.heap.size 46 2 u1 (0 + pk) ([] ++ cs (l.take pk))) := Lib.hid (own_later HO3.out HA4.out)
            rw [hq0]
            clear hq0 hv4
            refine wpAny_ready (rs := [7]) (by kernel_rfl) (by simp) ?_
            refine AllReady.cons rfl (fun K hK => ?_) AllReady.nil
            refine step_append_mine _ (by rfl) _ _ 25 (by rfl) W0.heap.size 46 i0 _ 2 16 Try.underlying25 hi hz0 hz1 hz2 rfl (by omega) _ (0 + pk) ([] ++ cs (l.take pk)) (by rfl) HO4.out ⟨q, 0, none⟩ 1 _ (cs [(X, Y)]) (by rfl) rfl (pair_news HP4.out.1 HP4.out.2.1) (cs_one _) (by unfold maxLen; omega) (by omega) HB4.out.size ?_
            intro u2 v5 own2 gr2
            have HB5 : Hid (Below W0.heap.size W0 v5) := Lib.hid (HB4.out.grown gr2 HB4.out.size (fun b hb => (HO4.out.lt b hb).1))
            have HO5 : Hid (v5.ownsRow W0.heap.size 46 2 u2 (0 + pk + 1) ([] ++ cs (l.take pk) ++ cs [(X, Y)])) := Lib.hid own2
            clear own2 gr2
            refine hK _ _ ?_
            clear hK K
            refine wpAny_ready (rs := [8]) (by kernel_rfl) (by simp) ?_
            refine AllReady.cons rfl (fun K hK => ?_) AllReady.nil
            go_simp
            try (refine hK _ _ ?_; clear hK K)
            refine wpAny_done (by kernel_rfl) ?_ _
            go_wp2_with (at_builtin; refine step_round _ rfl _ _ 25 rfl W0.heap.size 46 i0 (.agg #[.int .i64 0, .int .i64 0]) Try.underlying25 hi hz0 hz1 hz2 rfl _ (0 + pk + 1) (l.take pk ++ [(X, Y)]) rfl (by rw [cs_append]; exact HO5.out) (some ⟨b, off2, none⟩) _ _ (l.drop pk) rfl HL2.out (HD.out.kept (HbW.out.trans (HB5.out.mono HbW.out.size))) (fun h => by cases h) (by omega) HB5.out.size ?_)
            intro u3 v6 own3 hb3
            obtain ⟨ao9, cap9, rfl, _⟩ := own_shape own3 HLL.out
            have Own3 : Hid (v6.ownsRow w.heap.size 46 2 (.slice ao9 (pk + 1 + (n - pk)) cap9) (ins l X Y).length (cs (ins l X Y))) := Lib.hid (HINS.out _ _ (own_base HbW.out.size own3))
            have HB6 : Hid (Below w.heap.size w v6) := Lib.hid (HbW.out.trans ((HB5.out.trans hb3).mono HbW.out.size))
            clear own3 hb3
            go_wp2_with fail
            go_ret2
            exact ⟨_, rfl, Own3.out, HB6.out⟩
          refine AllReady.cons rfl (fun K hK => ?_) AllReady.nil
          go_simp
          try (refine hK _ _ ?_; clear hK K)
          obtain ⟨v3, hv3⟩ : ∃ v3, v2.alloc (Obj.cells #[Value.int IntKind.i64 X, Value.int IntKind.i64 Y] 46) = v3 := ⟨_, rfl⟩
          rw [hv3]
          have HA3 : Hid (Below v2.heap.size v2 v3) := Lib.hid (by rw [← hv3]; exact (Below.refl _ _).alloc (Nat.le_refl _) _)
          have HB3 : Hid (Below W0.heap.size W0 v3) := Lib.hid (HB2.out.trans (HA3.out.mono HB2.out.size))
          obtain ⟨q, hq0⟩ : ∃ q, v2.heap.size = q := ⟨_, rfl⟩
          have HP3 : Hid (v3.cell? ⟨q, 0, none⟩ = some (.int .i64 X) ∧ v3.cell? ⟨q, 1, none⟩ = some (.int .i64 Y) ∧ q < v3.heap.size) := Lib.hid (by rw [← hq0, ← hv3]; simp)
          have hqe : q ≠ e0 := by rw [← hq0]; have := (HE2.out.lt e0 rfl).2; omega
          have HE3 : Hid (v3.ownsRow W0.heap.size 46 2 (.slice (some ⟨e0, 0, none⟩) 0 0) 0 []) := Lib.hid (own_later HE2.out HA3.out)
          rw [hq0]
          clear hq0 hv3
          refine wpAny_ready (rs := [4]) (by kernel_rfl) (by simp) ?_
          refine AllReady.cons rfl (fun K hK => ?_) AllReady.nil
          refine step_append_mine _ (by rfl) _ _ 25 (by rfl) W0.heap.size 46 i0 _ 2 16 Try.underlying25 hi hz0 hz1 hz2 rfl (by omega) _ 0 [] (by rfl) HE3.out ⟨b, off, none⟩ pk _ (cs (l.take pk)) (by rfl) HL1.out (HN1.out _ HB3.out) (cs_one _) (by unfold maxLen; omega) (by omega) HB3.out.size ?_
          intro u1 v4 own1 gr1
          have HB4 : Hid (Below W0.heap.size W0 v4) := Lib.hid (HB3.out.grown gr1 HB3.out.size (fun b hb => (HE3.out.lt b hb).1))
          have HO4 : Hid (v4.ownsRow W0.heap.size 46 2 u1 (0 + pk) ([] ++ cs (l.take pk))) := Lib.hid own1
          have HP4 : Hid (v4.cell? ⟨q, 0, none⟩ = some (.int .i64 X) ∧ v4.cell? ⟨q, 1, none⟩ = some (.int .i64 Y) ∧ q < v4.heap.size) := Lib.hid ⟨gr1.cell HP3.out.1 (fun h => hqe (Option.some.inj h)), gr1.cell HP3.out.2.1 (fun h => hqe (Option.some.inj h)), Nat.lt_of_lt_of_le HP3.out.2.2 gr1.size⟩
          clear own1 gr1
          refine hK _ _ ?_
          clear hK K
          refine wpAny_ready (rs := [7]) (by kernel_rfl) (by simp) ?_
          refine AllReady.cons rfl (fun K hK => ?_) AllReady.nil
          refine step_append_mine _ (by rfl) _ _ 25 (by rfl) W0.heap.size 46 i0 _ 2 16 Try.underlying25 hi hz0 hz1 hz2 rfl (by omega) _ (0 + pk) ([] ++ cs (l.take pk)) (by rfl) HO4.out ⟨q, 0, none⟩ 1 _ (cs [(X, Y)]) (by rfl) rfl (pair_news HP4.out.1 HP4.out.2.1) (cs_one _) (by unfold maxLen; omega) (by omega) HB4.out.size ?_
          intro u2 v5 own2 gr2
          have HB5 : Hid (Below W0.heap.size W0 v5) := Lib.hid (HB4.out.grown gr2 HB4.out.size (fun b hb => (HO4.out.lt b hb).1))
          have HO5 : Hid (v5.ownsRow W0.heap.size 46 2 u2 (0 + pk + 1) ([] ++ cs (l.take pk) ++ cs [(X, Y)])) := Lib.hid own2
          clear own2 gr2
          refine hK _ _ ?_
          clear hK K
          refine wpAny_ready (rs := [8]) (by kernel_rfl) (by simp) ?_
          refine AllReady.cons rfl (fun K hK => ?_) AllReady.nil
          go_simp
          try (refine hK _ _ ?_; clear hK K)
          refine wpAny_done (by kernel_rfl) ?_ _
          go_wp2_with (at_builtin; refine step_round _ rfl _ _ 25 rfl W0.heap.size 46 i0 (.agg #[.int .i64 0, .int .i64 0]) Try.underlying25 hi hz0 hz1 hz2 rfl _ (0 + pk + 1) (l.take pk ++ [(X, Y)]) rfl (by rw [cs_append]; exact HO5.out) (some ⟨b, off2, none⟩) _ _ (l.drop pk) rfl HL2.out (HD.out.kept (HbW.out.trans (HB5.out.mono HbW.out.size))) (fun h => by cases h) (by omega) HB5.out.size ?_)
          intro u3 v6 own3 hb3
          obtain ⟨ao9, cap9, rfl, _⟩ := own_shape own3 HLL.out
          have Own3 : Hid (v6.ownsRow w.heap.size 46 2 (.slice ao9 (pk + 1 + (n - pk)) cap9) (ins l X Y).length (cs (ins l X Y))) := Lib.hid (HINS.out _ _ (own_base HbW.out.size own3))
          have HB6 : Hid (Below w.heap.size w v6) := Lib.hid (HbW.out.trans ((HB5.out.trans hb3).mono HbW.out.size))
          clear own3 hb3
          go_wp2_with fail
          go_ret2
          exact ⟨_, rfl, Own3.out, HB6.out⟩
        refine AllReady.cons rfl (fun K hK => ?_) AllReady.nil
        go_simp
        try (refine hK _ _ ?_; clear hK K)
        refine wpAny_ready (rs := [0, 6]) (by kernel_rfl) (by simp) ?_
        refine AllReady.cons rfl (fun K hK => ?_) ?_
        · go_simp
          try (refine hK _ _ ?_; clear hK K)
          obtain ⟨v2, hv2⟩ : ∃ v2, v1.alloc (Obj.cells #[] 46) = v2 := ⟨_, rfl⟩
          rw [hv2]
          have HA2 : Hid (Below v1.heap.size v1 v2) := Lib.hid (by rw [← hv2]; exact (Below.refl _ _).alloc (Nat.le_refl _) _)
          have HB2 : Hid (Below W0.heap.size W0 v2) := Lib.hid (HB1.out.trans (HA2.out.mono HB1.out.size))
          obtain ⟨e0, he0⟩ : ∃ e0, v1.heap.size = e0 := ⟨_, rfl⟩
          have HE2 : Hid (v2.ownsRow W0.heap.size 46 2 (.slice (some ⟨e0, 0, none⟩) 0 0) 0 []) := Lib.hid (by rw [← he0, ← hv2]; exact World.ownsRow_lit v1 #[] 0 HB1.out.size (by unfold maxLen; omega) rfl)
          rw [he0]
          clear he0 hv2
          refine wpAny_ready (rs := [4, 6]) (by kernel_rfl) (by simp) ?_
          refine AllReady.cons rfl (fun K hK => ?_) ?_
          · refine step_append_mine _ (by rfl) _ _ 25 (by rfl) W0.heap.size 46 i0 _ 2 16 Try.underlying25 hi hz0 hz1 hz2 rfl (by omega) _ 0 [] (by rfl) HE2.out ⟨b, off, none⟩ pk _ (cs (l.take pk)) (by rfl) HL1.out (HN1.out _ HB2.out) (cs_one _) (by unfold maxLen; omega) (by omega) HB2.out.size ?_
            intro u1 v3 own1 gr1
            have HB3 : Hid (Below W0.heap.size W0 v3) := Lib.hid (HB2.out.grown gr1 HB2.out.size (fun b hb => (HE2.out.lt b hb).1))
            have HO3 : Hid (v3.ownsRow W0.heap.size 46 2 u1 (0 + pk) ([] ++ cs (l.take pk))) := Lib.hid own1
            clear own1 gr1
            refine hK _ _ ?_
            clear hK K
            refine wpAny_ready (rs := [6]) (by kernel_rfl) (by simp) ?_
            refine AllReady.cons rfl (fun K hK => ?_) AllReady.nil
            go_simp
            try (refine hK _ _ ?_; clear hK K)
            obtain ⟨v4, hv4⟩ : ∃ v4, v3.alloc (Obj.cells #[Value.int IntKind.i64 X, Value.int IntKind.i64 Y] 46) = v4 := ⟨_, rfl⟩
            rw [hv4]
            have HA4 : Hid (Below v3.heap.size v3 v4) := Lib.hid (by rw [← hv4]; exact (Below.refl _ _).alloc (Nat.le_refl _) _)
            have HB4 : Hid (Below W0.heap.size W0 v4) := Lib.hid (HB3.out.trans (HA4.out.mono HB3.out.size))
            obtain ⟨q, hq0⟩ : ∃ q, v3.heap.size = q := ⟨_, rfl⟩
            have HP4 : Hid (v4.cell? ⟨q, 0, none⟩ = some (.int .i64 X) ∧ v4.cell? ⟨q, 1, none⟩ = some (.int .i64 Y) ∧ q < v4.heap.size) := Lib.hid (by rw [← hq0, ← hv4]; simp)
            have HO4 : Hid (v4.ownsRow W0.heap.size 46 2 u1 (0 + pk) ([] ++ cs (l.take pk))) := Lib.hid (own_later HO3.out HA4.out)
            rw [hq0]
            clear hq0 hv4
            refine wpAny_ready (rs := [7]) (by kernel_rfl) (by simp) ?_
            refine AllReady.cons rfl (fun K hK => ?_) AllReady.nil
            refine step_append_mine _ (by rfl) _ _ 25 (by rfl) W0.heap.size 46 i0 _ 2 16 Try.underlying25 hi hz0 hz1 hz2 rfl (by omega) _ (0 + pk) ([] ++ cs (l.take pk)) (by rfl) HO4.out ⟨q, 0, none⟩ 1 _ (cs [(X, Y)]) (by rfl) rfl (pair_news HP4.out.1 HP4.out.2.1) (cs_one _) (by unfold maxLen; omega) (by omega) HB4.out.size ?_
            intro u2 v5 own2 gr2
            have HB5 : Hid (Below W0.heap.size W0 v5) := Lib.hid (HB4.out.grown gr2 HB4.out.size (fun b hb => (HO4.out.lt b hb).1))
            have HO5 : Hid (v5.ownsRow W0.heap.size 46 2 u2 (0 + pk + 1) ([] ++ cs (l.take pk) ++ cs [(X, Y)])) := Lib.hid own2
            clear own2 gr2
            refine hK _ _ ?_
            clear hK K
            refine wpAny_ready (rs := [8]) (by kernel_rfl) (by simp) ?_
            refine AllReady.cons rfl (fun K hK => ?_) AllReady.nil
            go_simp
            try (refine hK _ _ ?_; clear hK K)
            refine wpAny_done (by kernel_rfl) ?_ _
            go_wp2_with (at_builtin; refine step_round _ rfl _ _ 25 rfl W0.heap.size 46 i0 (.agg #[.int .i64 0, .int .i64 0]) Try.underlying25 hi hz0 hz1 hz2 rfl _ (0 + pk + 1) (l.take pk ++ [(X, Y)]) rfl (by rw [cs_append]; exact HO5.out) (some ⟨b, off2, none⟩) _ _ (l.drop pk) rfl HL2.out (HD.out.kept (HbW.out.trans (HB5.out.mono HbW.out.size))) (fun h => by cases h) (by omega) HB5.out.size ?_)
            intro u3 v6 own3 hb3
            obtain ⟨ao9, cap9, rfl, _⟩ := own_shape own3 HLL.out
            have Own3 : Hid (v6.ownsRow w.heap.size 46 2 (.slice ao9 (pk + 1 + (n - pk)) cap9) (ins l X Y).length (cs (ins l X Y))) := Lib.hid (HINS.out _ _ (own_base HbW.out.size own3))
            have HB6 : Hid (Below w.heap.size w v6) := Lib.hid (HbW.out.trans ((HB5.out.trans hb3).mono HbW.out.size))
            clear own3 hb3
            go_wp2_with fail
            go_ret2
            exact ⟨_, rfl, Own3.out, HB6.out⟩
          refine AllReady.cons rfl (fun K hK => ?_) AllReady.nil
          go_simp
          try (refine hK _ _ ?_; clear hK K)
          obtain ⟨v3, hv3⟩ : ∃ v3, v2.alloc (Obj.cells #[Value.int IntKind.i64 X, Value.int IntKind.i64 Y] 46) = v3 := ⟨_, rfl⟩
          rw [hv3]
          have HA3 : Hid (Below v2.heap.size v2 v3) := Lib.hid (by rw [← hv3]; exact (Below.refl _ _).alloc (Nat.le_refl _) _)
          have HB3 : Hid (Below W0.heap.size W0 v3) := Lib.hid (HB2.out.trans (HA3.out.mono HB2.out.size))
          obtain ⟨q, hq0⟩ : ∃ q, v2.heap.size = q := ⟨_, rfl⟩
          have HP3 : Hid (v3.cell? ⟨q, 0, none⟩ = some (.int .i64 X) ∧ v3.cell? ⟨q, 1, none⟩ = some (.int .i64 Y) ∧ q < v3.heap.size) := Lib.hid (by rw [← hq0, ← hv3]; simp)
          have hqe : q ≠ e0 := by rw [← hq0]; have := (HE2.out.lt e0 rfl).2; omega
          have HE3 : Hid (v3.ownsRow W0.heap.size 46 2 (.slice (some ⟨e0, 0, none⟩) 0 0) 0 []) := Lib.hid (own_later HE2.out HA3.out)
          rw [hq0]
          clear hq0 hv3
          refine wpAny_ready (rs := [4]) (by kernel_rfl) (by simp) ?_
          refine AllReady.cons rfl (fun K hK => ?_) AllReady.nil
          refine step_append_mine _ (by rfl) _ _ 25 (by rfl) W0.heap.size 46 i0 _ 2 16 Try.underlying25 hi hz0 hz1 hz2 rfl (by omega) _ 0 [] (by rfl) HE3.out ⟨b, off, none⟩ pk _ (cs (l.take pk)) (by rfl) HL1.out (HN1.out _ HB3.out) (cs_one _) (by unfold maxLen; omega) (by omega) HB3.out.size ?_
          intro u1 v4 own1 gr1
          have HB4 : Hid (Below W0.heap.size W0 v4) := Lib.hid (HB3.out.grown gr1 HB3.out.size (fun b hb => (HE3.out.lt b hb).1))
          have HO4 : Hid (v4.ownsRow W0.heap.size 46 2 u1 (0 + pk) ([] ++ cs (l.take pk))) := Lib.hid own1
          have HP4 : Hid (v4.cell? ⟨q, 0, none⟩ = some (.int .i64 X) ∧ v4.cell? ⟨q, 1, none⟩ = some (.int .i64 Y) ∧ q < v4.heap.size) := Lib.hid ⟨gr1.cell HP3.out.1 (fun h => hqe (Option.some.inj h)), gr1.cell HP3.out.2.1 (fun h => hqe (Option.some.inj h)), Nat.lt_of_lt_of_le HP3.out.2.2 gr1.size⟩
          clear own1 gr1
          refine hK _ _ ?_
          clear hK K
          refine wpAny_ready (rs := [7]) (by kernel_rfl) (by simp) ?_
          refine AllReady.cons rfl (fun K hK => ?_) AllReady.nil
          refine step_append_mine _ (by rfl) _ _ 25 (by rfl) W0.heap.size 46 i0 _ 2 16 Try.underlying25 hi hz0 hz1 hz2 rfl (by omega) _ (0 + pk) ([] ++ cs (l.take pk)) (by rfl) HO4.out ⟨q, 0, none⟩ 1 _ (cs [(X, Y)]) (by rfl) rfl (pair_news HP4.out.1 HP4.out.2.1) (cs_one _) (by unfold maxLen; omega) (by omega) HB4.out.size ?_
          intro u2 v5 own2 gr2
          have HB5 : Hid (Below W0.heap.size W0 v5) := Lib.hid (HB4.out.grown gr2 HB4.out.size (fun b hb => (HO4.out.lt b hb).1))
          have HO5 : Hid (v5.ownsRow W0.heap.size 46 2 u2 (0 + pk + 1) ([] ++ cs (l.take pk) ++ cs [(X, Y)])) := Lib.hid own2
          clear own2 gr2
          refine hK _ _ ?_
          clear hK K
          refine wpAny_ready (rs := [8]) (by kernel_rfl) (by simp) ?_
          refine AllReady.cons rfl (fun K hK => ?_) AllReady.nil
          go_simp
          try (refine hK _ _ ?_; clear hK K)
          refine wpAny_done (by kernel_rfl) ?_ _
          go_wp2_with (at_builtin; refine step_round _ rfl _ _ 25 rfl W0.heap.size 46 i0 (.agg #[.int .i64 0, .int .i64 0]) Try.underlying25 hi hz0 hz1 hz2 rfl _ (0 + pk + 1) (l.take pk ++ [(X, Y)]) rfl (by rw [cs_append]; exact HO5.out) (some ⟨b, off2, none⟩) _ _ (l.drop pk) rfl HL2.out (HD.out.kept (HbW.out.trans (HB5.out.mono HbW.out.size))) (fun h => by cases h) (by omega) HB5.out.size ?_)
          intro u3 v6 own3 hb3
          obtain ⟨ao9, cap9, rfl, _⟩ := own_shape own3 HLL.out
          have Own3 : Hid (v6.ownsRow w.heap.size 46 2 (.slice ao9 (pk + 1 + (n - pk)) cap9) (ins l X Y).length (cs (ins l X Y))) := Lib.hid (HINS.out _ _ (own_base HbW.out.size own3))
          have HB6 : Hid (Below w.heap.size w v6) := Lib.hid (HbW.out.trans ((HB5.out.trans hb3).mono HbW.out.size))
          clear own3 hb3
          go_wp2_with fail
          go_ret2
          exact ⟨_, rfl, Own3.out, HB6.out⟩
        refine AllReady.cons rfl (fun K hK => ?_) AllReady.nil
        go_simp
        try (refine hK _ _ ?_; clear hK K)
        obtain ⟨v2, hv2⟩ : ∃ v2, v1.alloc (Obj.cells #[Value.int IntKind.i64 X, Value.int IntKind.i64 Y] 46) = v2 := ⟨_, rfl⟩
        rw [hv2]
        have HA2 : Hid (Below v1.heap.size v1 v2) := Lib.hid (by rw [← hv2]; exact (Below.refl _ _).alloc (Nat.le_refl _) _)
        have HB2 : Hid (Below W0.heap.size W0 v2) := Lib.hid (HB1.out.trans (HA2.out.mono HB1.out.size))
        obtain ⟨q, hq0⟩ : ∃ q, v1.heap.size = q := ⟨_, rfl⟩
        have HP2 : Hid (v2.cell? ⟨q, 0, none⟩ = some (.int .i64 X) ∧ v2.cell? ⟨q, 1, none⟩ = some (.int .i64 Y) ∧ q < v2.heap.size) := Lib.hid (by rw [← hq0, ← hv2]; simp)
        rw [hq0]
        clear hq0 hv2
        refine wpAny_ready (rs := [0]) (by kernel_rfl) (by simp) ?_
        refine AllReady.cons rfl (fun K hK => ?_) AllReady.nil
        go_simp
        try (refine hK _ _ ?_; clear hK K)
        obtain ⟨v3, hv3⟩ : ∃ v3, v2.alloc (Obj.cells #[] 46) = v3 := ⟨_, rfl⟩
        rw [hv3]
        have HA3 : Hid (Below v2.heap.size v2 v3) := Lib.hid (by rw [← hv3]; exact (Below.refl _ _).alloc (Nat.le_refl _) _)
        have HB3 : Hid (Below W0.heap.size W0 v3) := Lib.hid (HB2.out.trans (HA3.out.mono HB2.out.size))
        obtain ⟨e0, he0⟩ : ∃ e0, v2.heap.size = e0 := ⟨_, rfl⟩
        have HE3 : Hid (v3.ownsRow W0.heap.size 46 2 (.slice (some ⟨e0, 0, none⟩) 0 0) 0 []) := Lib.hid (by rw [← he0, ← hv3]; exact World.ownsRow_lit v2 #[] 0 HB2.out.size (by unfold maxLen; omega) rfl)
        have hqe : q ≠ e0 := by rw [← he0]; have := HP2.out.2.2; omega
        have HP3 : Hid (v3.cell? ⟨q, 0, none⟩ = some (.int .i64 X) ∧ v3.cell? ⟨q, 1, none⟩ = some (.int .i64 Y) ∧ q < v3.heap.size) := Lib.hid ⟨cell_old HA3.out HP2.out.1, cell_old HA3.out HP2.out.2.1, Nat.lt_of_lt_of_le HP2.out.2.2 HA3.out.size⟩
        rw [he0]
        clear he0 hv3
        refine wpAny_ready (rs := [4]) (by kernel_rfl) (by simp) ?_
        refine AllReady.cons rfl (fun K hK => ?_) AllReady.nil
        refine step_append_mine _ (by rfl) _ _ 25 (by rfl) W0.heap.size 46 i0 _ 2 16 Try.underlying25 hi hz0 hz1 hz2 rfl (by omega) _ 0 [] (by rfl) HE3.out ⟨b, off, none⟩ pk _ (cs (l.take pk)) (by rfl) HL1.out (HN1.out _ HB3.out) (cs_one _) (by unfold maxLen; omega) (by omega) HB3.out.size ?_
        intro u1 v4 own1 gr1
        have HB4 : Hid (Below W0.heap.size W0 v4) := Lib.hid (HB3.out.grown gr1 HB3.out.size (fun b hb => (HE3.out.lt b hb).1))
        have HO4 : Hid (v4.ownsRow W0.heap.size 46 2 u1 (0 + pk) ([] ++ cs (l.take pk))) := Lib.hid own1
        have HP4 : Hid (v4.cell? ⟨q, 0, none⟩ = some (.int .i64 X) ∧ v4.cell? ⟨q, 1, none⟩ = some (.int .i64 Y) ∧ q < v4.heap.size) := Lib.hid ⟨gr1.cell HP3.out.1 (fun h => hqe (Option.some.inj h)), gr1.cell HP3.out.2.1 (fun h => hqe (Option.some.inj h)), Nat.lt_of_lt_of_le HP3.out.2.2 gr1.size⟩
        clear own1 gr1
        refine hK _ _ ?_
        clear hK K
        refine wpAny_ready (rs := [7]) (by kernel_rfl) (by simp) ?_
        refine AllReady.cons rfl (fun K hK => ?_) AllReady.nil
        refine step_append_mine _ (by rfl) _ _ 25 (by rfl) W0.heap.size 46 i0 _ 2 16 Try.underlying25 hi hz0 hz1 hz2 rfl (by omega) _ (0 + pk) ([] ++ cs (l.take pk)) (by rfl) HO4.out ⟨q, 0, none⟩ 1 _ (cs [(X, Y)]) (by rfl) rfl (pair_news HP4.out.1 HP4.out.2.1) (cs_one _) (by unfold maxLen; omega) (by omega) HB4.out.size ?_
        intro u2 v5 own2 gr2
        have HB5 : Hid (Below W0.heap.size W0 v5) := Lib.hid (HB4.out.grown gr2 HB4.out.size (fun b hb => (HO4.out.lt b hb).1))
        have HO5 : Hid (v5.ownsRow W0.heap.size 46 2 u2 (0 + pk + 1) ([] ++ cs (l.take pk) ++ cs [(X, Y)])) := Lib.hid own2
        clear own2 gr2
        refine hK _ _ ?_
        clear hK K
        refine wpAny_ready (rs := [8]) (by kernel_rfl) (by simp) ?_
        refine AllReady.cons rfl (fun K hK => ?_) AllReady.nil
        go_simp
        try (refine hK _ _ ?_; clear hK K)
        refine wpAny_done (by kernel_rfl) ?_ _
        go_wp2_with (at_builtin; refine step_round _ rfl _ _ 25 rfl W0.heap.size 46 i0 (.agg #[.int .i64 0, .int .i64 0]) Try.underlying25 hi hz0 hz1 hz2 rfl _ (0 + pk + 1) (l.take pk ++ [(X, Y)]) rfl (by rw [cs_append]; exact HO5.out) (some ⟨b, off2, none⟩) _ _ (l.drop pk) rfl HL2.out (HD.out.kept (HbW.out.trans (HB5.out.mono HbW.out.size))) (fun h => by cases h) (by omega) HB5.out.size ?_)
        intro u3 v6 own3 hb3
        obtain ⟨ao9, cap9, rfl, _⟩ := own_shape own3 HLL.out
        have Own3 : Hid (v6.ownsRow w.heap.size 46 2 (.slice ao9 (pk + 1 + (n - pk)) cap9) (ins l X Y).length (cs (ins l X Y))) := Lib.hid (HINS.out _ _ (own_base HbW.out.size own3))
        have HB6 : Hid (Below w.heap.size w v6) := Lib.hid (HbW.out.trans ((HB5.out.trans hb3).mono HbW.out.size))
        clear own3 hb3
        go_wp2_with fail
        go_ret2
        exact ⟨_, rfl, Own3.out, HB6.out⟩
      refine AllReady.cons rfl (fun K hK => ?_) AllReady.nil
      go_simp
      try (refine hK _ _ ?_; clear hK K)
      refine wpAny_ready (rs := [0, 3, 6]) (by kernel_rfl) (by simp) ?_
      refine AllReady.cons rfl (fun K hK => ?_) ?_
      · go_simp
        try (refine hK _ _ ?_; clear hK K)
        obtain ⟨v2, hv2⟩ : ∃ v2, v1.alloc (Obj.cells #[] 46) = v2 := ⟨_, rfl⟩
        rw [hv2]
        have HA2 : Hid (Below v1.heap.size v1 v2) := Lib.hid (by rw [← hv2]; exact (Below.refl _ _).alloc (Nat.le_refl _) _)
        have HB2 : Hid (Below W0.heap.size W0 v2) := Lib.hid (HB1.out.trans (HA2.out.mono HB1.out.size))
        obtain ⟨e0, he0⟩ : ∃ e0, v1.heap.size = e0 := ⟨_, rfl⟩
        have HE2 : Hid (v2.ownsRow W0.heap.size 46 2 (.slice (some ⟨e0, 0, none⟩) 0 0) 0 []) := Lib.hid (by rw [← he0, ← hv2]; exact World.ownsRow_lit v1 #[] 0 HB1.out.size (by unfold maxLen; omega) rfl)
        rw [he0]
        clear he0 hv2
        refine wpAny_ready (rs := [3, 6]) (by kernel_rfl) (by simp) ?_
        refine AllReady.cons rfl (fun K hK => ?_) ?_
        · go_simp
          try (refine hK _ _ ?_; clear hK K)
          refine wpAny_ready (rs := [4, 6]) (by kernel_rfl) (by simp) ?_
          refine AllReady.cons rfl (fun K hK => ?_) ?_
          · refine step_append_mine _ (by rfl) _ _ 25 (by rfl) W0.heap.size 46 i0 _ 2 16 Try.underlying25 hi hz0 hz1 hz2 rfl (by omega) _ 0 [] (by rfl) HE2.out ⟨b, off, none⟩ pk _ (cs (l.take pk)) (by rfl) HL1.out (HN1.out _ HB2.out) (cs_one _) (by unfold maxLen; omega) (by omega) HB2.out.size ?_
            intro u1 v3 own1 gr1
            have HB3 : Hid (Below W0.heap.size W0 v3) := Lib.hid (HB2.out.grown gr1 HB2.out.size (fun b hb => (HE2.out.lt b hb).1))
            have HO3 : Hid (v3.ownsRow W0.heap.size 46 2 u1 (0 + pk) ([] ++ cs (l.take pk))) := Lib.hid own1
            clear own1 gr1
            refine hK _ _ ?_
            clear hK K
            refine wpAny_ready (rs := [6]) (by kernel_rfl) (by simp) ?_
            refine AllReady.cons rfl (fun K hK => ?_) AllReady.nil
            go_simp
            try (refine hK _ _ ?_; clear hK K)
            obtain ⟨v4, hv4⟩ : ∃ v4, v3.alloc (Obj.cells #[Value.int IntKind.i64 X, Value.int IntKind.i64 Y] 46) = v4 := ⟨_, rfl⟩
            rw [hv4]
            have HA4 : Hid (Below v3.heap.size v3 v4) := Lib.hid (by rw [← hv4]; exact (Below.refl _ _).alloc (Nat.le_refl _) _)
            have HB4 : Hid (Below W0.heap.size W0 v4) := Lib.hid (HB3.out.trans (HA4.out.mono HB3.out.size))
            obtain ⟨q, hq0⟩ : ∃ q, v3.heap.size = q := ⟨_, rfl⟩
            have HP4 : Hid (v4.cell? ⟨q, 0, none⟩ = some (.int .i64 X) ∧ v4.cell? ⟨q, 1, none⟩ = some (.int .i64 Y) ∧ q < v4.heap.size) := Lib.hid (by rw [← hq0, ← hv4]; simp)
            have HO4 : Hid (v4.ownsRow W0.heap.size 46 2 u1 (0 + pk) ([] ++ cs (l.take pk))) := Lib.hid (own_later HO3.out HA4.out)
            rw [hq0]
            clear hq0 hv4
            refine wpAny_ready (rs := [7]) (by kernel_rfl) (by simp) ?_
            refine AllReady.cons rfl (fun K hK => ?_) AllReady.nil
            refine step_append_mine _ (by rfl) _ _ 25 (by rfl) W0.heap.size 46 i0 _ 2 16 Try.underlying25 hi hz0 hz1 hz2 rfl (by omega) _ (0 + pk) ([] ++ cs (l.take pk)) (by rfl) HO4.out ⟨q, 0, none⟩ 1 _ (cs [(X, Y)]) (by rfl) rfl (pair_news HP4.out.1 HP4.out.2.1) (cs_one _) (by unfold maxLen; omega) (by omega) HB4.out.size ?_
            intro u2 v5 own2 gr2
            have HB5 : Hid (Below W0.heap.size W0 v5) := Lib.hid (HB4.out.grown gr2 HB4.out.size (fun b hb => (HO4.out.lt b hb).1))
            have HO5 : Hid (v5.ownsRow W0.heap.size 46 2 u2 (0 + pk + 1) ([] ++ cs (l.take pk) ++ cs [(X, Y)])) := Lib.hid own2
            clear own2 gr2
            refine hK _ _ ?_
            clear hK K
            refine wpAny_ready (rs := [8]) (by kernel_rfl) (by simp) ?_
            refine AllReady.cons rfl (fun K hK => ?_) AllReady.nil
            go_simp
            try (refine hK _ _ ?_; clear hK K)
            refine wpAny_done (by kernel_rfl) ?_ _
            go_wp2_with (at_builtin; refine step_round _ rfl _ _ 25 rfl W0.heap.size 46 i0 (.agg #[.int .i64 0, .int .i64 0]) Try.underlying25 hi hz0 hz1 hz2 rfl _ (0 + pk + 1) (l.take pk ++ [(X, Y)]) rfl (by rw [cs_append]; exact HO5.out) (some ⟨b, off2, none⟩) _ _ (l.drop pk) rfl HL2.out (HD.out.kept (HbW.out.trans (HB5.out.mono HbW.out.size))) (fun h => by cases h) (by omega) HB5.out.size ?_)
            intro u3 v6 own3 hb3
            obtain ⟨ao9, cap9, rfl, _⟩ := own_shape own3 HLL.out
            have Own3 : Hid (v6.ownsRow w.heap.size 46 2 (.slice ao9 (pk + 1 + (n - pk)) cap9) (ins l X Y).length (cs (ins l X Y))) := Lib.hid (HINS.out _ _ (own_base HbW.out.size own3))
            have HB6 : Hid (Below w.heap.size w v6) := Lib.hid (HbW.out.trans ((HB5.out.trans hb3).mono HbW.out.size))
            clear own3 hb3
            go_wp2_with fail
            go_ret2
            exact ⟨_, rfl, Own3.out, HB6.out⟩
          refine AllReady.cons rfl (fun K hK => ?_) AllReady.nil
          go_simp
          try (refine hK _ _ ?_; clear hK K)
          obtain ⟨v3, hv3⟩ : ∃ v3, v2.alloc (Obj.cells #[Value.int IntKind.i64 X, Value.int IntKind.i64 Y] 46) = v3 := ⟨_, rfl⟩
          rw [hv3]
          have HA3 : Hid (Below v2.heap.size v2 v3) := Lib.hid (by rw [← hv3]; exact (Below.refl _ _).alloc (Nat.le_refl _) _)
          have HB3 : Hid (Below W0.heap.size W0 v3) := Lib.hid (HB2.out.trans (HA3.out.mono HB2.out.size))
          obtain ⟨q, hq0⟩ : ∃ q, v2.heap.size = q := ⟨_, rfl⟩
          have HP3 : Hid (v3.cell? ⟨q, 0, none⟩ = some (.int .i64 X) ∧ v3.cell? ⟨q, 1, none⟩ = some (.int .i64 Y) ∧ q < v3.heap.size) := Lib.hid (by rw [← hq0, ← hv3]; simp)
          have hqe : q ≠ e0 := by rw [← hq0]; have := (HE2.out.lt e0 rfl).2; omega
          have HE3 : Hid (v3.ownsRow W0.heap.size 46 2 (.slice (some ⟨e0, 0, none⟩) 0 0) 0 []) := Lib.hid (own_later HE2.out HA3.out)
          rw [hq0]
          clear hq0 hv3
          refine wpAny_ready (rs := [4]) (by kernel_rfl) (by simp) ?_
          refine AllReady.cons rfl (fun K hK => ?_) AllReady.nil
          refine step_append_mine _ (by rfl) _ _ 25 (by rfl) W0.heap.size 46 i0 _ 2 16 Try.underlying25 hi hz0 hz1 hz2 rfl (by omega) _ 0 [] (by rfl) HE3.out ⟨b, off, none⟩ pk _ (cs (l.take pk)) (by rfl) HL1.out (HN1.out _ HB3.out) (cs_one _) (by unfold maxLen; omega) (by omega) HB3.out.size ?_
          intro u1 v4 own1 gr1
          have HB4 : Hid (Below W0.heap.size W0 v4) := Lib.hid (HB3.out.grown gr1 HB3.out.size (fun b hb => (HE3.out.lt b hb).1))
          have HO4 : Hid (v4.ownsRow W0.heap.size 46 2 u1 (0 + pk) ([] ++ cs (l.take pk))) := Lib.hid own1
          have HP4 : Hid (v4.cell? ⟨q, 0, none⟩ = some (.int .i64 X) ∧ v4.cell? ⟨q, 1, none⟩ = some (.int .i64 Y) ∧ q < v4.heap.size) := Lib.hid ⟨gr1.cell HP3.out.1 (fun h => hqe (Option.some.inj h)), gr1.cell HP3.out.2.1 (fun h => hqe (Option.some.inj h)), Nat.lt_of_lt_of_le HP3.out.2.2 gr1.size⟩
          clear own1 gr1
          refine hK _ _ ?_
          clear hK K
          refine wpAny_ready (rs := [7]) (by kernel_rfl) (by simp) ?_
          refine AllReady.cons rfl (fun K hK => ?_) AllReady.nil
          refine step_append_mine _ (by rfl) _ _ 25 (by rfl) W0.heap.size 46 i0 _ 2 16 Try.underlying25 hi hz0 hz1 hz2 rfl (by omega) _ (0 + pk) ([] ++ cs (l.take pk)) (by rfl) HO4.out ⟨q, 0, none⟩ 1 _ (cs [(X, Y)]) (by rfl) rfl (pair_news HP4.out.1 HP4.out.2.1) (cs_one _) (by unfold maxLen; omega) (by omega) HB4.out.size ?_
          intro u2 v5 own2 gr2
          have HB5 : Hid (Below W0.heap.size W0 v5) := Lib.hid (HB4.out.grown gr2 HB4.out.size (fun b hb => (HO4.out.lt b hb).1))
          have HO5 : Hid (v5.ownsRow W0.heap.size 46 2 u2 (0 + pk + 1) ([] ++ cs (l.take pk) ++ cs [(X, Y)])) := Lib.hid own2
          clear own2 gr2
          refine hK _ _ ?_
          clear hK K
          refine wpAny_ready (rs := [8]) (by kernel_rfl) (by simp) ?_
          refine AllReady.cons rfl (fun K hK => ?_) AllReady.nil
          go_simp
          try (refine hK _ _ ?_; clear hK K)
          refine wpAny_done (by kernel_rfl) ?_ _
          go_wp2_with (at_builtin; refine step_round _ rfl _ _ 25 rfl W0.heap.size 46 i0 (.agg #[.int .i64 0, .int .i64 0]) Try.underlying25 hi hz0 hz1 hz2 rfl _ (0 + pk + 1) (l.take pk ++ [(X, Y)]) rfl (by rw [cs_append]; exact HO5.out) (some ⟨b, off2, none⟩) _ _ (l.drop pk) rfl HL2.out (HD.out.kept (HbW.out.trans (HB5.out.mono HbW.out.size))) (fun h => by cases h) (by omega) HB5.out.size ?_)
          intro u3 v6 own3 hb3
          obtain ⟨ao9, cap9, rfl, _⟩ := own_shape own3 HLL.out
          have Own3 : Hid (v6.ownsRow w.heap.size 46 2 (.slice ao9 (pk + 1 + (n - pk)) cap9) (ins l X Y).length (cs (ins l X Y))) := Lib.hid (HINS.out _ _ (own_base HbW.out.size own3))
          have HB6 : Hid (Below w.heap.size w v6) := Lib.hid (HbW.out.trans ((HB5.out.trans hb3).mono HbW.out.size))
          clear own3 hb3
          go_wp2_with fail
          go_ret2
          exact ⟨_, rfl, Own3.out, HB6.out⟩
        refine AllReady.cons rfl (fun K hK => ?_) AllReady.nil
        go_simp
        try (refine hK _ _ ?_; clear hK K)
        obtain ⟨v3, hv3⟩ : ∃ v3, v2.alloc (Obj.cells #[Value.int IntKind.i64 X, Value.int IntKind.i64 Y] 46) = v3 := ⟨_, rfl⟩
        rw [hv3]
        have HA3 : Hid (Below v2.heap.size v2 v3) := Lib.hid (by rw [← hv3]; exact (Below.refl _ _).alloc (Nat.le_refl _) _)
        have HB3 : Hid (Below W0.heap.size W0 v3) := Lib.hid (HB2.out.trans (HA3.out.mono HB2.out.size))
        obtain ⟨q, hq0⟩ : ∃ q, v2.heap.size = q := ⟨_, rfl⟩
        have HP3 : Hid (v3.cell? ⟨q, 0, none⟩ = some (.int .i64 X) ∧ v3.cell? ⟨q, 1, none⟩ = some (.int .i64 Y) ∧ q < v3.heap.size) := Lib.hid (by rw [← hq0, ← hv3]; simp)
        have hqe : q ≠ e0 := by rw [← hq0]; have := (HE2.out.lt e0 rfl).2; omega
        have HE3 : Hid (v3.ownsRow W0.heap.size 46 2 (.slice (some ⟨e0, 0, none⟩) 0 0) 0 []) := Lib.hid (own_later HE2.out HA3.out)
        rw [hq0]
        clear hq0 hv3
        refine wpAny_ready (rs := [3]) (by kernel_rfl) (by simp) ?_
        refine AllReady.cons rfl (fun K hK => ?_) AllReady.nil
        go_simp
        try (refine hK _ _ ?_; clear hK K)
        refine wpAny_ready (rs := [4]) (by kernel_rfl) (by simp) ?_
        refine AllReady.cons rfl (fun K hK => ?_) AllReady.nil
        refine step_append_mine _ (by rfl) _ _ 25 (by rfl) W0.heap.size 46 i0 _ 2 16 Try.underlying25 hi hz0 hz1 hz2 rfl (by omega) _ 0 [] (by rfl) HE3.out ⟨b, off, none⟩ pk _ (cs (l.take pk)) (by rfl) HL1.out (HN1.out _ HB3.out) (cs_one _) (by unfold maxLen; omega) (by omega) HB3.out.size ?_
        intro u1 v4 own1 gr1
        have HB4 : Hid (Below W0.heap.size W0 v4) := Lib.hid (HB3.out.grown gr1 HB3.out.size (fun b hb => (HE3.out.lt b hb).1))
        have HO4 : Hid (v4.ownsRow W0.heap.size 46 2 u1 (0 + pk) ([] ++ cs (l.take pk))) := Lib.hid own1
        have HP4 : Hid (v4.cell? ⟨q, 0, none⟩ = some (.int .i64 X) ∧ v4.cell? ⟨q, 1, none⟩ = some (.int .i64 Y) ∧ q < v4.heap.size) := Lib.hid ⟨gr1.cell HP3.out.1 (fun h => hqe (Option.some.inj h)), gr1.cell HP3.out.2.1 (fun h => hqe (Option.some.inj h)), Nat.lt_of_lt_of_le HP3.out.2.2 gr1.size⟩
        clear own1 gr1
        refine hK _ _ ?_
        clear hK K
        refine wpAny_ready (rs := [7]) (by kernel_rfl) (by simp) ?_
        refine AllReady.cons rfl (fun K hK => ?_) AllReady.nil
        refine step_append_mine _ (by rfl) _ _ 25 (by rfl) W0.heap.size 46 i0 _ 2 16 Try.underlying25 hi hz0 hz1 hz2 rfl (by omega) _ (0 + pk) ([] ++ cs (l.take pk)) (by rfl) HO4.out ⟨q, 0, none⟩ 1 _ (cs [(X, Y)]) (by rfl) rfl (pair_news HP4.out.1 HP4.out.2.1) (cs_one _) (by unfold maxLen; omega) (by omega) HB4.out.size ?_
        intro u2 v5 own2 gr2
        have HB5 : Hid (Below W0.heap.size W0 v5) := Lib.hid (HB4.out.grown gr2 HB4.out.size (fun b hb => (HO4.out.lt b hb).1))
        have HO5 : Hid (v5.ownsRow W0.heap.size 46 2 u2 (0 + pk + 1) ([] ++ cs (l.take pk) ++ cs [(X, Y)])) := Lib.hid own2
        clear own2 gr2
        refine hK _ _ ?_
        clear hK K
        refine wpAny_ready (rs := [8]) (by kernel_rfl) (by simp) ?_
        refine AllReady.cons rfl (fun K hK => ?_) AllReady.nil
        go_simp
        try (refine hK _ _ ?_; clear hK K)
        refine wpAny_done (by kernel_rfl) ?_ _
        go_wp2_with (at_builtin; refine step_round _ rfl _ _ 25 rfl W0.heap.size 46 i0 (.agg #[.int .i64 0, .int .i64 0]) Try.underlying25 hi hz0 hz1 hz2 rfl _ (0 + pk + 1) (l.take pk ++ [(X, Y)]) rfl (by rw [cs_append]; exact HO5.out) (some ⟨b, off2, none⟩) _ _ (l.drop pk) rfl HL2.out (HD.out.kept (HbW.out.trans (HB5.out.mono HbW.out.size))) (fun h => by cases h) (by omega) HB5.out.size ?_)
        intro u3 v6 own3 hb3
        obtain ⟨ao9, cap9, rfl, _⟩ := own_shape own3 HLL.out
        have Own3 : Hid (v6.ownsRow w.heap.size 46 2 (.slice ao9 (pk + 1 + (n - pk)) cap9) (ins l X Y).length (cs (ins l X Y))) := Lib.hid (HINS.out _ _ (own_base HbW.out.size own3))
        have HB6 : Hid (Below w.heap.size w v6) := Lib.hid (HbW.out.trans ((HB5.out.trans hb3).mono HbW.out.size))
        clear own3 hb3
        go_wp2_with fail
        go_ret2
        exact ⟨_, rfl, Own3.out, HB6.out⟩
      refine AllReady.cons rfl (fun K hK => ?_) ?_
      · go_simp
        try (refine hK _ _ ?_; clear hK K)
        refine wpAny_ready (rs := [0, 6]) (by kernel_rfl) (by simp) ?_
        refine AllReady.cons rfl (fun K hK => ?_) ?_
        · go_simp
          try (refine hK _ _ ?_; clear hK K)
          obtain ⟨v2, hv2⟩ : ∃ v2, v1.alloc (Obj.cells #[] 46) = v2 := ⟨_, rfl⟩
          rw [hv2]
          have HA2 : Hid (Below v1.heap.size v1 v2) := Lib.hid (by rw [← hv2]; exact (Below.refl _ _).alloc (Nat.le_refl _) _)
          have HB2 : Hid (Below W0.heap.size W0 v2) := Lib.hid (HB1.out.trans (HA2.out.mono HB1.out.size))
          obtain ⟨e0, he0⟩ : ∃ e0, v1.heap.size = e0 := ⟨_, rfl⟩
          have HE2 : Hid (v2.ownsRow W0.heap.size 46 2 (.slice (some ⟨e0, 0, none⟩) 0 0) 0 []) := Lib.hid (by rw [← he0, ← hv2]; exact World.ownsRow_lit v1 #[] 0 HB1.out.size (by unfold maxLen; omega) rfl)
          rw [he0]
          clear he0 hv2
          refine wpAny_ready (rs := [4, 6]) (by kernel_rfl) (by simp) ?_
          refine AllReady.cons rfl (fun K hK => ?_) ?_
          · refine step_append_mine _ (by rfl) _ _ 25 (by rfl) W0.heap.size 46 i0 _ 2 16 Try.underlying25 hi hz0 hz1 hz2 rfl (by omega) _ 0 [] (by rfl) HE2.out ⟨b, off, none⟩ pk _ (cs (l.take pk)) (by rfl) HL1.out (HN1.out _ HB2.out) (cs_one _) (by unfold maxLen; omega) (by omega) HB2.out.size ?_
            intro u1 v3 own1 gr1
            have HB3 : Hid (Below W0.heap.size W0 v3) := Lib.hid (HB2.out.grown gr1 HB2.out.size (fun b hb => (HE2.out.lt b hb).1))
            have HO3 : Hid (v3.ownsRow W0.heap.size 46 2 u1 (0 + pk) ([] ++ cs (l.take pk))) := Lib.hid own1
            clear own1 gr1
            refine hK _ _ ?_
            clear hK K
            refine wpAny_ready (rs := [6]) (by kernel_rfl) (by simp) ?_
            refine AllReady.cons rfl (fun K hK => ?_) AllReady.nil
            go_simp
            try (refine hK _ _ ?_; clear hK K)
            obtain ⟨v4, hv4⟩ : ∃ v4, v3.alloc (Obj.cells #[Value.int IntKind.i64 X, Value.int IntKind.i64 Y] 46) = v4 := ⟨_, rfl⟩
            rw [hv4]
            have HA4 : Hid (Below v3.heap.size v3 v4) := Lib.hid (by rw [← hv4]; exact (Below.refl _ _).alloc (Nat.le_refl _) _)
            have HB4 : Hid (Below W0.heap.size W0 v4) := Lib.hid (HB3.out.trans (HA4.out.mono HB3.out.size))
            obtain ⟨q, hq0⟩ : ∃ q, v3.heap.size = q := ⟨_, rfl⟩
            have HP4 : Hid (v4.cell? ⟨q, 0, none⟩ = some (.int .i64 X) ∧ v4.cell? ⟨q, 1, none⟩ = some (.int .i64 Y) ∧ q < v4.heap.size) := Lib.hid (by rw [← hq0, ← hv4]; simp)
            have HO4 : Hid (v4.ownsRow W0.heap.size 46 2 u1 (0 + pk) ([] ++ cs (l.take pk))) := Lib.hid (own_later HO3.out HA4.out)
            rw [hq0]
            clear hq0 hv4
            refine wpAny_ready (rs := [7]) (by kernel_rfl) (by simp) ?_
            refine AllReady.cons rfl (fun K hK => ?_) AllReady.nil
            refine step_append_mine _ (by rfl) _ _ 25 (by rfl) W0.heap.size 46 i0 _ 2 16 Try.underlying25 hi hz0 hz1 hz2 rfl (by omega) _ (0 + pk) ([] ++ cs (l.take pk)) (by rfl) HO4.out ⟨q, 0, none⟩ 1 _ (cs [(X, Y)]) (by rfl) rfl (pair_news HP4.out.1 HP4.out.2.1) (cs_one _) (by unfold maxLen; omega) (by omega) HB4.out.size ?_
            intro u2 v5 own2 gr2
            have HB5 : Hid (Below W0.heap.size W0 v5) := Lib.hid (HB4.out.grown gr2 HB4.out.size (fun b hb => (HO4.out.lt b hb).1))
            have HO5 : Hid (v5.ownsRow W0.heap.size 46 2 u2 (0 + pk + 1) ([] ++ cs (l.take pk) ++ cs [(X, Y)])) := Lib.hid own2
            clear own2 gr2
            refine hK _ _ ?_
            clear hK K
            refine wpAny_ready (rs := [8]) (by kernel_rfl) (by simp) ?_
            refine AllReady.cons rfl (fun K hK => ?_) AllReady.nil
            go_simp
            try (refine hK _ _ ?_; clear hK K)
            refine wpAny_done (by kernel_rfl) ?_ _
            go_wp2_with (at_builtin; refine step_round _ rfl _ _ 25 rfl W0.heap.size 46 i0 (.agg #[.int .i64 0, .int .i64 0]) Try.underlying25 hi hz0 hz1 hz2 rfl _ (0 + pk + 1) (l.take pk ++ [(X, Y)]) rfl (by rw [cs_append]; exact HO5.out) (some ⟨b, off2, none⟩) _ _ (l.drop pk) rfl HL2.out (HD.out.kept (HbW.out.trans (HB5.out.mono HbW.out.size))) (fun h => by cases h) (by omega) HB5.out.size ?_)
            intro u3 v6 own3 hb3
            obtain ⟨ao9, cap9, rfl, _⟩ := own_shape own3 HLL.out
            have Own3 : Hid (v6.ownsRow w.heap.size 46 2 (.slice ao9 (pk + 1 + (n - pk)) cap9) (ins l X Y).length (cs (ins l X Y))) := Lib.hid (HINS.out _ _ (own_base HbW.out.size own3))
            have HB6 : Hid (Below w.heap.size w v6) := Lib.hid (HbW.out.trans ((HB5.out.trans hb3).mono HbW.out.size))
            clear own3 hb3
            go_wp2_with fail
            go_ret2
            exact ⟨_, rfl, Own3.out, HB6.out⟩
          refine AllReady.cons rfl (fun K hK => ?_) AllReady.nil
          go_simp
          try (refine hK _ _ ?_; clear hK K)
          obtain ⟨v3, hv3⟩ : ∃ v3, v2.alloc (Obj.cells #[Value.int IntKind.i64 X, Value.int IntKind.i64 Y] 46) = v3 := ⟨_, rfl⟩
          rw [hv3]
          have HA3 : Hid (Below v2.heap.size v2 v3) := Lib.hid (by rw [← hv3]; exact (Below.refl _ _).alloc (Nat.le_refl _) _)
          have HB3 : Hid (Below W0.heap.size W0 v3) := Lib.hid (HB2.out.trans (HA3.out.mono HB2.out.size))
          obtain ⟨q, hq0⟩ : ∃ q, v2.heap.size = q := ⟨_, rfl⟩
          have HP3 : Hid (v3.cell? ⟨q, 0, none⟩ = some (.int .i64 X) ∧ v3.cell? ⟨q, 1, none⟩ = some (.int .i64 Y) ∧ q < v3.heap.size) := Lib.hid (by rw [← hq0, ← hv3]; simp)
          have hqe : q ≠ e0 := by rw [← hq0]; have := (HE2.out.lt e0 rfl).2; omega
          have HE3 : Hid (v3.ownsRow W0.heap.size 46 2 (.slice (some ⟨e0, 0, none⟩) 0 0) 0 []) := Lib.hid (own_later HE2.out HA3.out)
          rw [hq0]
          clear hq0 hv3
          refine wpAny_ready (rs := [4]) (by kernel_rfl) (by simp) ?_
          refine AllReady.cons rfl (fun K hK => ?_) AllReady.nil
          refine step_append_mine _ (by rfl) _ _ 25 (by rfl) W0.heap.size 46 i0 _ 2 16 Try.underlying25 hi hz0 hz1 hz2 rfl (by omega) _ 0 [] (by rfl) HE3.out ⟨b, off, none⟩ pk _ (cs (l.take pk)) (by rfl) HL1.out (HN1.out _ HB3.out) (cs_one _) (by unfold maxLen; omega) (by omega) HB3.out.size ?_
          intro u1 v4 own1 gr1
          have HB4 : Hid (Below W0.heap.size W0 v4) := Lib.hid (HB3.out.grown gr1 HB3.out.size (fun b hb => (HE3.out.lt b hb).1))
          have HO4 : Hid (v4.ownsRow W0.heap.size 46 2 u1 (0 + pk) ([] ++ cs (l.take pk))) := Lib.hid own1
          have HP4 : Hid (v4.cell? ⟨q, 0, none⟩ = some (.int .i64 X) ∧ v4.cell? ⟨q, 1, none⟩ = some (.int .i64 Y) ∧ q < v4.heap.size) := Lib.hid ⟨gr1.cell HP3.out.1 (fun h => hqe (Option.some.inj h)), gr1.cell HP3.out.2.1 (fun h => hqe (Option.some.inj h)), Nat.lt_of_lt_of_le HP3.out.2.2 gr1.size⟩
          clear own1 gr1
          refine hK _ _ ?_
          clear hK K
          refine wpAny_ready (rs := [7]) (by kernel_rfl) (by simp) ?_
          refine AllReady.cons rfl (fun K hK => ?_) AllReady.nil
          refine step_append_mine _ (by rfl) _ _ 25 (by rfl) W0.heap.size 46 i0 _ 2 16 Try.underlying25 hi hz0 hz1 hz2 rfl (by omega) _ (0 + pk) ([] ++ cs (l.take pk)) (by rfl) HO4.out ⟨q, 0, none⟩ 1 _ (cs [(X, Y)]) (by rfl) rfl (pair_news HP4.out.1 HP4.out.2.1) (cs_one _) (by unfold maxLen; omega) (by omega) HB4.out.size ?_
          intro u2 v5 own2 gr2
          have HB5 : Hid (Below W0.heap.size W0 v5) := Lib.hid (HB4.out.grown gr2 HB4.out.size (fun b hb => (HO4.out.lt b hb).1))
          have HO5 : Hid (v5.ownsRow W0.heap.size 46 2 u2 (0 + pk + 1) ([] ++ cs (l.take pk) ++ cs [(X, Y)])) := Lib.hid own2
          clear own2 gr2
          refine hK _ _ ?_
          clear hK K
          refine wpAny_ready (rs := [8]) (by kernel_rfl) (by simp) ?_
          refine AllReady.cons rfl (fun K hK => ?_) AllReady.nil
          go_simp
          try (refine hK _ _ ?_; clear hK K)
          refine wpAny_done (by kernel_rfl) ?_ _
          go_wp2_with (at_builtin; refine step_round _ rfl _ _ 25 rfl W0.heap.size 46 i0 (.agg #[.int .i64 0, .int .i64 0]) Try.underlying25 hi hz0 hz1 hz2 rfl _ (0 + pk + 1) (l.take pk ++ [(X, Y)]) rfl (by rw [cs_append]; exact HO5.out) (some ⟨b, off2, none⟩) _ _ (l.drop pk) rfl HL2.out (HD.out.kept (HbW.out.trans (HB5.out.mono HbW.out.size))) (fun h => by cases h) (by omega) HB5.out.size ?_)
          intro u3 v6 own3 hb3
          obtain ⟨ao9, cap9, rfl, _⟩ := own_shape own3 HLL.out
          have Own3 : Hid (v6.ownsRow w.heap.size 46 2 (.slice ao9 (pk + 1 + (n - pk)) cap9) (ins l X Y).length (cs (ins l X Y))) := Lib.hid (HINS.out _ _ (own_base HbW.out.size own3))
          have HB6 : Hid (Below w.heap.size w v6) := Lib.hid (HbW.out.trans ((HB5.out.trans hb3).mono HbW.out.size))
          clear own3 hb3
          go_wp2_with fail
          go_ret2
          exact ⟨_, rfl, Own3.out, HB6.out⟩
        refine AllReady.cons rfl (fun K hK => ?_) AllReady.nil
        go_simp
        try (refine hK _ _ ?_; clear hK K)
        obtain ⟨v2, hv2⟩ : ∃ v2, v1.alloc (Obj.cells #[Value.int IntKind.i64 X, Value.int IntKind.i64 Y] 46) = v2 := ⟨_, rfl⟩
        rw [hv2]
        have HA2 : Hid (Below v1.heap.size v1 v2) := Lib.hid (by rw [← hv2]; exact (Below.refl _ _).alloc (Nat.le_refl _) _)
        have HB2 : Hid (Below W0.heap.size W0 v2) := Lib.hid (HB1.out.trans (HA2.out.mono HB1.out.size))
        obtain ⟨q, hq0⟩ : ∃ q, v1.heap.size = q := ⟨_, rfl⟩
        have HP2 : Hid (v2.cell? ⟨q, 0, none⟩ = some (.int .i64 X) ∧ v2.cell? ⟨q, 1, none⟩ = some (.int .i64 Y) ∧ q < v2.heap.size) := Lib.hid (by rw [← hq0, ← hv2]; simp)
        rw [hq0]
        clear hq0 hv2
        refine wpAny_ready (rs := [0]) (by kernel_rfl) (by simp) ?_
        refine AllReady.cons rfl (fun K hK => ?_) AllReady.nil
        go_simp
        try (refine hK _ _ ?_; clear hK K)
        obtain ⟨v3, hv3⟩ : ∃ v3, v2.alloc (Obj.cells #[] 46) = v3 := ⟨_, rfl⟩
        rw [hv3]
        have HA3 : Hid (Below v2.heap.size v2 v3) := Lib.hid (by rw [← hv3]; exact (Below.refl _ _).alloc (Nat.le_refl _) _)
        have HB3 : Hid (Below W0.heap.size W0 v3) := Lib.hid (HB2.out.trans (HA3.out.mono HB2.out.size))
        obtain ⟨e0, he0⟩ : ∃ e0, v2.heap.size = e0 := ⟨_, rfl⟩
        have HE3 : Hid (v3.ownsRow W0.heap.size 46 2 (.slice (some ⟨e0, 0, none⟩) 0 0) 0 []) := Lib.hid (by rw [← he0, ← hv3]; exact World.ownsRow_lit v2 #[] 0 HB2.out.size (by unfold maxLen; omega) rfl)
        have hqe : q ≠ e0 := by rw [← he0]; have := HP2.out.2.2; omega
        have HP3 : Hid (v3.cell? ⟨q, 0, none⟩ = some (.int .i64 X) ∧ v3.cell? ⟨q, 1, none⟩ = some (.int .i64 Y) ∧ q < v3.heap.size) := Lib.hid ⟨cell_old HA3.out HP2.out.1, cell_old HA3.out HP2.out.2.1, Nat.lt_of_lt_of_le HP2.out.2.2 HA3.out.size⟩
        rw [he0]
        clear he0 hv3
        refine wpAny_ready (rs := [4]) (by kernel_rfl) (by simp) ?_
        refine AllReady.cons rfl (fun K hK => ?_) AllReady.nil
        refine step_append_mine _ (by rfl) _ _ 25 (by rfl) W0.heap.size 46 i0 _ 2 16 Try.underlying25 hi hz0 hz1 hz2 rfl (by omega) _ 0 [] (by rfl) HE3.out ⟨b, off, none⟩ pk _ (cs (l.take pk)) (by rfl) HL1.out (HN1.out _ HB3.out) (cs_one _) (by unfold maxLen; omega) (by omega) HB3.out.size ?_
        intro u1 v4 own1 gr1
        have HB4 : Hid (Below W0.heap.size W0 v4) := Lib.hid (HB3.out.grown gr1 HB3.out.size (fun b hb => (HE3.out.lt b hb).1))
        have HO4 : Hid (v4.ownsRow W0.heap.size 46 2 u1 (0 + pk) ([] ++ cs (l.take pk))) := Lib.hid own1
        have HP4 : Hid (v4.cell? ⟨q, 0, none⟩ = some (.int .i64 X) ∧ v4.cell? ⟨q, 1, none⟩ = some (.int .i64 Y) ∧ q < v4.heap.size) := Lib.hid ⟨gr1.cell HP3.out.1 (fun h => hqe (Option.some.inj h)), gr1.cell HP3.out.2.1 (fun h => hqe (Option.some.inj h)), Nat.lt_of_lt_of_le HP3.out.2.2 gr1.size⟩
        clear own1 gr1
        refine hK _ _ ?_
        clear hK K
        refine wpAny_ready (rs := [7]) (by kernel_rfl) (by simp) ?_
        refine AllReady.cons rfl (fun K hK => ?_) AllReady.nil
        refine step_append_mine _ (by rfl) _ _ 25 (by rfl) W0.heap.size 46 i0 _ 2 16 Try.underlying25 hi hz0 hz1 hz2 rfl (by omega) _ (0 + pk) ([] ++ cs (l.take pk)) (by rfl) HO4.out ⟨q, 0, none⟩ 1 _ (cs [(X, Y)]) (by rfl) rfl (pair_news HP4.out.1 HP4.out.2.1) (cs_one _) (by unfold maxLen; omega) (by omega) HB4.out.size ?_
        intro u2 v5 own2 gr2
        have HB5 : Hid (Below W0.heap.size W0 v5) := Lib.hid (HB4.out.grown gr2 HB4.out.size (fun b hb => (HO4.out.lt b hb).1))
        have HO5 : Hid (v5.ownsRow W0.heap.size 46 2 u2 (0 + pk + 1) ([] ++ cs (l.take pk) ++ cs [(X, Y)])) := Lib.hid own2
        clear own2 gr2
        refine hK _ _ ?_
        clear hK K
        refine wpAny_ready (rs := [8]) (by kernel_rfl) (by simp) ?_
        refine AllReady.cons rfl (fun K hK => ?_) AllReady.nil
        go_simp
        try (refine hK _ _ ?_; clear hK K)
        refine wpAny_done (by kernel_rfl) ?_ _
        go_wp2_with (at_builtin; refine step_round _ rfl _ _ 25 rfl W0.heap.size 46 i0 (.agg #[.int .i64 0, .int .i64 0]) Try.underlying25 hi hz0 hz1 hz2 rfl _ (0 + pk + 1) (l.take pk ++ [(X, Y)]) rfl (by rw [cs_append]; exact HO5.out) (some ⟨b, off2, none⟩) _ _ (l.drop pk) rfl HL2.out (HD.out.kept (HbW.out.trans (HB5.out.mono HbW.out.size))) (fun h => by cases h) (by omega) HB5.out.size ?_)
        intro u3 v6 own3 hb3
        obtain ⟨ao9, cap9, rfl, _⟩ := own_shape own3 HLL.out
        have Own3 : Hid (v6.ownsRow w.heap.size 46 2 (.slice ao9 (pk + 1 + (n - pk)) cap9) (ins l X Y).length (cs (ins l X Y))) := Lib.hid (HINS.out _ _ (own_base HbW.out.size own3))
        have HB6 : Hid (Below w.heap.size w v6) := Lib.hid (HbW.out.trans ((HB5.out.trans hb3).mono HbW.out.size))
        clear own3 hb3
        go_wp2_with fail
        go_ret2
        exact ⟨_, rfl, Own3.out, HB6.out⟩
      refine AllReady.cons rfl (fun K hK => ?_) AllReady.nil
      go_simp
      try (refine hK _ _ ?_; clear hK K)
      obtain ⟨v2, hv2⟩ : ∃ v2, v1.alloc (Obj.cells #[Value.int IntKind.i64 X, Value.int IntKind.i64 Y] 46) = v2 := ⟨_, rfl⟩
      rw [hv2]
      have HA2 : Hid (Below v1.heap.size v1 v2) := Lib.hid (by rw [← hv2]; exact (Below.refl _ _).alloc (Nat.le_refl _) _)
      have HB2 : Hid (Below W0.heap.size W0 v2) := Lib.hid (HB1.out.trans (HA2.out.mono HB1.out.size))
      obtain ⟨q, hq0⟩ : ∃ q, v1.heap.size = q := ⟨_, rfl⟩
      have HP2 : Hid (v2.cell? ⟨q, 0, none⟩ = some (.int .i64 X) ∧ v2.cell? ⟨q, 1, none⟩ = some (.int .i64 Y) ∧ q < v2.heap.size) := Lib.hid (by rw [← hq0, ← hv2]; simp)
      rw [hq0]
      clear hq0 hv2
      refine wpAny_ready (rs := [0, 3]) (by kernel_rfl) (by simp) ?_
      refine AllReady.cons rfl (fun K hK => ?_) ?_
      · go_simp
        try (refine hK _ _ ?_; clear hK K)
        obtain ⟨v3, hv3⟩ : ∃ v3, v2.alloc (Obj.cells #[] 46) = v3 := ⟨_, rfl⟩
        rw [hv3]
        have HA3 : Hid (Below v2.heap.size v2 v3) := Lib.hid (by rw [← hv3]; exact (Below.refl _ _).alloc (Nat.le_refl _) _)
        have HB3 : Hid (Below W0.heap.size W0 v3) := Lib.hid (HB2.out.trans (HA3.out.mono HB2.out.size))
        obtain ⟨e0, he0⟩ : ∃ e0, v2.heap.size = e0 := ⟨_, rfl⟩
        have HE3 : Hid (v3.ownsRow W0.heap.size 46 2 (.slice (some ⟨e0, 0, none⟩) 0 0) 0 []) := Lib.hid (by rw [← he0, ← hv3]; exact World.ownsRow_lit v2 #[] 0 HB2.out.size (by unfold maxLen; omega) rfl)
        have hqe : q ≠ e0 := by rw [← he0]; have := HP2.out.2.2; omega
        have HP3 : Hid (v3.cell? ⟨q, 0, none⟩ = some (.int .i64 X) ∧ v3.cell? ⟨q, 1, none⟩ = some (.int .i64 Y) ∧ q < v3.heap.size) := Lib.hid ⟨cell_old HA3.out HP2.out.1, cell_old HA3.out HP2.out.2.1, Nat.lt_of_lt_of_le HP2.out.2.2 HA3.out.size⟩
        rw [he0]
        clear he0 hv3
        refine wpAny_ready (rs := [3]) (by kernel_rfl) (by simp) ?_
        refine AllReady.cons rfl (fun K hK => ?_) AllReady.nil
        go_simp
        try (refine hK _ _ ?_; clear hK K)
        refine wpAny_ready (rs := [4]) (by kernel_rfl) (by simp) ?_
        refine AllReady.cons rfl (fun K hK => ?_) AllReady.nil
        refine step_append_mine _ (by rfl) _ _ 25 (by rfl) W0.heap.size 46 i0 _ 2 16 Try.underlying25 hi hz0 hz1 hz2 rfl (by omega) _ 0 [] (by rfl) HE3.out ⟨b, off, none⟩ pk _ (cs (l.take pk)) (by rfl) HL1.out (HN1.out _ HB3.out) (cs_one _) (by unfold maxLen; omega) (by omega) HB3.out.size ?_
        intro u1 v4 own1 gr1
        have HB4 : Hid (Below W0.heap.size W0 v4) := Lib.hid (HB3.out.grown gr1 HB3.out.size (fun b hb => (HE3.out.lt b hb).1))
        have HO4 : Hid (v4.ownsRow W0.heap.size 46 2 u1 (0 + pk) ([] ++ cs (l.take pk))) := Lib.hid own1
        have HP4 : Hid (v4.cell? ⟨q, 0, none⟩ = some (.int .i64 X) ∧ v4.cell? ⟨q, 1, none⟩ = some (.int .i64 Y) ∧ q < v4.heap.size) := Lib.hid ⟨gr1.cell HP3.out.1 (fun h => hqe (Option.some.inj h)), gr1.cell HP3.out.2.1 (fun h => hqe (Option.some.inj h)), Nat.lt_of_lt_of_le HP3.out.2.2 gr1.size⟩
        clear own1 gr1
        refine hK _ _ ?_
        clear hK K
        refine wpAny_ready (rs := [7]) (by kernel_rfl) (by simp) ?_
        refine AllReady.cons rfl (fun K hK => ?_) AllReady.nil
        refine step_append_mine _ (by rfl) _ _ 25 (by rfl) W0.heap.size 46 i0 _ 2 16 Try.underlying25 hi hz0 hz1 hz2 rfl (by omega) _ (0 + pk) ([] ++ cs (l.take pk)) (by rfl) HO4.out ⟨q, 0, none⟩ 1 _ (cs [(X, Y)]) (by rfl) rfl (pair_news HP4.out.1 HP4.out.2.1) (cs_one _) (by unfold maxLen; omega) (by omega) HB4.out.size ?_
        intro u2 v5 own2 gr2
        have HB5 : Hid (Below W0.heap.size W0 v5) := Lib.hid (HB4.out.grown gr2 HB4.out.size (fun b hb => (HO4.out.lt b hb).1))
        have HO5 : Hid (v5.ownsRow W0.heap.size 46 2 u2 (0 + pk + 1) ([] ++ cs (l.take pk) ++ cs [(X, Y)])) := Lib.hid own2
        clear own2 gr2
        refine hK _ _ ?_
        clear hK K
        refine wpAny_ready (rs := [8]) (by kernel_rfl) (by simp) ?_
        refine AllReady.cons rfl (fun K hK => ?_) AllReady.nil
        go_simp
        try (refine hK _ _ ?_; clear hK K)
        refine wpAny_done (by kernel_rfl) ?_ _
        go_wp2_with (at_builtin; refine step_round _ rfl _ _ 25 rfl W0.heap.size 46 i0 (.agg #[.int .i64 0, .int .i64 0]) Try.underlying25 hi hz0 hz1 hz2 rfl _ (0 + pk + 1) (l.take pk ++ [(X, Y)]) rfl (by rw [cs_append]; exact HO5.out) (some ⟨b, off2, none⟩) _ _ (l.drop pk) rfl HL2.out (HD.out.kept (HbW.out.trans (HB5.out.mono HbW.out.size))) (fun h => by cases h) (by omega) HB5.out.size ?_)
        intro u3 v6 own3 hb3
        obtain ⟨ao9, cap9, rfl, _⟩ := own_shape own3 HLL.out
        have Own3 : Hid (v6.ownsRow w.heap.size 46 2 (.slice ao9 (pk + 1 + (n - pk)) cap9) (ins l X Y).length (cs (ins l X Y))) := Lib.hid (HINS.out _ _ (own_base HbW.out.size own3))
        have HB6 : Hid (Below w.heap.size w v6) := Lib.hid (HbW.out.trans ((HB5.out.trans hb3).mono HbW.out.size))
        clear own3 hb3
        go_wp2_with fail
        go_ret2
        exact ⟨_, rfl, Own3.out, HB6.out⟩
      refine AllReady.cons rfl (fun K hK => ?_) AllReady.nil
      go_simp
      try (refine hK _ _ ?_; clear hK K)
      refine wpAny_ready (rs := [0]) (by kernel_rfl) (by simp) ?_
      refine AllReady.cons rfl (fun K hK => ?_) AllReady.nil
      go_simp
      try (refine hK _ _ ?_; clear hK K)
      obtain ⟨v3, hv3⟩ : ∃ v3, v2.alloc (Obj.cells #[] 46) = v3 := ⟨_, rfl⟩
      rw [hv3]
      have HA3 : Hid (Below v2.heap.size v2 v3) := Lib.hid (by rw [← hv3]; exact (Below.refl _ _).alloc (Nat.le_refl _) _)
      have HB3 : Hid (Below W0.heap.size W0 v3) := Lib.hid (HB2.out.trans (HA3.out.mono HB2.out.size))
      obtain ⟨e0, he0⟩ : ∃ e0, v2.heap.size = e0 := ⟨_, rfl⟩
      have HE3 : Hid (v3.ownsRow W0.heap.size 46 2 (.slice (some ⟨e0, 0, none⟩) 0 0) 0 []) := Lib.hid (by rw [← he0, ← hv3]; exact World.ownsRow_lit v2 #[] 0 HB2.out.size (by unfold maxLen; omega) rfl)
      have hqe : q ≠ e0 := by rw [← he0]; have := HP2.out.2.2; omega
      have HP3 : Hid (v3.cell? ⟨q, 0, none⟩ = some (.int .i64 X) ∧ v3.cell? ⟨q, 1, none⟩ = some (.int .i64 Y) ∧ q < v3.heap.size) := Lib.hid ⟨cell_old HA3.out HP2.out.1, cell_old HA3.out HP2.out.2.1, Nat.lt_of_lt_of_le HP2.out.2.2 HA3.out.size⟩
      rw [he0]
      clear he0 hv3
      refine wpAny_ready (rs := [4]) (by kernel_rfl) (by simp) ?_
      refine AllReady.cons rfl (fun K hK => ?_) AllReady.nil
      refine step_append_mine _ (by rfl) _ _ 25 (by rfl) W0.heap.size 46 i0 _ 2 16 Try.underlying25 hi hz0 hz1 hz2 rfl (by omega) _ 0 [] (by rfl) HE3.out ⟨b, off, none⟩ pk _ (cs (l.take pk)) (by rfl) HL1.out (HN1.out _ HB3.out) (cs_one _) (by unfold maxLen; omega) (by omega) HB3.out.size ?_
      intro u1 v4 own1 gr1
      have HB4 : Hid (Below W0.heap.size W0 v4) := Lib.hid (HB3.out.grown gr1 HB3.out.size (fun b hb => (HE3.out.lt b hb).1))
      have HO4 : Hid (v4.ownsRow W0.heap.size 46 2 u1 (0 + pk) ([] ++ cs (l.take pk))) := Lib.hid own1
      have HP4 : Hid (v4.cell? ⟨q, 0, none⟩ = some (.int .i64 X) ∧ v4.cell? ⟨q, 1, none⟩ = some (.int .i64 Y) ∧ q < v4.heap.size) := Lib.hid ⟨gr1.cell HP3.out.1 (fun h => hqe (Option.some.inj h)), gr1.cell HP3.out.2.1 (fun h => hqe (Option.some.inj h)), Nat.lt_of_lt_of_le HP3.out.2.2 gr1.size⟩
      clear own1 gr1
      refine hK _ _ ?_
      clear hK K
      refine wpAny_ready (rs := [7]) (by kernel_rfl) (by simp) ?_
      refine AllReady.cons rfl (fun K hK => ?_) AllReady.nil
      refine step_append_mine _ (by rfl) _ _ 25 (by rfl) W0.heap.size 46 i0 _ 2 16 Try.underlying25 hi hz0 hz1 hz2 rfl (by omega) _ (0 + pk) ([] ++ cs (l.take pk)) (by rfl) HO4.out ⟨q, 0, none⟩ 1 _ (cs [(X, Y)]) (by rfl) rfl (pair_news HP4.out.1 HP4.out.2.1) (cs_one _) (by unfold maxLen; omega) (by omega) HB4.out.size ?_
      intro u2 v5 own2 gr2
      have HB5 : Hid (Below W0.heap.size W0 v5) := Lib.hid (HB4.out.grown gr2 HB4.out.size (fun b hb => (HO4.out.lt b hb).1))
      have HO5 : Hid (v5.ownsRow W0.heap.size 46 2 u2 (0 + pk + 1) ([] ++ cs (l.take pk) ++ cs [(X, Y)])) := Lib.hid own2
      clear own2 gr2
      refine hK _ _ ?_
      clear hK K
      refine wpAny_ready (rs := [8]) (by kernel_rfl) (by simp) ?_
      refine AllReady.cons rfl (fun K hK => ?_) AllReady.nil
      go_simp
      try (refine hK _ _ ?_; clear hK K)
      refine wpAny_done (by kernel_rfl) ?_ _
      go_wp2_with (at_builtin; refine step_round _ rfl _ _ 25 rfl W0.heap.size 46 i0 (.agg #[.int .i64 0, .int .i64 0]) Try.underlying25 hi hz0 hz1 hz2 rfl _ (0 + pk + 1) (l.take pk ++ [(X, Y)]) rfl (by rw [cs_append]; exact HO5.out) (some ⟨b, off2, none⟩) _ _ (l.drop pk) rfl HL2.out (HD.out.kept (HbW.out.trans (HB5.out.mono HbW.out.size))) (fun h => by cases h) (by omega) HB5.out.size ?_)
      intro u3 v6 own3 hb3
      obtain ⟨ao9, cap9, rfl, _⟩ := own_shape own3 HLL.out
      have Own3 : Hid (v6.ownsRow w.heap.size 46 2 (.slice ao9 (pk + 1 + (n - pk)) cap9) (ins l X Y).length (cs (ins l X Y))) := Lib.hid (HINS.out _ _ (own_base HbW.out.size own3))
      have HB6 : Hid (Below w.heap.size w v6) := Lib.hid (HbW.out.trans ((HB5.out.trans hb3).mono HbW.out.size))
      clear own3 hb3
      go_wp2_with fail
      go_ret2
      exact ⟨_, rfl, Own3.out, HB6.out⟩
    · obtain ⟨j, hj⟩ : ∃ j, k = j + 1 := ⟨k - 1, by omega⟩
      have hsub : (k : Int) - 1 = (j : Int) := by omega
      have hwj : IntKind.i64.wrap (j : Int) = (j : Int) := IntWalk.i64_in _ (by omega)
      have hjn : j < n := by omega
      have hj0 : (0 : Int) ≤ j := by omega
      have hj2 : (j : Int) < n := by omega
      have hbw : Below w.heap.size w wr := HbW.out.trans (hbel.mono HbW.out.size)
      have h0 := cell_old hbw (Hc.out j hjn).1
      have h1 := cell_old hbw (Hc.out j hjn).2
      have hgt : (0 : Int) < (k : Int) := by omega
      have hgtN : 0 < k := by omega
      obtain ⟨P, hP⟩ : ∃ P : Int, ca l j = P := ⟨_, rfl⟩
      obtain ⟨Q, hQ⟩ : ∃ Q : Int, cb l j = Q := ⟨_, rfl⟩
      rw [hP] at h0
      rw [hQ] at h1
      have c0g : ∀ n os, (Sort.grow (wr.drewN n) os).cell? ⟨w.heap.size, 0, none⟩ = some (.int .i64 X) := cell_grown (World.block_lt_of_cell? _ _ c0) c0
      have c1g : ∀ n os, (Sort.grow (wr.drewN n) os).cell? ⟨w.heap.size, 1, none⟩ = some (.int .i64 Y) := cell_grown (World.block_lt_of_cell? _ _ c1) c1
      have p0g : ∀ n os, (Sort.grow (wr.drewN n) os).cell? ⟨b, off + j * 2, none⟩ = some (.int .i64 P) := cell_grown (World.block_lt_of_cell? _ _ h0) h0
      have p1g : ∀ n os, (Sort.grow (wr.drewN n) os).cell? ⟨b, off + j * 2 + 1, none⟩ = some (.int .i64 Q) := cell_grown (World.block_lt_of_cell? _ _ h1) h1
      by_cases hjk : pk ≤ j
      · have hlt := Hhigh.out j hjk hjn
        rw [hP, hQ] at hlt
        have hro : ∀ n os, Calls Try.prog 56 #[.agg #[.int .i64 X, .int .i64 Y], .agg #[.int .i64 P, .int .i64 Q]] (Sort.grow (wr.drewN n) os) fun e w' => e = .returned (.bool true) ∧ ∃ q os', w' = Sort.grow ((Sort.grow (wr.drewN n) os).drewN q) os' := fun n os => by have := neLess_grown X Y P Q (Sort.grow (wr.drewN n) os); rw [hlt] at this; exact this
        clear hlt hP hQ hbw hj
        go_wp2_with fail
        refine wp_region_quiet_grown mixedT (by kernel_rfl) ?_
        repeat (go_big_quiet_step (first | refine Calls.grown_of (hro _ _)))
        refine wpQuiet_nil ?_
        intro _ hwz
        obtain ⟨⟨nq, osq⟩, hwz2⟩ := hwz
        subst hwz2
        have HB0 : Hid (Below W0.heap.size W0 (Sort.grow (wr.drewN nq) osq)) := Lib.hid (hbel.trans ((grown_below ⟨⟨nq, osq⟩, rfl⟩).mono hbel.size))
        clear c0 c1 h0 h1 c0g c1g p0g p1g hro hbel
        generalize Sort.grow (wr.drewN nq) osq = w4 at *
        go_wp2_with fail
        go_roundw
        case rel => exact ⟨j, hjk, by omega, by go_num, HB0.out⟩
        case measure => simp [intOf]; omega
      · have hlt := Hlow.out j (by omega)
        rw [hP, hQ] at hlt
        obtain rfl : pk = k := by omega
        have hro : ∀ n os, Calls Try.prog 56 #[.agg #[.int .i64 X, .int .i64 Y], .agg #[.int .i64 P, .int .i64 Q]] (Sort.grow (wr.drewN n) os) fun e w' => e = .returned (.bool false) ∧ ∃ q os', w' = Sort.grow ((Sort.grow (wr.drewN n) os).drewN q) os' := fun n os => by have := neLess_grown X Y P Q (Sort.grow (wr.drewN n) os); rw [hlt] at this; exact this
        clear hlt hP hQ hbw hj
        go_wp2_with fail
        refine wp_region_quiet_grown mixedT (by kernel_rfl) ?_
        repeat (go_big_quiet_step (first | refine Calls.grown_of (hro _ _)))
        refine wpQuiet_nil ?_
        intro _ hwz
        obtain ⟨⟨nq, osq⟩, hwz2⟩ := hwz
        subst hwz2
        have HB0 : Hid (Below W0.heap.size W0 (Sort.grow (wr.drewN nq) osq)) := Lib.hid (hbel.trans ((grown_below ⟨⟨nq, osq⟩, rfl⟩).mono hbel.size))
        clear c0 c1 h0 h1 c0g c1g p0g p1g hro hbel
        generalize Sort.grow (wr.drewN nq) osq = w4 at *
        go_wp2_with fail
        have c0 : w4.drew.cell? ⟨w.heap.size, 0, none⟩ = some (.int .i64 X) := cell_old HB0.out.drew C0.out
        have c1 : w4.drew.cell? ⟨w.heap.size, 1, none⟩ = some (.int .i64 Y) := cell_old HB0.out.drew C1.out
        have HB1 : Hid (Below W0.heap.size W0 w4.drew) := Lib.hid HB0.out.drew
        refine wp_region_any (by kernel_rfl) ?_
        change wpAny _ _ _ _ _ _ _ (World.drew _)
        obtain ⟨v1, hv1⟩ : ∃ v1, w4.drew = v1 := ⟨_, rfl⟩
        rw [hv1] at c0 c1 HB1 ⊢
        clear hv1
        refine wpAny_take (i := 1) (v := ?_) rfl (by kernel_rfl) (by kernel_rfl) (by kernel_rfl) (fun _ _ _ h => h) (Or.inl ⟨by rfl, ?y1⟩) ?_
        case y1 => intro w; go_simp; first | done | with_reducible rfl
        refine wpAny_take (i := 2) (v := ?_) rfl (by kernel_rfl) (by kernel_rfl) (by kernel_rfl) (fun _ _ _ h => h) (Or.inl ⟨by rfl, ?y2⟩) ?_
        case y2 => intro w; go_simp; first | done | with_reducible rfl
        refine wpAny_ready (rs := [0, 3, 5]) (by kernel_rfl) (by simp) ?_
        refine AllReady.cons rfl (fun K hK => ?_) ?_
        · go_simp
          try (refine hK _ _ ?_; clear hK K)
          obtain ⟨v2, hv2⟩ : ∃ v2, v1.alloc (Obj.cells #[] 46) = v2 := ⟨_, rfl⟩
          rw [hv2]
          have HA2 : Hid (Below v1.heap.size v1 v2) := Lib.hid (by rw [← hv2]; exact (Below.refl _ _).alloc (Nat.le_refl _) _)
          have HB2 : Hid (Below W0.heap.size W0 v2) := Lib.hid (HB1.out.trans (HA2.out.mono HB1.out.size))
          obtain ⟨e0, he0⟩ : ∃ e0, v1.heap.size = e0 := ⟨_, rfl⟩
          have HE2 : Hid (v2.ownsRow W0.heap.size 46 2 (.slice (some ⟨e0, 0, none⟩) 0 0) 0 []) := Lib.hid (by rw [← he0, ← hv2]; exact World.ownsRow_lit v1 #[] 0 HB1.out.size (by unfold maxLen; omega) rfl)
          rw [he0]
          clear he0 hv2
          have c0 := cell_old HB2.out C0.out
          have c1 := cell_old HB2.out C1.out
          refine wpAny_ready (rs := [3, 5]) (by kernel_rfl) (by simp) ?_
          refine AllReady.cons rfl (fun K hK => ?_) ?_
          · go_simp
            try (refine hK _ _ ?_; clear hK K)
            refine wpAny_ready (rs := [4, 5]) (by kernel_rfl) (by simp) ?_
            refine AllReady.cons rfl (fun K hK => ?_) ?_
            · refine step_append_mine _ (by rfl) _ _ 25 (by rfl) W0.heap.size 46 i0 _ 2 16 Try.underlying25 hi hz0 hz1 hz2 rfl (by omega) _ 0 [] (by rfl) HE2.out ⟨b, off, none⟩ pk _ (cs (l.take pk)) (by rfl) HL1.out (HN1.out _ HB2.out) (cs_one _) (by unfold maxLen; omega) (by omega) HB2.out.size ?_
              intro u1 v3 own1 gr1
              have HB3 : Hid (Below W0.heap.size W0 v3) := Lib.hid (HB2.out.grown gr1 HB2.out.size (fun b hb => (HE2.out.lt b hb).1))
              have HO3 : Hid (v3.ownsRow W0.heap.size 46 2 u1 (0 + pk) ([] ++ cs (l.take pk))) := Lib.hid own1
              clear own1 gr1
              refine hK _ _ ?_
              clear hK K
              have c0 := cell_old HB3.out C0.out
              have c1 := cell_old HB3.out C1.out
              refine wpAny_ready (rs := [5]) (by kernel_rfl) (by simp) ?_
              refine AllReady.cons rfl (fun K hK => ?_) AllReady.nil
              go_simp
              try (refine hK _ _ ?_; clear hK K)
              refine wpAny_ready (rs := [6]) (by kernel_rfl) (by simp) ?_
              refine AllReady.cons rfl (fun K hK => ?_) AllReady.nil
              go_simp
              try (refine hK _ _ ?_; clear hK K)
              obtain ⟨v4, hv4⟩ : ∃ v4, v3.alloc (Obj.cells #[Value.int IntKind.i64 X, Value.int IntKind.i64 Y] 46) = v4 := ⟨_, rfl⟩
              rw [hv4]
              have HA4 : Hid (Below v3.heap.size v3 v4) := Lib.hid (by rw [← hv4]; exact (Below.refl _ _).alloc (Nat.le_refl _) _)
              have HB4 : Hid (Below W0.heap.size W0 v4) := Lib.hid (HB3.out.trans (HA4.out.mono HB3.out.size))
              obtain ⟨q, hq0⟩ : ∃ q, v3.heap.size = q := ⟨_, rfl⟩
              have HP4 : Hid (v4.cell? ⟨q, 0, none⟩ = some (.int .i64 X) ∧ v4.cell? ⟨q, 1, none⟩ = some (.int .i64 Y) ∧ q < v4.heap.size) := Lib.hid (by rw [← hq0, ← hv4]; simp)
              have HO4 : Hid (v4.ownsRow W0.heap.size 46 2 u1 (0 + pk) ([] ++ cs (l.take pk))) := Lib.hid (own_later HO3.out HA4.out)
              rw [hq0]
              clear hq0 hv4
              refine wpAny_ready (rs := [7]) (by kernel_rfl) (by simp) ?_
              refine AllReady.cons rfl (fun K hK => ?_) AllReady.nil
              refine step_append_mine _ (by rfl) _ _ 25 (by rfl) W0.heap.size 46 i0 _ 2 16 Try.underlying25 hi hz0 hz1 hz2 rfl (by omega) _ (0 + pk) ([] ++ cs (l.take pk)) (by rfl) HO4.out ⟨q, 0, none⟩ 1 _ (cs [(X, Y)]) (by rfl) rfl (pair_news HP4.out.1 HP4.out.2.1) (cs_one _) (by unfold maxLen; omega) (by omega) HB4.out.size ?_
              intro u2 v5 own2 gr2
              have HB5 : Hid (Below W0.heap.size W0 v5) := Lib.hid (HB4.out.grown gr2 HB4.out.size (fun b hb => (HO4.out.lt b hb).1))
              have HO5 : Hid (v5.ownsRow W0.heap.size 46 2 u2 (0 + pk + 1) ([] ++ cs (l.take pk) ++ cs [(X, Y)])) := Lib.hid own2
              clear own2 gr2
              refine hK _ _ ?_
              clear hK K
              refine wpAny_ready (rs := [8]) (by kernel_rfl) (by simp) ?_
              refine AllReady.cons rfl (fun K hK => ?_) AllReady.nil
              go_simp
              try (refine hK _ _ ?_; clear hK K)
              refine wpAny_done (by kernel_rfl) ?_ _
              go_wp2_with (at_builtin; refine step_round _ rfl _ _ 25 rfl W0.heap.size 46 i0 (.agg #[.int .i64 0, .int .i64 0]) Try.underlying25 hi hz0 hz1 hz2 rfl _ (0 + pk + 1) (l.take pk ++ [(X, Y)]) rfl (by rw [cs_append]; exact HO5.out) (some ⟨b, off2, none⟩) _ _ (l.drop pk) rfl HL2.out (HD.out.kept (HbW.out.trans (HB5.out.mono HbW.out.size))) (fun h => by cases h) (by omega) HB5.out.size ?_)
              intro u3 v6 own3 hb3
              obtain ⟨ao9, cap9, rfl, _⟩ := own_shape own3 HLL.out
              have Own3 : Hid (v6.ownsRow w.heap.size 46 2 (.slice ao9 (pk + 1 + (n - pk)) cap9) (ins l X Y).length (cs (ins l X Y))) := Lib.hid (HINS.out _ _ (own_base HbW.out.size own3))
              have HB6 : Hid (Below w.heap.size w v6) := Lib.hid (HbW.out.trans ((HB5.out.trans hb3).mono HbW.out.size))
              clear own3 hb3
              go_wp2_with fail
              go_ret2
              exact ⟨_, rfl, Own3.out, HB6.out⟩
            refine AllReady.cons rfl (fun K hK => ?_) AllReady.nil
            go_simp
            try (refine hK _ _ ?_; clear hK K)
            refine wpAny_ready (rs := [4, 6]) (by kernel_rfl) (by simp) ?_
            refine AllReady.cons rfl (fun K hK => ?_) ?_
            · refine step_append_mine _ (by rfl) _ _ 25 (by rfl) W0.heap.size 46 i0 _ 2 16 Try.underlying25 hi hz0 hz1 hz2 rfl (by omega) _ 0 [] (by rfl) HE2.out ⟨b, off, none⟩ pk _ (cs (l.take pk)) (by rfl) HL1.out (HN1.out _ HB2.out) (cs_one _) (by unfold maxLen; omega) (by omega) HB2.out.size ?_
              intro u1 v3 own1 gr1
              have HB3 : Hid (Below W0.heap.size W0 v3) := Lib.hid (HB2.out.grown gr1 HB2.out.size (fun b hb => (HE2.out.lt b hb).1))
              have HO3 : Hid (v3.ownsRow W0.heap.size 46 2 u1 (0 + pk) ([] ++ cs (l.take pk))) := Lib.hid own1
              clear own1 gr1
              refine hK _ _ ?_
              clear hK K
              refine wpAny_ready (rs := [6]) (by kernel_rfl) (by simp) ?_
              refine AllReady.cons rfl (fun K hK => ?_) AllReady.nil
              go_simp
              try (refine hK _ _ ?_; clear hK K)
              obtain ⟨v4, hv4⟩ : ∃ v4, v3.alloc (Obj.cells #[Value.int IntKind.i64 X, Value.int IntKind.i64 Y] 46) = v4 := ⟨_, rfl⟩
              rw [hv4]
              have HA4 : Hid (Below v3.heap.size v3 v4) := Lib.hid (by rw [← hv4]; exact (Below.refl _ _).alloc (Nat.le_refl _) _)
              have HB4 : Hid (Below W0.heap.size W0 v4) := Lib.hid (HB3.out.trans (HA4.out.mono HB3.out.size))
              obtain ⟨q, hq0⟩ : ∃ q, v3.heap.size = q := ⟨_, rfl⟩
              have HP4 : Hid (v4.cell? ⟨q, 0, none⟩ = some (.int .i64 X) ∧ v4.cell? ⟨q, 1, none⟩ = some (.int .i64 Y) ∧ q < v4.heap.size) := Lib.hid (by rw [← hq0, ← hv4]; simp)
              have HO4 : Hid (v4.ownsRow W0.heap.size 46 2 u1 (0 + pk) ([] ++ cs (l.take pk))) := Lib.hid (own_later HO3.out HA4.out)
              rw [hq0]
              clear hq0 hv4
              refine wpAny_ready (rs := [7]) (by kernel_rfl) (by simp) ?_
              refine AllReady.cons rfl (fun K hK => ?_) AllReady.nil
              refine step_append_mine _ (by rfl) _ _ 25 (by rfl) W0.heap.size 46 i0 _ 2 16 Try.underlying25 hi hz0 hz1 hz2 rfl (by omega) _ (0 + pk) ([] ++ cs (l.take pk)) (by rfl) HO4.out ⟨q, 0, none⟩ 1 _ (cs [(X, Y)]) (by rfl) rfl (pair_news HP4.out.1 HP4.out.2.1) (cs_one _) (by unfold maxLen; omega) (by omega) HB4.out.size ?_
              intro u2 v5 own2 gr2
              have HB5 : Hid (Below W0.heap.size W0 v5) := Lib.hid (HB4.out.grown gr2 HB4.out.size (fun b hb => (HO4.out.lt b hb).1))
              have HO5 : Hid (v5.ownsRow W0.heap.size 46 2 u2 (0 + pk + 1) ([] ++ cs (l.take pk) ++ cs [(X, Y)])) := Lib.hid own2
              clear own2 gr2
              refine hK _ _ ?_
              clear hK K
              refine wpAny_ready (rs := [8]) (by kernel_rfl) (by simp) ?_
              refine AllReady.cons rfl (fun K hK => ?_) AllReady.nil
              go_simp
              try (refine hK _ _ ?_; clear hK K)
              refine wpAny_done (by kernel_rfl) ?_ _
              go_wp2_with (at_builtin; refine step_round _ rfl _ _ 25 rfl W0.heap.size 46 i0 (.agg #[.int .i64 0, .int .i64 0]) Try.underlying25 hi hz0 hz1 hz2 rfl _ (0 + pk + 1) (l.take pk ++ [(X, Y)]) rfl (by rw [cs_append]; exact HO5.out) (some ⟨b, off2, none⟩) _ _ (l.drop pk) rfl HL2.out (HD.out.kept (HbW.out.trans (HB5.out.mono HbW.out.size))) (fun h => by cases h) (by omega) HB5.out.size ?_)
              intro u3 v6 own3 hb3
              obtain ⟨ao9, cap9, rfl, _⟩ := own_shape own3 HLL.out
              have Own3 : Hid (v6.ownsRow w.heap.size 46 2 (.slice ao9 (pk + 1 + (n - pk)) cap9) (ins l X Y).length (cs (ins l X Y))) := Lib.hid (HINS.out _ _ (own_base HbW.out.size own3))
              have HB6 : Hid (Below w.heap.size w v6) := Lib.hid (HbW.out.trans ((HB5.out.trans hb3).mono HbW.out.size))
              clear own3 hb3
              go_wp2_with fail
              go_ret2
              exact ⟨_, rfl, Own3.out, HB6.out⟩
            refine AllReady.cons rfl (fun K hK => ?_) AllReady.nil
            go_simp
            try (refine hK _ _ ?_; clear hK K)
            obtain ⟨v3, hv3⟩ : ∃ v3, v2.alloc (Obj.cells #[Value.int IntKind.i64 X, Value.int IntKind.i64 Y] 46) = v3 := ⟨_, rfl⟩
            rw [hv3]
            have HA3 : Hid (Below v2.heap.size v2 v3) := Lib.hid (by rw [← hv3]; exact (Below.refl _ _).alloc (Nat.le_refl _) _)
            have HB3 : Hid (Below W0.heap.size W0 v3) := Lib.hid (HB2.out.trans (HA3.out.mono HB2.out.size))
            obtain ⟨q, hq0⟩ : ∃ q, v2.heap.size = q := ⟨_, rfl⟩
            have HP3 : Hid (v3.cell? ⟨q, 0, none⟩ = some (.int .i64 X) ∧ v3.cell? ⟨q, 1, none⟩ = some (.int .i64 Y) ∧ q < v3.heap.size) := Lib.hid (by rw [← hq0, ← hv3]; simp)
            have hqe : q ≠ e0 := by rw [← hq0]; have := (HE2.out.lt e0 rfl).2; omega
            have HE3 : Hid (v3.ownsRow W0.heap.size 46 2 (.slice (some ⟨e0, 0, none⟩) 0 0) 0 []) := Lib.hid (own_later HE2.out HA3.out)
            rw [hq0]
            clear hq0 hv3
            refine wpAny_ready (rs := [4]) (by kernel_rfl) (by simp) ?_
            refine AllReady.cons rfl (fun K hK => ?_) AllReady.nil
            refine step_append_mine _ (by rfl) _ _ 25 (by rfl) W0.heap.size 46 i0 _ 2 16 Try.underlying25 hi hz0 hz1 hz2 rfl (by omega) _ 0 [] (by rfl) HE3.out ⟨b, off, none⟩ pk _ (cs (l.take pk)) (by rfl) HL1.out (HN1.out _ HB3.out) (cs_one _) (by unfold maxLen; omega) (by omega) HB3.out.size ?_
            intro u1 v4 own1 gr1
            have HB4 : Hid (Below W0.heap.size W0 v4) := Lib.hid (HB3.out.grown gr1 HB3.out.size (fun b hb => (HE3.out.lt b hb).1))
            have HO4 : Hid (v4.ownsRow W0.heap.size 46 2 u1 (0 + pk) ([] ++ cs (l.take pk))) := Lib.hid own1
            have HP4 : Hid (v4.cell? ⟨q, 0, none⟩ = some (.int .i64 X) ∧ v4.cell? ⟨q, 1, none⟩ = some (.int .i64 Y) ∧ q < v4.heap.size) := Lib.hid ⟨gr1.cell HP3.out.1 (fun h => hqe (Option.some.inj h)), gr1.cell HP3.out.2.1 (fun h => hqe (Option.some.inj h)), Nat.lt_of_lt_of_le HP3.out.2.2 gr1.size⟩
            clear own1 gr1
            refine hK _ _ ?_
            clear hK K
            refine wpAny_ready (rs := [7]) (by kernel_rfl) (by simp) ?_
            refine AllReady.cons rfl (fun K hK => ?_) AllReady.nil
            refine step_append_mine _ (by rfl) _ _ 25 (by rfl) W0.heap.size 46 i0 _ 2 16 Try.underlying25 hi hz0 hz1 hz2 rfl (by omega) _ (0 + pk) ([] ++ cs (l.take pk)) (by rfl) HO4.out ⟨q, 0, none⟩ 1 _ (cs [(X, Y)]) (by rfl) rfl (pair_news HP4.out.1 HP4.out.2.1) (cs_one _) (by unfold maxLen; omega) (by omega) HB4.out.size ?_
            intro u2 v5 own2 gr2
            have HB5 : Hid (Below W0.heap.size W0 v5) := Lib.hid (HB4.out.grown gr2 HB4.out.size (fun b hb => (HO4.out.lt b hb).1))
            have HO5 : Hid (v5.ownsRow W0.heap.size 46 2 u2 (0 + pk + 1) ([] ++ cs (l.take pk) ++ cs [(X, Y)])) := Lib.hid own2
            clear own2 gr2
            refine hK _ _ ?_
            clear hK K
            refine wpAny_ready (rs := [8]) (by kernel_rfl) (by simp) ?_
            refine AllReady.cons rfl (fun K hK => ?_) AllReady.nil
            go_simp
            try (refine hK _ _ ?_; clear hK K)
            refine wpAny_done (by kernel_rfl) ?_ _
            go_wp2_with (at_builtin; refine step_round _ rfl _ _ 25 rfl W0.heap.size 46 i0 (.agg #[.int .i64 0, .int .i64 0]) Try.underlying25 hi hz0 hz1 hz2 rfl _ (0 + pk + 1) (l.take pk ++ [(X, Y)]) rfl (by rw [cs_append]; exact HO5.out) (some ⟨b, off2, none⟩) _ _ (l.drop pk) rfl HL2.out (HD.out.kept (HbW.out.trans (HB5.out.mono HbW.out.size))) (fun h => by cases h) (by omega) HB5.out.size ?_)
            intro u3 v6 own3 hb3
            obtain ⟨ao9, cap9, rfl, _⟩ := own_shape own3 HLL.out
            have Own3 : Hid (v6.ownsRow w.heap.size 46 2 (.slice ao9 (pk + 1 + (n - pk)) cap9) (ins l X Y).length (cs (ins l X Y))) := Lib.hid (HINS.out _ _ (own_base HbW.out.size own3))
            have HB6 : Hid (Below w.heap.size w v6) := Lib.hid (HbW.out.trans ((HB5.out.trans hb3).mono HbW.out.size))
            clear own3 hb3
            go_wp2_with fail
            go_ret2
            exact ⟨_, rfl, Own3.out, HB6.out⟩
          refine AllReady.cons rfl (fun K hK => ?_) AllReady.nil
          go_simp
          try (refine hK _ _ ?_; clear hK K)
          refine wpAny_ready (rs := [3, 6]) (by kernel_rfl) (by simp) ?_
          refine AllReady.cons rfl (fun K hK => ?_) ?_
          · go_simp
            try (refine hK _ _ ?_; clear hK K)
            refine wpAny_ready (rs := [4, 6]) (by kernel_rfl) (by simp) ?_
            refine AllReady.cons rfl (fun K hK => ?_) ?_
            · refine step_append_mine _ (by rfl) _ _ 25 (by rfl) W0.heap.size 46 i0 _ 2 16 Try.underlying25 hi hz0 hz1 hz2 rfl (by omega) _ 0 [] (by rfl) HE2.out ⟨b, off, none⟩ pk _ (cs (l.take pk)) (by rfl) HL1.out (HN1.out _ HB2.out) (cs_one _) (by unfold maxLen; omega) (by omega) HB2.out.size ?_
              intro u1 v3 own1 gr1
              have HB3 : Hid (Below W0.heap.size W0 v3) := Lib.hid (HB2.out.grown gr1 HB2.out.size (fun b hb => (HE2.out.lt b hb).1))
              have HO3 : Hid (v3.ownsRow W0.heap.size 46 2 u1 (0 + pk) ([] ++ cs (l.take pk))) := Lib.hid own1
              clear own1 gr1
              refine hK _ _ ?_
              clear hK K
              refine wpAny_ready (rs := [6]) (by kernel_rfl) (by simp) ?_
              refine AllReady.cons rfl (fun K hK => ?_) AllReady.nil
              go_simp
              try (refine hK _ _ ?_; clear hK K)
              obtain ⟨v4, hv4⟩ : ∃ v4, v3.alloc (Obj.cells #[Value.int IntKind.i64 X, Value.int IntKind.i64 Y] 46) = v4 := ⟨_, rfl⟩
              rw [hv4]
              have HA4 : Hid (Below v3.heap.size v3 v4) := Lib.hid (by rw [← hv4]; exact (Below.refl _ _).alloc (Nat.le_refl _) _)
              have HB4 : Hid (Below W0.heap.size W0 v4) := Lib.hid (HB3.out.trans (HA4.out.mono HB3.out.size))
              obtain ⟨q, hq0⟩ : ∃ q, v3.heap.size = q := ⟨_, rfl⟩
              have HP4 : Hid (v4.cell? ⟨q, 0, none⟩ = some (.int .i64 X) ∧ v4.cell? ⟨q, 1, none⟩ = some (.int .i64 Y) ∧ q < v4.heap.size) := Lib.hid (by rw [← hq0, ← hv4]; simp)
              have HO4 : Hid (v4.ownsRow W0.heap.size 46 2 u1 (0 + pk) ([] ++ cs (l.take pk))) := Lib.hid (own_later HO3.out HA4.out)
              rw [hq0]
              clear hq0 hv4
              refine wpAny_ready (rs := [7]) (by kernel_rfl) (by simp) ?_
              refine AllReady.cons rfl (fun K hK => ?_) AllReady.nil
              refine step_append_mine _ (by rfl) _ _ 25 (by rfl) W0.heap.size 46 i0 _ 2 16 Try.underlying25 hi hz0 hz1 hz2 rfl (by omega) _ (0 + pk) ([] ++ cs (l.take pk)) (by rfl) HO4.out ⟨q, 0, none⟩ 1 _ (cs [(X, Y)]) (by rfl) rfl (pair_news HP4.out.1 HP4.out.2.1) (cs_one _) (by unfold maxLen; omega) (by omega) HB4.out.size ?_
              intro u2 v5 own2 gr2
              have HB5 : Hid (Below W0.heap.size W0 v5) := Lib.hid (HB4.out.grown gr2 HB4.out.size (fun b hb => (HO4.out.lt b hb).1))
              have HO5 : Hid (v5.ownsRow W0.heap.size 46 2 u2 (0 + pk + 1) ([] ++ cs (l.take pk) ++ cs [(X, Y)])) := Lib.hid own2
              clear own2 gr2
              refine hK _ _ ?_
              clear hK K
              refine wpAny_ready (rs := [8]) (by kernel_rfl) (by simp) ?_
              refine AllReady.cons rfl (fun K hK => ?_) AllReady.nil
              go_simp
              try (refine hK _ _ ?_; clear hK K)
              refine wpAny_done (by kernel_rfl) ?_ _
              go_wp2_with (at_builtin; refine step_round _ rfl _ _ 25 rfl W0.heap.size 46 i0 (.agg #[.int .i64 0, .int .i64 0]) Try.underlying25 hi hz0 hz1 hz2 rfl _ (0 + pk + 1) (l.take pk ++ [(X, Y)]) rfl (by rw [cs_append]; exact HO5.out) (some ⟨b, off2, none⟩) _ _ (l.drop pk) rfl HL2.out (HD.out.kept (HbW.out.trans (HB5.out.mono HbW.out.size))) (fun h => by cases h) (by omega) HB5.out.size ?_)
              intro u3 v6 own3 hb3
              obtain ⟨ao9, cap9, rfl, _⟩ := own_shape own3 HLL.out
              have Own3 : Hid (v6.ownsRow w.heap.size 46 2 (.slice ao9 (pk + 1 + (n - pk)) cap9) (ins l X Y).length (cs (ins l X Y))) := Lib.hid (HINS.out _ _ (own_base HbW.out.size own3))
              have HB6 : Hid (Below w.heap.size w v6) := Lib.hid (HbW.out.trans ((HB5.out.trans hb3).mono HbW.out.size))
              clear own3 hb3
              go_wp2_with fail
              go_ret2
              exact ⟨_, rfl, Own3.out, HB6.out⟩
            refine AllReady.cons rfl (fun K hK => ?_) AllReady.nil
            go_simp
            try (refine hK _ _ ?_; clear hK K)
            obtain ⟨v3, hv3⟩ : ∃ v3, v2.alloc (Obj.cells #[Value.int IntKind.i64 X, Value.int IntKind.i64 Y] 46) = v3 := ⟨_, rfl⟩
            rw [hv3]
            have HA3 : Hid (Below v2.heap.size v2 v3) := Lib.hid (by rw [← hv3]; exact (Below.refl _ _).alloc (Nat.le_refl _) _)
            have HB3 : Hid (Below W0.heap.size W0 v3) := Lib.hid (HB2.out.trans (HA3.out.mono HB2.out.size))
            obtain ⟨q, hq0⟩ : ∃ q, v2.heap.size = q := ⟨_, rfl⟩
            have HP3 : Hid (v3.cell? ⟨q, 0, none⟩ = some (.int .i64 X) ∧ v3.cell? ⟨q, 1, none⟩ = some (.int .i64 Y) ∧ q < v3.heap.size) := Lib.hid (by rw [← hq0, ← hv3]; simp)
            have hqe : q ≠ e0 := by rw [← hq0]; have := (HE2.out.lt e0 rfl).2; omega
            have HE3 : Hid (v3.ownsRow W0.heap.size 46 2 (.slice (some ⟨e0, 0, none⟩) 0 0) 0 []) := Lib.hid (own_later HE2.out HA3.out)
            rw [hq0]
            clear hq0 hv3
            refine wpAny_ready (rs := [4]) (by kernel_rfl) (by simp) ?_
            refine AllReady.cons rfl (fun K hK => ?_) AllReady.nil
            refine step_append_mine _ (by rfl) _ _ 25 (by rfl) W0.heap.size 46 i0 _ 2 16 Try.underlying25 hi hz0 hz1 hz2 rfl (by omega) _ 0 [] (by rfl) HE3.out ⟨b, off, none⟩ pk _ (cs (l.take pk)) (by rfl) HL1.out (HN1.out _ HB3.out) (cs_one _) (by unfold maxLen; omega) (by omega) HB3.out.size ?_
            intro u1 v4 own1 gr1
            have HB4 : Hid (Below W0.heap.size W0 v4) := Lib.hid (HB3.out.grown gr1 HB3.out.size (fun b hb => (HE3.out.lt b hb).1))
            have HO4 : Hid (v4.ownsRow W0.heap.size 46 2 u1 (0 + pk) ([] ++ cs (l.take pk))) := Lib.hid own1
            have HP4 : Hid (v4.cell? ⟨q, 0, none⟩ = some (.int .i64 X) ∧ v4.cell? ⟨q, 1, none⟩ = some (.int .i64 Y) ∧ q < v4.heap.size) := Lib.hid ⟨gr1.cell HP3.out.1 (fun h => hqe (Option.some.inj h)), gr1.cell HP3.out.2.1 (fun h => hqe (Option.some.inj h)), Nat.lt_of_lt_of_le HP3.out.2.2 gr1.size⟩
            clear own1 gr1
            refine hK _ _ ?_
            clear hK K
            refine wpAny_ready (rs := [7]) (by kernel_rfl) (by simp) ?_
            refine AllReady.cons rfl (fun K hK => ?_) AllReady.nil
            refine step_append_mine _ (by rfl) _ _ 25 (by rfl) W0.heap.size 46 i0 _ 2 16 Try.underlying25 hi hz0 hz1 hz2 rfl (by omega) _ (0 + pk) ([] ++ cs (l.take pk)) (by rfl) HO4.out ⟨q, 0, none⟩ 1 _ (cs [(X, Y)]) (by rfl) rfl (pair_news HP4.out.1 HP4.out.2.1) (cs_one _) (by unfold maxLen; omega) (by omega) HB4.out.size ?_
            intro u2 v5 own2 gr2
            have HB5 : Hid (Below W0.heap.size W0 v5) := Lib.hid (HB4.out.grown gr2 HB4.out.size (fun b hb => (HO4.out.lt b hb).1))
            have HO5 : Hid (v5.ownsRow W0.heap.size 46 2 u2 (0 + pk + 1) ([] ++ cs (l.take pk) ++ cs [(X, Y)])) := Lib.hid own2
            clear own2 gr2
            refine hK _ _ ?_
            clear hK K
            refine wpAny_ready (rs := [8]) (by kernel_rfl) (by simp) ?_
            refine AllReady.cons rfl (fun K hK => ?_) AllReady.nil
            go_simp
            try (refine hK _ _ ?_; clear hK K)
            refine wpAny_done (by kernel_rfl) ?_ _
            go_wp2_with (at_builtin; refine step_round _ rfl _ _ 25 rfl W0.heap.size 46 i0 (.agg #[.int .i64 0, .int .i64 0]) Try.underlying25 hi hz0 hz1 hz2 rfl _ (0 + pk + 1) (l.take pk ++ [(X, Y)]) rfl (by rw [cs_append]; exact HO5.out) (some ⟨b, off2, none⟩) _ _ (l.drop pk) rfl HL2.out (HD.out.kept (HbW.out.trans (HB5.out.mono HbW.out.size))) (fun h => by cases h) (by omega) HB5.out.size ?_)
            intro u3 v6 own3 hb3
            obtain ⟨ao9, cap9, rfl, _⟩ := own_shape own3 HLL.out
            have Own3 : Hid (v6.ownsRow w.heap.size 46 2 (.slice ao9 (pk + 1 + (n - pk)) cap9) (ins l X Y).length (cs (ins l X Y))) := Lib.hid (HINS.out _ _ (own_base HbW.out.size own3))
            have HB6 : Hid (Below w.heap.size w v6) := Lib.hid (HbW.out.trans ((HB5.out.trans hb3).mono HbW.out.size))
            clear own3 hb3
            go_wp2_with fail
            go_ret2
            exact ⟨_, rfl, Own3.out, HB6.out⟩
          refine AllReady.cons rfl (fun K hK => ?_) AllReady.nil
          go_simp
          try (refine hK _ _ ?_; clear hK K)
          obtain ⟨v3, hv3⟩ : ∃ v3, v2.alloc (Obj.cells #[Value.int IntKind.i64 X, Value.int IntKind.i64 Y] 46) = v3 := ⟨_, rfl⟩
          rw [hv3]
          have HA3 : Hid (Below v2.heap.size v2 v3) := Lib.hid (by rw [← hv3]; exact (Below.refl _ _).alloc (Nat.le_refl _) _)
          have HB3 : Hid (Below W0.heap.size W0 v3) := Lib.hid (HB2.out.trans (HA3.out.mono HB2.out.size))
          obtain ⟨q, hq0⟩ : ∃ q, v2.heap.size = q := ⟨_, rfl⟩
          have HP3 : Hid (v3.cell? ⟨q, 0, none⟩ = some (.int .i64 X) ∧ v3.cell? ⟨q, 1, none⟩ = some (.int .i64 Y) ∧ q < v3.heap.size) := Lib.hid (by rw [← hq0, ← hv3]; simp)
          have hqe : q ≠ e0 := by rw [← hq0]; have := (HE2.out.lt e0 rfl).2; omega
          have HE3 : Hid (v3.ownsRow W0.heap.size 46 2 (.slice (some ⟨e0, 0, none⟩) 0 0) 0 []) := Lib.hid (own_later HE2.out HA3.out)
          rw [hq0]
          clear hq0 hv3
          refine wpAny_ready (rs := [3]) (by kernel_rfl) (by simp) ?_
          refine AllReady.cons rfl (fun K hK => ?_) AllReady.nil
          go_simp
          try (refine hK _ _ ?_; clear hK K)
          refine wpAny_ready (rs := [4]) (by kernel_rfl) (by simp) ?_
          refine AllReady.cons rfl (fun K hK => ?_) AllReady.nil
          refine step_append_mine _ (by rfl) _ _ 25 (by rfl) W0.heap.size 46 i0 _ 2 16 Try.underlying25 hi hz0 hz1 hz2 rfl (by omega) _ 0 [] (by rfl) HE3.out ⟨b, off, none⟩ pk _ (cs (l.take pk)) (by rfl) HL1.out (HN1.out _ HB3.out) (cs_one _) (by unfold maxLen; omega) (by omega) HB3.out.size ?_
          intro u1 v4 own1 gr1
          have HB4 : Hid (Below W0.heap.size W0 v4) := Lib.hid (HB3.out.grown gr1 HB3.out.size (fun b hb => (HE3.out.lt b hb).1))
          have HO4 : Hid (v4.ownsRow W0.heap.size 46 2 u1 (0 + pk) ([] ++ cs (l.take pk))) := Lib.hid own1
          have HP4 : Hid (v4.cell? ⟨q, 0, none⟩ = some (.int .i64 X) ∧ v4.cell? ⟨q, 1, none⟩ = some (.int .i64 Y) ∧ q < v4.heap.size) := Lib.hid ⟨gr1.cell HP3.out.1 (fun h => hqe (Option.some.inj h)), gr1.cell HP3.out.2.1 (fun h => hqe (Option.some.inj h)), Nat.lt_of_lt_of_le HP3.out.2.2 gr1.size⟩
          clear own1 gr1
          refine hK _ _ ?_
          clear hK K
          refine wpAny_ready (rs := [7]) (by kernel_rfl) (by simp) ?_
          refine AllReady.cons rfl (fun K hK => ?_) AllReady.nil
          refine step_append_mine _ (by rfl) _ _ 25 (by rfl) W0.heap.size 46 i0 _ 2 16 Try.underlying25 hi hz0 hz1 hz2 rfl (by omega) _ (0 + pk) ([] ++ cs (l.take pk)) (by rfl) HO4.out ⟨q, 0, none⟩ 1 _ (cs [(X, Y)]) (by rfl) rfl (pair_news HP4.out.1 HP4.out.2.1) (cs_one _) (by unfold maxLen; omega) (by omega) HB4.out.size ?_
          intro u2 v5 own2 gr2
          have HB5 : Hid (Below W0.heap.size W0 v5) := Lib.hid (HB4.out.grown gr2 HB4.out.size (fun b hb => (HO4.out.lt b hb).1))
          have HO5 : Hid (v5.ownsRow W0.heap.size 46 2 u2 (0 + pk + 1) ([] ++ cs (l.take pk) ++ cs [(X, Y)])) := Lib.hid own2
          clear own2 gr2
          refine hK _ _ ?_
          clear hK K
          refine wpAny_ready (rs := [8]) (by kernel_rfl) (by simp) ?_
          refine AllReady.cons rfl (fun K hK => ?_) AllReady.nil
          go_simp
          try (refine hK _ _ ?_; clear hK K)
          refine wpAny_done (by kernel_rfl) ?_ _
          go_wp2_with (at_builtin; refine step_round _ rfl _ _ 25 rfl W0.heap.size 46 i0 (.agg #[.int .i64 0, .int .i64 0]) Try.underlying25 hi hz0 hz1 hz2 rfl _ (0 + pk + 1) (l.take pk ++ [(X, Y)]) rfl (by rw [cs_append]; exact HO5.out) (some ⟨b, off2, none⟩) _ _ (l.drop pk) rfl HL2.out (HD.out.kept (HbW.out.trans (HB5.out.mono HbW.out.size))) (fun h => by cases h) (by omega) HB5.out.size ?_)
          intro u3 v6 own3 hb3
          obtain ⟨ao9, cap9, rfl, _⟩ := own_shape own3 HLL.out
          have Own3 : Hid (v6.ownsRow w.heap.size 46 2 (.slice ao9 (pk + 1 + (n - pk)) cap9) (ins l X Y).length (cs (ins l X Y))) := Lib.hid (HINS.out _ _ (own_base HbW.out.size own3))
          have HB6 : Hid (Below w.heap.size w v6) := Lib.hid (HbW.out.trans ((HB5.out.trans hb3).mono HbW.out.size))
          clear own3 hb3
          go_wp2_with fail
          go_ret2
          exact ⟨_, rfl, Own3.out, HB6.out⟩
        refine AllReady.cons rfl (fun K hK => ?_) ?_
        · go_simp
          try (refine hK _ _ ?_; clear hK K)
          refine wpAny_ready (rs := [0, 5]) (by kernel_rfl) (by simp) ?_
          refine AllReady.cons rfl (fun K hK => ?_) ?_
          · go_simp
            try (refine hK _ _ ?_; clear hK K)
            obtain ⟨v2, hv2⟩ : ∃ v2, v1.alloc (Obj.cells #[] 46) = v2 := ⟨_, rfl⟩
            rw [hv2]
            have HA2 : Hid (Below v1.heap.size v1 v2) := Lib.hid (by rw [← hv2]; exact (Below.refl _ _).alloc (Nat.le_refl _) _)
            have HB2 : Hid (Below W0.heap.size W0 v2) := Lib.hid (HB1.out.trans (HA2.out.mono HB1.out.size))
            obtain ⟨e0, he0⟩ : ∃ e0, v1.heap.size = e0 := ⟨_, rfl⟩
            have HE2 : Hid (v2.ownsRow W0.heap.size 46 2 (.slice (some ⟨e0, 0, none⟩) 0 0) 0 []) := Lib.hid (by rw [← he0, ← hv2]; exact World.ownsRow_lit v1 #[] 0 HB1.out.size (by unfold maxLen; omega) rfl)
            rw [he0]
            clear he0 hv2
            have c0 := cell_old HB2.out C0.out
            have c1 := cell_old HB2.out C1.out
            refine wpAny_ready (rs := [4, 5]) (by kernel_rfl) (by simp) ?_
            refine AllReady.cons rfl (fun K hK => ?_) ?_
            · refine step_append_mine _ (by rfl) _ _ 25 (by rfl) W0.heap.size 46 i0 _ 2 16 Try.underlying25 hi hz0 hz1 hz2 rfl (by omega) _ 0 [] (by rfl) HE2.out ⟨b, off, none⟩ pk _ (cs (l.take pk)) (by rfl) HL1.out (HN1.out _ HB2.out) (cs_one _) (by unfold maxLen; omega) (by omega) HB2.out.size ?_
              intro u1 v3 own1 gr1
              have HB3 : Hid (Below W0.heap.size W0 v3) := Lib.hid (HB2.out.grown gr1 HB2.out.size (fun b hb => (HE2.out.lt b hb).1))
              have HO3 : Hid (v3.ownsRow W0.heap.size 46 2 u1 (0 + pk) ([] ++ cs (l.take pk))) := Lib.hid own1
              clear own1 gr1
              refine hK _ _ ?_
              clear hK K
              have c0 := cell_old HB3.out C0.out
              have c1 := cell_old HB3.out C1.out
              refine wpAny_ready (rs := [5]) (by kernel_rfl) (by simp) ?_
              refine AllReady.cons rfl (fun K hK => ?_) AllReady.nil
              go_simp
              try (refine hK _ _ ?_; clear hK K)
              refine wpAny_ready (rs := [6]) (by kernel_rfl) (by simp) ?_
              refine AllReady.cons rfl (fun K hK => ?_) AllReady.nil
              go_simp
              try (refine hK _ _ ?_; clear hK K)
              obtain ⟨v4, hv4⟩ : ∃ v4, v3.alloc (Obj.cells #[Value.int IntKind.i64 X, Value.int IntKind.i64 Y] 46) = v4 := ⟨_, rfl⟩
              rw [hv4]
              have HA4 : Hid (Below v3.heap.size v3 v4) := Lib.hid (by rw [← hv4]; exact (Below.refl _ _).alloc (Nat.le_refl _) _)
              have HB4 : Hid (Below W0.heap.size W0 v4) := Lib.hid (HB3.out.trans (HA4.out.mono HB3.out.size))
              obtain ⟨q, hq0⟩ : ∃ q, v3.heap.size = q := ⟨_, rfl⟩
              have HP4 : Hid (v4.cell? ⟨q, 0, none⟩ = some (.int .i64 X) ∧ v4.cell? ⟨q, 1, none⟩ = some (.int .i64 Y) ∧ q < v4.heap.size) := Lib.hid (by rw [← hq0, ← hv4]; simp)
              have HO4 : Hid (v4.ownsRow W0.heap.size 46 2 u1 (0 + pk) ([] ++ cs (l.take pk))) := Lib.hid (own_later HO3.out HA4.out)
              rw [hq0]
              clear hq0 hv4
              refine wpAny_ready (rs := [7]) (by kernel_rfl) (by simp) ?_
              refine AllReady.cons rfl (fun K hK => ?_) AllReady.nil
              refine step_append_mine _ (by rfl) _ _ 25 (by rfl) W0.heap.size 46 i0 _ 2 16 Try.underlying25 hi hz0 hz1 hz2 rfl (by omega) _ (0 + pk) ([] ++ cs (l.take pk)) (by rfl) HO4.out ⟨q, 0, none⟩ 1 _ (cs [(X, Y)]) (by rfl) rfl (pair_news HP4.out.1 HP4.out.2.1) (cs_one _) (by unfold maxLen; omega) (by omega) HB4.out.size ?_
              intro u2 v5 own2 gr2
              have HB5 : Hid (Below W0.heap.size W0 v5) := Lib.hid (HB4.out.grown gr2 HB4.out.size (fun b hb => (HO4.out.lt b hb).1))
              have HO5 : Hid (v5.ownsRow W0.heap.size 46 2 u2 (0 + pk + 1) ([] ++ cs (l.take pk) ++ cs [(X, Y)])) := Lib.hid own2
              clear own2 gr2
              refine hK _ _ ?_
              clear hK K
              refine wpAny_ready (rs := [8]) (by kernel_rfl) (by simp) ?_
              refine AllReady.cons rfl (fun K hK => ?_) AllReady.nil
              go_simp
              try (refine hK _ _ ?_; clear hK K)
              refine wpAny_done (by kernel_rfl) ?_ _
              go_wp2_with (at_builtin; refine step_round _ rfl _ _ 25 rfl W0.heap.size 46 i0 (.agg #[.int .i64 0, .int .i64 0]) Try.underlying25 hi hz0 hz1 hz2 rfl _ (0 + pk + 1) (l.take pk ++ [(X, Y)]) rfl (by rw [cs_append]; exact HO5.out) (some ⟨b, off2, none⟩) _ _ (l.drop pk) rfl HL2.out (HD.out.kept (HbW.out.trans (HB5.out.mono HbW.out.size))) (fun h => by cases h) (by omega) HB5.out.size ?_)
              intro u3 v6 own3 hb3
              obtain ⟨ao9, cap9, rfl, _⟩ := own_shape own3 HLL.out
              have Own3 : Hid (v6.ownsRow w.heap.size 46 2 (.slice ao9 (pk + 1 + (n - pk)) cap9) (ins l X Y).length (cs (ins l X Y))) := Lib.hid (HINS.out _ _ (own_base HbW.out.size own3))
              have HB6 : Hid (Below w.heap.size w v6) := Lib.hid (HbW.out.trans ((HB5.out.trans hb3).mono HbW.out.size))
              clear own3 hb3
              go_wp2_with fail
              go_ret2
              exact ⟨_, rfl, Own3.out, HB6.out⟩
            refine AllReady.cons rfl (fun K hK => ?_) AllReady.nil
            go_simp
            try (refine hK _ _ ?_; clear hK K)
            refine wpAny_ready (rs := [4, 6]) (by kernel_rfl) (by simp) ?_
            refine AllReady.cons rfl (fun K hK => ?_) ?_
            · refine step_append_mine _ (by rfl) _ _ 25 (by rfl) W0.heap.size 46 i0 _ 2 16 Try.underlying25 hi hz0 hz1 hz2 rfl (by omega) _ 0 [] (by rfl) HE2.out ⟨b, off, none⟩ pk _ (cs (l.take pk)) (by rfl) HL1.out (HN1.out _ HB2.out) (cs_one _) (by unfold maxLen; omega) (by omega) HB2.out.size ?_
              intro u1 v3 own1 gr1
              have HB3 : Hid (Below W0.heap.size W0 v3) := Lib.hid (HB2.out.grown gr1 HB2.out.size (fun b hb => (HE2.out.lt b hb).1))
              have HO3 : Hid (v3.ownsRow W0.heap.size 46 2 u1 (0 + pk) ([] ++ cs (l.take pk))) := Lib.hid own1
              clear own1 gr1
              refine hK _ _ ?_
              clear hK K
              refine wpAny_ready (rs := [6]) (by kernel_rfl) (by simp) ?_
              refine AllReady.cons rfl (fun K hK => ?_) AllReady.nil
              go_simp
              try (refine hK _ _ ?_; clear hK K)
              obtain ⟨v4, hv4⟩ : ∃ v4, v3.alloc (Obj.cells #[Value.int IntKind.i64 X, Value.int IntKind.i64 Y] 46) = v4 := ⟨_, rfl⟩
              rw [hv4]
              have HA4 : Hid (Below v3.heap.size v3 v4) := Lib.hid (by rw [← hv4]; exact (Below.refl _ _).alloc (Nat.le_refl _) _)
              have HB4 : Hid (Below W0.heap.size W0 v4) := Lib.hid (HB3.out.trans (HA4.out.mono HB3.out.size))
              obtain ⟨q, hq0⟩ : ∃ q, v3.heap.size = q := ⟨_, rfl⟩
              have HP4 : Hid (v4.cell? ⟨q, 0, none⟩ = some (.int .i64 X) ∧ v4.cell? ⟨q, 1, none⟩ = some (.int .i64 Y) ∧ q < v4.heap.size) := Lib.hid (by rw [← hq0, ← hv4]; simp)
              have HO4 : Hid (v4.ownsRow W0.heap.size 46 2 u1 (0 + pk) ([] ++ cs (l.take pk))) := Lib.hid (own_later HO3.out HA4.out)
              rw [hq0]
              clear hq0 hv4
              refine wpAny_ready (rs := [7]) (by kernel_rfl) (by simp) ?_
              refine AllReady.cons rfl (fun K hK => ?_) AllReady.nil
              refine step_append_mine _ (by rfl) _ _ 25 (by rfl) W0.heap.size 46 i0 _ 2 16 Try.underlying25 hi hz0 hz1 hz2 rfl (by omega) _ (0 + pk) ([] ++ cs (l.take pk)) (by rfl) HO4.out ⟨q, 0, none⟩ 1 _ (cs [(X, Y)]) (by rfl) rfl (pair_news HP4.out.1 HP4.out.2.1) (cs_one _) (by unfold maxLen; omega) (by omega) HB4.out.size ?_
              intro u2 v5 own2 gr2
              have HB5 : Hid (Below W0.heap.size W0 v5) := Lib.hid (HB4.out.grown gr2 HB4.out.size (fun b hb => (HO4.out.lt b hb).1))
              have HO5 : Hid (v5.ownsRow W0.heap.size 46 2 u2 (0 + pk + 1) ([] ++ cs (l.take pk) ++ cs [(X, Y)])) := Lib.hid own2
              clear own2 gr2
              refine hK _ _ ?_
              clear hK K
              refine wpAny_ready (rs := [8]) (by kernel_rfl) (by simp) ?_
              refine AllReady.cons rfl (fun K hK => ?_) AllReady.nil
              go_simp
              try (refine hK _ _ ?_; clear hK K)
              refine wpAny_done (by kernel_rfl) ?_ _
              go_wp2_with (at_builtin; refine step_round _ rfl _ _ 25 rfl W0.heap.size 46 i0 (.agg #[.int .i64 0, .int .i64 0]) Try.underlying25 hi hz0 hz1 hz2 rfl _ (0 + pk + 1) (l.take pk ++ [(X, Y)]) rfl (by rw [cs_append]; exact HO5.out) (some ⟨b, off2, none⟩) _ _ (l.drop pk) rfl HL2.out (HD.out.kept (HbW.out.trans (HB5.out.mono HbW.out.size))) (fun h => by cases h) (by omega) HB5.out.size ?_)
              intro u3 v6 own3 hb3
              obtain ⟨ao9, cap9, rfl, _⟩ := own_shape own3 HLL.out
              have Own3 : Hid (v6.ownsRow w.heap.size 46 2 (.slice ao9 (pk + 1 + (n - pk)) cap9) (ins l X Y).length (cs (ins l X Y))) := Lib.hid (HINS.out _ _ (own_base HbW.out.size own3))
              have HB6 : Hid (Below w.heap.size w v6) := Lib.hid (HbW.out.trans ((HB5.out.trans hb3).mono HbW.out.size))
              clear own3 hb3
              go_wp2_with fail
              go_ret2
              exact ⟨_, rfl, Own3.out, HB6.out⟩
            refine AllReady.cons rfl (fun K hK => ?_) AllReady.nil
            go_simp
            try (refine hK _ _ ?_; clear hK K)
            obtain ⟨v3, hv3⟩ : ∃ v3, v2.alloc (Obj.cells #[Value.int IntKind.i64 X, Value.int IntKind.i64 Y] 46) = v3 := ⟨_, rfl⟩
            rw [hv3]
            have HA3 : Hid (Below v2.heap.size v2 v3) := Lib.hid (by rw [← hv3]; exact (Below.refl _ _).alloc (Nat.le_refl _) _)
            have HB3 : Hid (Below W0.heap.size W0 v3) := Lib.hid (HB2.out.trans (HA3.out.mono HB2.out.size))
            obtain ⟨q, hq0⟩ : ∃ q, v2.heap.size = q := ⟨_, rfl⟩
            have HP3 : Hid (v3.cell? ⟨q, 0, none⟩ = some (.int .i64 X) ∧ v3.cell? ⟨q, 1, none⟩ = some (.int .i64 Y) ∧ q < v3.heap.size) := Lib.hid (by rw [← hq0, ← hv3]; simp)
            have hqe : q ≠ e0 := by rw [← hq0]; have := (HE2.out.lt e0 rfl).2; omega
            have HE3 : Hid (v3.ownsRow W0.heap.size 46 2 (.slice (some ⟨e0, 0, none⟩) 0 0) 0 []) := Lib.hid (own_later HE2.out HA3.out)
            rw [hq0]
            clear hq0 hv3
            refine wpAny_ready (rs := [4]) (by kernel_rfl) (by simp) ?_
            refine AllReady.cons rfl (fun K hK => ?_) AllReady.nil
            refine step_append_mine _ (by rfl) _ _ 25 (by rfl) W0.heap.size 46 i0 _ 2 16 Try.underlying25 hi hz0 hz1 hz2 rfl (by omega) _ 0 [] (by rfl) HE3.out ⟨b, off, none⟩ pk _ (cs (l.take pk)) (by rfl) HL1.out (HN1.out _ HB3.out) (cs_one _) (by unfold maxLen; omega) (by omega) HB3.out.size ?_
            intro u1 v4 own1 gr1
            have HB4 : Hid (Below W0.heap.size W0 v4) := Lib.hid (HB3.out.grown gr1 HB3.out.size (fun b hb => (HE3.out.lt b hb).1))
            have HO4 : Hid (v4.ownsRow W0.heap.size 46 2 u1 (0 + pk) ([] ++ cs (l.take pk))) := Lib.hid own1
            have HP4 : Hid (v4.cell? ⟨q, 0, none⟩ = some (.int .i64 X) ∧ v4.cell? ⟨q, 1, none⟩ = some (.int .i64 Y) ∧ q < v4.heap.size) := Lib.hid ⟨gr1.cell HP3.out.1 (fun h => hqe (Option.some.inj h)), gr1.cell HP3.out.2.1 (fun h => hqe (Option.some.inj h)), Nat.lt_of_lt_of_le HP3.out.2.2 gr1.size⟩
            clear own1 gr1
            refine hK _ _ ?_
            clear hK K
            refine wpAny_ready (rs := [7]) (by kernel_rfl) (by simp) ?_
            refine AllReady.cons rfl (fun K hK => ?_) AllReady.nil
            refine step_append_mine _ (by rfl) _ _ 25 (by rfl) W0.heap.size 46 i0 _ 2 16 Try.underlying25 hi hz0 hz1 hz2 rfl (by omega) _ (0 + pk) ([] ++ cs (l.take pk)) (by rfl) HO4.out ⟨q, 0, none⟩ 1 _ (cs [(X, Y)]) (by rfl) rfl (pair_news HP4.out.1 HP4.out.2.1) (cs_one _) (by unfold maxLen; omega) (by omega) HB4.out.size ?_
            intro u2 v5 own2 gr2
            have HB5 : Hid (Below W0.heap.size W0 v5) := Lib.hid (HB4.out.grown gr2 HB4.out.size (fun b hb => (HO4.out.lt b hb).1))
            have HO5 : Hid (v5.ownsRow W0.heap.size 46 2 u2 (0 + pk + 1) ([] ++ cs (l.take pk) ++ cs [(X, Y)])) := Lib.hid own2
            clear own2 gr2
            refine hK _ _ ?_
            clear hK K
            refine wpAny_ready (rs := [8]) (by kernel_rfl) (by simp) ?_
            refine AllReady.cons rfl (fun K hK => ?_) AllReady.nil
            go_simp
            try (refine hK _ _ ?_; clear hK K)
            refine wpAny_done (by kernel_rfl) ?_ _
            go_wp2_with (at_builtin; refine step_round _ rfl _ _ 25 rfl W0.heap.size 46 i0 (.agg #[.int .i64 0, .int .i64 0]) Try.underlying25 hi hz0 hz1 hz2 rfl _ (0 + pk + 1) (l.take pk ++ [(X, Y)]) rfl (by rw [cs_append]; exact HO5.out) (some ⟨b, off2, none⟩) _ _ (l.drop pk) rfl HL2.out (HD.out.kept (HbW.out.trans (HB5.out.mono HbW.out.size))) (fun h => by cases h) (by omega) HB5.out.size ?_)
            intro u3 v6 own3 hb3
            obtain ⟨ao9, cap9, rfl, _⟩ := own_shape own3 HLL.out
            have Own3 : Hid (v6.ownsRow w.heap.size 46 2 (.slice ao9 (pk + 1 + (n - pk)) cap9) (ins l X Y).length (cs (ins l X Y))) := Lib.hid (HINS.out _ _ (own_base HbW.out.size own3))
            have HB6 : Hid (Below w.heap.size w v6) := Lib.hid (HbW.out.trans ((HB5.out.trans hb3).mono HbW.out.size))
            clear own3 hb3
            go_wp2_with fail
            go_ret2
            exact ⟨_, rfl, Own3.out, HB6.out⟩
          refine AllReady.cons rfl (fun K hK => ?_) AllReady.nil
          go_simp
          try (refine hK _ _ ?_; clear hK K)
          refine wpAny_ready (rs := [0, 6]) (by kernel_rfl) (by simp) ?_
          refine AllReady.cons rfl (fun K hK => ?_) ?_
          · go_simp
            try (refine hK _ _ ?_; clear hK K)
            obtain ⟨v2, hv2⟩ : ∃ v2, v1.alloc (Obj.cells #[] 46) = v2 := ⟨_, rfl⟩
            rw [hv2]
            have HA2 : Hid (Below v1.heap.size v1 v2) := Lib.hid (by rw [← hv2]; exact (Below.refl _ _).alloc (Nat.le_refl _) _)
            have HB2 : Hid (Below W0.heap.size W0 v2) := Lib.hid (HB1.out.trans (HA2.out.mono HB1.out.size))
            obtain ⟨e0, he0⟩ : ∃ e0, v1.heap.size = e0 := ⟨_, rfl⟩
            have HE2 : Hid (v2.ownsRow W0.heap.size 46 2 (.slice (some ⟨e0, 0, none⟩) 0 0) 0 []) := Lib.hid (by rw [← he0, ← hv2]; exact World.ownsRow_lit v1 #[] 0 HB1.out.size (by unfold maxLen; omega) rfl)
            rw [he0]
            clear he0 hv2
            refine wpAny_ready (rs := [4, 6]) (by kernel_rfl) (by simp) ?_
            refine AllReady.cons rfl (fun K hK => ?_) ?_
            · refine step_append_mine _ (by rfl) _ _ 25 (by rfl) W0.heap.size 46 i0 _ 2 16 Try.underlying25 hi hz0 hz1 hz2 rfl (by omega) _ 0 [] (by rfl) HE2.out ⟨b, off, none⟩ pk _ (cs (l.take pk)) (by rfl) HL1.out (HN1.out _ HB2.out) (cs_one _) (by unfold maxLen; omega) (by omega) HB2.out.size ?_
              intro u1 v3 own1 gr1
              have HB3 : Hid (Below W0.heap.size W0 v3) := Lib.hid (HB2.out.grown gr1 HB2.out.size (fun b hb => (HE2.out.lt b hb).1))
              have HO3 : Hid (v3.ownsRow W0.heap.size 46 2 u1 (0 + pk) ([] ++ cs (l.take pk))) := Lib.hid own1
              clear own1 gr1
              refine hK _ _ ?_
              clear hK K
              refine wpAny_ready (rs := [6]) (by kernel_rfl) (by simp) ?_
              refine AllReady.cons rfl (fun K hK => ?_) AllReady.nil
              go_simp
              try (refine hK _ _ ?_; clear hK K)
              obtain ⟨v4, hv4⟩ : ∃ v4, v3.alloc (Obj.cells #[Value.int IntKind.i64 X, Value.int IntKind.i64 Y] 46) = v4 := ⟨_, rfl⟩
              rw [hv4]
              have HA4 : Hid (Below v3.heap.size v3 v4) := Lib.hid (by rw [← hv4]; exact (Below.refl _ _).alloc (Nat.le_refl _) _)
              have HB4 : Hid (Below W0.heap.size W0 v4) := Lib.hid (HB3.out.trans (HA4.out.mono HB3.out.size))
              obtain ⟨q, hq0⟩ : ∃ q, v3.heap.size = q := ⟨_, rfl⟩
              have HP4 : Hid (v4.cell? ⟨q, 0, none⟩ = some (.int .i64 X) ∧ v4.cell? ⟨q, 1, none⟩ = some (.int .i64 Y) ∧ q < v4.heap.size) := Lib.hid (by rw [← hq0, ← hv4]; simp)
              have HO4 : Hid (v4.ownsRow W0.heap.size 46 2 u1 (0 + pk) ([] ++ cs (l.take pk))) := Lib.hid (own_later HO3.out HA4.out)
              rw [hq0]
              clear hq0 hv4
              refine wpAny_ready (rs := [7]) (by kernel_rfl) (by simp) ?_
              refine AllReady.cons rfl (fun K hK => ?_) AllReady.nil
              refine step_append_mine _ (by rfl) _ _ 25 (by rfl) W0.heap.size 46 i0 _ 2 16 Try.underlying25 hi hz0 hz1 hz2 rfl (by omega) _ (0 + pk) ([] ++ cs (l.take pk)) (by rfl) HO4.out ⟨q, 0, none⟩ 1 _ (cs [(X, Y)]) (by rfl) rfl (pair_news HP4.out.1 HP4.out.2.1) (cs_one _) (by unfold maxLen; omega) (by omega) HB4.out.size ?_
              intro u2 v5 own2 gr2
              have HB5 : Hid (Below W0.heap.size W0 v5) := Lib.hid (HB4.out.grown gr2 HB4.out.size (fun b hb => (HO4.out.lt b hb).1))
              have HO5 : Hid (v5.ownsRow W0.heap.size 46 2 u2 (0 + pk + 1) ([] ++ cs (l.take pk) ++ cs [(X, Y)])) := Lib.hid own2
              clear own2 gr2
              refine hK _ _ ?_
              clear hK K
              refine wpAny_ready (rs := [8]) (by kernel_rfl) (by simp) ?_
              refine AllReady.cons rfl (fun K hK => ?_) AllReady.nil
              go_simp
              try (refine hK _ _ ?_; clear hK K)
              refine wpAny_done (by kernel_rfl) ?_ _
              go_wp2_with (at_builtin; refine step_round _ rfl _ _ 25 rfl W0.heap.size 46 i0 (.agg #[.int .i64 0, .int .i64 0]) Try.underlying25 hi hz0 hz1 hz2 rfl _ (0 + pk + 1) (l.take pk ++ [(X, Y)]) rfl (by rw [cs_append]; exact HO5.out) (some ⟨b, off2, none⟩) _ _ (l.drop pk) rfl HL2.out (HD.out.kept (HbW.out.trans (HB5.out.mono HbW.out.size))) (fun h => by cases h) (by omega) HB5.out.size ?_)
              intro u3 v6 own3 hb3
              obtain ⟨ao9, cap9, rfl, _⟩ := own_shape own3 HLL.out
              have Own3 : Hid (v6.ownsRow w.heap.size 46 2 (.slice ao9 (pk + 1 + (n - pk)) cap9) (ins l X Y).length (cs (ins l X Y))) := Lib.hid (HINS.out _ _ (own_base HbW.out.size own3))
              have HB6 : Hid (Below w.heap.size w v6) := Lib.hid (HbW.out.trans ((HB5.out.trans hb3).mono HbW.out.size))
              clear own3 hb3
              go_wp2_with fail
              go_ret2
              exact ⟨_, rfl, Own3.out, HB6.out⟩
            refine AllReady.cons rfl (fun K hK => ?_) AllReady.nil
            go_simp
            try (refine hK _ _ ?_; clear hK K)
            obtain ⟨v3, hv3⟩ : ∃ v3, v2.alloc (Obj.cells #[Value.int IntKind.i64 X, Value.int IntKind.i64 Y] 46) = v3 := ⟨_, rfl⟩
            rw [hv3]
            have HA3 : Hid (Below v2.heap.size v2 v3) := Lib.hid (by rw [← hv3]; exact (Below.refl _ _).alloc (Nat.le_refl _) _)
            have HB3 : Hid (Below W0.heap.size W0 v3) := Lib.hid (HB2.out.trans (HA3.out.mono HB2.out.size))
            obtain ⟨q, hq0⟩ : ∃ q, v2.heap.size = q := ⟨_, rfl⟩
            have HP3 : Hid (v3.cell? ⟨q, 0, none⟩ = some (.int .i64 X) ∧ v3.cell? ⟨q, 1, none⟩ = some (.int .i64 Y) ∧ q < v3.heap.size) := Lib.hid (by rw [← hq0, ← hv3]; simp)
            have hqe : q ≠ e0 := by rw [← hq0]; have := (HE2.out.lt e0 rfl).2; omega
            have HE3 : Hid (v3.ownsRow W0.heap.size 46 2 (.slice (some ⟨e0, 0, none⟩) 0 0) 0 []) := Lib.hid (own_later HE2.out HA3.out)
            rw [hq0]
            clear hq0 hv3
            refine wpAny_ready (rs := [4]) (by kernel_rfl) (by simp) ?_
            refine AllReady.cons rfl (fun K hK => ?_) AllReady.nil
            refine step_append_mine _ (by rfl) _ _ 25 (by rfl) W0.heap.size 46 i0 _ 2 16 Try.underlying25 hi hz0 hz1 hz2 rfl (by omega) _ 0 [] (by rfl) HE3.out ⟨b, off, none⟩ pk _ (cs (l.take pk)) (by rfl) HL1.out (HN1.out _ HB3.out) (cs_one _) (by unfold maxLen; omega) (by omega) HB3.out.size ?_
            intro u1 v4 own1 gr1
            have HB4 : Hid (Below W0.heap.size W0 v4) := Lib.hid (HB3.out.grown gr1 HB3.out.size (fun b hb => (HE3.out.lt b hb).1))
            have HO4 : Hid (v4.ownsRow W0.heap.size 46 2 u1 (0 + pk) ([] ++ cs (l.take pk))) := Lib.hid own1
            have HP4 : Hid (v4.cell? ⟨q, 0, none⟩ = some (.int .i64 X) ∧ v4.cell? ⟨q, 1, none⟩ = some (.int .i64 Y) ∧ q < v4.heap.size) := Lib.hid ⟨gr1.cell HP3.out.1 (fun h => hqe (Option.some.inj h)), gr1.cell HP3.out.2.1 (fun h => hqe (Option.some.inj h)), Nat.lt_of_lt_of_le HP3.out.2.2 gr1.size⟩
            clear own1 gr1
            refine hK _ _ ?_
            clear hK K
            refine wpAny_ready (rs := [7]) (by kernel_rfl) (by simp) ?_
            refine AllReady.cons rfl (fun K hK => ?_) AllReady.nil
            refine step_append_mine _ (by rfl) _ _ 25 (by rfl) W0.heap.size 46 i0 _ 2 16 Try.underlying25 hi hz0 hz1 hz2 rfl (by omega) _ (0 + pk) ([] ++ cs (l.take pk)) (by rfl) HO4.out ⟨q, 0, none⟩ 1 _ (cs [(X, Y)]) (by rfl) rfl (pair_news HP4.out.1 HP4.out.2.1) (cs_one _) (by unfold maxLen; omega) (by omega) HB4.out.size ?_
            intro u2 v5 own2 gr2
            have HB5 : Hid (Below W0.heap.size W0 v5) := Lib.hid (HB4.out.grown gr2 HB4.out.size (fun b hb => (HO4.out.lt b hb).1))
            have HO5 : Hid (v5.ownsRow W0.heap.size 46 2 u2 (0 + pk + 1) ([] ++ cs (l.take pk) ++ cs [(X, Y)])) := Lib.hid own2
            clear own2 gr2
            refine hK _ _ ?_
            clear hK K
            refine wpAny_ready (rs := [8]) (by kernel_rfl) (by simp) ?_
            refine AllReady.cons rfl (fun K hK => ?_) AllReady.nil
            go_simp
            try (refine hK _ _ ?_; clear hK K)
            refine wpAny_done (by kernel_rfl) ?_ _
            go_wp2_with (at_builtin; refine step_round _ rfl _ _ 25 rfl W0.heap.size 46 i0 (.agg #[.int .i64 0, .int .i64 0]) Try.underlying25 hi hz0 hz1 hz2 rfl _ (0 + pk + 1) (l.take pk ++ [(X, Y)]) rfl (by rw [cs_append]; exact HO5.out) (some ⟨b, off2, none⟩) _ _ (l.drop pk) rfl HL2.out (HD.out.kept (HbW.out.trans (HB5.out.mono HbW.out.size))) (fun h => by cases h) (by omega) HB5.out.size ?_)
            intro u3 v6 own3 hb3
            obtain ⟨ao9, cap9, rfl, _⟩ := own_shape own3 HLL.out
            have Own3 : Hid (v6.ownsRow w.heap.size 46 2 (.slice ao9 (pk + 1 + (n - pk)) cap9) (ins l X Y).length (cs (ins l X Y))) := Lib.hid (HINS.out _ _ (own_base HbW.out.size own3))
            have HB6 : Hid (Below w.heap.size w v6) := Lib.hid (HbW.out.trans ((HB5.out.trans hb3).mono HbW.out.size))
            clear own3 hb3
            go_wp2_with fail
            go_ret2
            exact ⟨_, rfl, Own3.out, HB6.out⟩
          refine AllReady.cons rfl (fun K hK => ?_) AllReady.nil
          go_simp
          try (refine hK _ _ ?_; clear hK K)
          obtain ⟨v2, hv2⟩ : ∃ v2, v1.alloc (Obj.cells #[Value.int IntKind.i64 X, Value.int IntKind.i64 Y] 46) = v2 := ⟨_, rfl⟩
          rw [hv2]
          have HA2 : Hid (Below v1.heap.size v1 v2) := Lib.hid (by rw [← hv2]; exact (Below.refl _ _).alloc (Nat.le_refl _) _)
          have HB2 : Hid (Below W0.heap.size W0 v2) := Lib.hid (HB1.out.trans (HA2.out.mono HB1.out.size))
          obtain ⟨q, hq0⟩ : ∃ q, v1.heap.size = q := ⟨_, rfl⟩
          have HP2 : Hid (v2.cell? ⟨q, 0, none⟩ = some (.int .i64 X) ∧ v2.cell? ⟨q, 1, none⟩ = some (.int .i64 Y) ∧ q < v2.heap.size) := Lib.hid (by rw [← hq0, ← hv2]; simp)
          rw [hq0]
          clear hq0 hv2
          refine wpAny_ready (rs := [0]) (by kernel_rfl) (by simp) ?_
          refine AllReady.cons rfl (fun K hK => ?_) AllReady.nil
          go_simp
          try (refine hK _ _ ?_; clear hK K)
          obtain ⟨v3, hv3⟩ : ∃ v3, v2.alloc (Obj.cells #[] 46) = v3 := ⟨_, rfl⟩
          rw [hv3]
          have HA3 : Hid (Below v2.heap.size v2 v3) := Lib.hid (by rw [← hv3]; exact (Below.refl _ _).alloc (Nat.le_refl _) _)
          have HB3 : Hid (Below W0.heap.size W0 v3) := Lib.hid (HB2.out.trans (HA3.out.mono HB2.out.size))
          obtain ⟨e0, he0⟩ : ∃ e0, v2.heap.size = e0 := ⟨_, rfl⟩
          have HE3 : Hid (v3.ownsRow W0.heap.size 46 2 (.slice (some ⟨e0, 0, none⟩) 0 0) 0 []) := Lib.hid (by rw [← he0, ← hv3]; exact World.ownsRow_lit v2 #[] 0 HB2.out.size (by unfold maxLen; omega) rfl)
          have hqe : q ≠ e0 := by rw [← he0]; have := HP2.out.2.2; omega
          have HP3 : Hid (v3.cell? ⟨q, 0, none⟩ = some (.int .i64 X) ∧ v3.cell? ⟨q, 1, none⟩ = some (.int .i64 Y) ∧ q < v3.heap.size) := Lib.hid ⟨cell_old HA3.out HP2.out.1, cell_old HA3.out HP2.out.2.1, Nat.lt_of_lt_of_le HP2.out.2.2 HA3.out.size⟩
          rw [he0]
          clear he0 hv3
          refine wpAny_ready (rs := [4]) (by kernel_rfl) (by simp) ?_
          refine AllReady.cons rfl (fun K hK => ?_) AllReady.nil
          refine step_append_mine _ (by rfl) _ _ 25 (by rfl) W0.heap.size 46 i0 _ 2 16 Try.underlying25 hi hz0 hz1 hz2 rfl (by omega) _ 0 [] (by rfl) HE3.out ⟨b, off, none⟩ pk _ (cs (l.take pk)) (by rfl) HL1.out (HN1.out _ HB3.out) (cs_one _) (by unfold maxLen; omega) (by omega) HB3.out.size ?_
          intro u1 v4 own1 gr1
          have HB4 : Hid (Below W0.heap.size W0 v4) := Lib.hid (HB3.out.grown gr1 HB3.out.size (fun b hb => (HE3.out.lt b hb).1))
          have HO4 : Hid (v4.ownsRow W0.heap.size 46 2 u1 (0 + pk) ([] ++ cs (l.take pk))) := Lib.hid own1
          have HP4 : Hid (v4.cell? ⟨q, 0, none⟩ = some (.int .i64 X) ∧ v4.cell? ⟨q, 1, none⟩ = some (.int .i64 Y) ∧ q < v4.heap.size) := Lib.hid ⟨gr1.cell HP3.out.1 (fun h => hqe (Option.some.inj h)), gr1.cell HP3.out.2.1 (fun h => hqe (Option.some.inj h)), Nat.lt_of_lt_of_le HP3.out.2.2 gr1.size⟩
          clear own1 gr1
          refine hK _ _ ?_
          clear hK K
          refine wpAny_ready (rs := [7]) (by kernel_rfl) (by simp) ?_
          refine AllReady.cons rfl (fun K hK => ?_) AllReady.nil
          refine step_append_mine _ (by rfl) _ _ 25 (by rfl) W0.heap.size 46 i0 _ 2 16 Try.underlying25 hi hz0 hz1 hz2 rfl (by omega) _ (0 + pk) ([] ++ cs (l.take pk)) (by rfl) HO4.out ⟨q, 0, none⟩ 1 _ (cs [(X, Y)]) (by rfl) rfl (pair_news HP4.out.1 HP4.out.2.1) (cs_one _) (by unfold maxLen; omega) (by omega) HB4.out.size ?_
          intro u2 v5 own2 gr2
          have HB5 : Hid (Below W0.heap.size W0 v5) := Lib.hid (HB4.out.grown gr2 HB4.out.size (fun b hb => (HO4.out.lt b hb).1))
          have HO5 : Hid (v5.ownsRow W0.heap.size 46 2 u2 (0 + pk + 1) ([] ++ cs (l.take pk) ++ cs [(X, Y)])) := Lib.hid own2
          clear own2 gr2
          refine hK _ _ ?_
          clear hK K
          refine wpAny_ready (rs := [8]) (by kernel_rfl) (by simp) ?_
          refine AllReady.cons rfl (fun K hK => ?_) AllReady.nil
          go_simp
          try (refine hK _ _ ?_; clear hK K)
          refine wpAny_done (by kernel_rfl) ?_ _
          go_wp2_with (at_builtin; refine step_round _ rfl _ _ 25 rfl W0.heap.size 46 i0 (.agg #[.int .i64 0, .int .i64 0]) Try.underlying25 hi hz0 hz1 hz2 rfl _ (0 + pk + 1) (l.take pk ++ [(X, Y)]) rfl (by rw [cs_append]; exact HO5.out) (some ⟨b, off2, none⟩) _ _ (l.drop pk) rfl HL2.out (HD.out.kept (HbW.out.trans (HB5.out.mono HbW.out.size))) (fun h => by cases h) (by omega) HB5.out.size ?_)
          intro u3 v6 own3 hb3
          obtain ⟨ao9, cap9, rfl, _⟩ := own_shape own3 HLL.out
          have Own3 : Hid (v6.ownsRow w.heap.size 46 2 (.slice ao9 (pk + 1 + (n - pk)) cap9) (ins l X Y).length (cs (ins l X Y))) := Lib.hid (HINS.out _ _ (own_base HbW.out.size own3))
          have HB6 : Hid (Below w.heap.size w v6) := Lib.hid (HbW.out.trans ((HB5.out.trans hb3).mono HbW.out.size))
          clear own3 hb3
          go_wp2_with fail
          go_ret2
          exact ⟨_, rfl, Own3.out, HB6.out⟩
        refine AllReady.cons rfl (fun K hK => ?_) AllReady.nil
        go_simp
        try (refine hK _ _ ?_; clear hK K)
        refine wpAny_ready (rs := [0, 3, 6]) (by kernel_rfl) (by simp) ?_
        refine AllReady.cons rfl (fun K hK => ?_) ?_
        · go_simp
          try (refine hK _ _ ?_; clear hK K)
          obtain ⟨v2, hv2⟩ : ∃ v2, v1.alloc (Obj.cells #[] 46) = v2 := ⟨_, rfl⟩
          rw [hv2]
          have HA2 : Hid (Below v1.heap.size v1 v2) := Lib.hid (by rw [← hv2]; exact (Below.refl _ _).alloc (Nat.le_refl _) _)
          have HB2 : Hid (Below W0.heap.size W0 v2) := Lib.hid (HB1.out.trans (HA2.out.mono HB1.out.size))
          obtain ⟨e0, he0⟩ : ∃ e0, v1.heap.size = e0 := ⟨_, rfl⟩
          have HE2 : Hid (v2.ownsRow W0.heap.size 46 2 (.slice (some ⟨e0, 0, none⟩) 0 0) 0 []) := Lib.hid (by rw [← he0, ← hv2]; exact World.ownsRow_lit v1 #[] 0 HB1.out.size (by unfold maxLen; omega) rfl)
          rw [he0]
          clear he0 hv2
          refine wpAny_ready (rs := [3, 6]) (by kernel_rfl) (by simp) ?_
          refine AllReady.cons rfl (fun K hK => ?_) ?_
          · go_simp
            try (refine hK _ _ ?_; clear hK K)
            refine wpAny_ready (rs := [4, 6]) (by kernel_rfl) (by simp) ?_
            refine AllReady.cons rfl (fun K hK => ?_) ?_
            · refine step_append_mine _ (by rfl) _ _ 25 (by rfl) W0.heap.size 46 i0 _ 2 16 Try.underlying25 hi hz0 hz1 hz2 rfl (by omega) _ 0 [] (by rfl) HE2.out ⟨b, off, none⟩ pk _ (cs (l.take pk)) (by rfl) HL1.out (HN1.out _ HB2.out) (cs_one _) (by unfold maxLen; omega) (by omega) HB2.out.size ?_
              intro u1 v3 own1 gr1
              have HB3 : Hid (Below W0.heap.size W0 v3) := Lib.hid (HB2.out.grown gr1 HB2.out.size (fun b hb => (HE2.out.lt b hb).1))
              have HO3 : Hid (v3.ownsRow W0.heap.size 46 2 u1 (0 + pk) ([] ++ cs (l.take pk))) := Lib.hid own1
              clear own1 gr1
              refine hK _ _ ?_
              clear hK K
              refine wpAny_ready (rs := [6]) (by kernel_rfl) (by simp) ?_
              refine AllReady.cons rfl (fun K hK => ?_) AllReady.nil
              go_simp
              try (refine hK _ _ ?_; clear hK K)
              obtain ⟨v4, hv4⟩ : ∃ v4, v3.alloc (Obj.cells #[Value.int IntKind.i64 X, Value.int IntKind.i64 Y] 46) = v4 := ⟨_, rfl⟩
              rw [hv4]
              have HA4 : Hid (Below v3.heap.size v3 v4) := Lib.hid (by rw [← hv4]; exact (Below.refl _ _).alloc (Nat.le_refl _) _)
              have HB4 : Hid (Below W0.heap.size W0 v4) := Lib.hid (HB3.out.trans (HA4.out.mono HB3.out.size))
              obtain ⟨q, hq0⟩ : ∃ q, v3.heap.size = q := ⟨_, rfl⟩
              have HP4 : Hid (v4.cell? ⟨q, 0, none⟩ = some (.int .i64 X) ∧ v4.cell? ⟨q, 1, none⟩ = some (.int .i64 Y) ∧ q < v4.heap.size) := Lib.hid (by rw [← hq0, ← hv4]; simp)
              have HO4 : Hid (v4.ownsRow W0.heap.size 46 2 u1 (0 + pk) ([] ++ cs (l.take pk))) := Lib.hid (own_later HO3.out HA4.out)
              rw [hq0]
              clear hq0 hv4
              refine wpAny_ready (rs := [7]) (by kernel_rfl) (by simp) ?_
              refine AllReady.cons rfl (fun K hK => ?_) AllReady.nil
              refine step_append_mine _ (by rfl) _ _ 25 (by rfl) W0.heap.size 46 i0 _ 2 16 Try.underlying25 hi hz0 hz1 hz2 rfl (by omega) _ (0 + pk) ([] ++ cs (l.take pk)) (by rfl) HO4.out ⟨q, 0, none⟩ 1 _ (cs [(X, Y)]) (by rfl) rfl (pair_news HP4.out.1 HP4.out.2.1) (cs_one _) (by unfold maxLen; omega) (by omega) HB4.out.size ?_
              intro u2 v5 own2 gr2
              have HB5 : Hid (Below W0.heap.size W0 v5) := Lib.hid (HB4.out.grown gr2 HB4.out.size (fun b hb => (HO4.out.lt b hb).1))
              have HO5 : Hid (v5.ownsRow W0.heap.size 46 2 u2 (0 + pk + 1) ([] ++ cs (l.take pk) ++ cs [(X, Y)])) := Lib.hid own2
              clear own2 gr2
              refine hK _ _ ?_
              clear hK K
              refine wpAny_ready (rs := [8]) (by kernel_rfl) (by simp) ?_
              refine AllReady.cons rfl (fun K hK => ?_) AllReady.nil
              go_simp
              try (refine hK _ _ ?_; clear hK K)
              refine wpAny_done (by kernel_rfl) ?_ _
              go_wp2_with (at_builtin; refine step_round _ rfl _ _ 25 rfl W0.heap.size 46 i0 (.agg #[.int .i64 0, .int .i64 0]) Try.underlying25 hi hz0 hz1 hz2 rfl _ (0 + pk + 1) (l.take pk ++ [(X, Y)]) rfl (by rw [cs_append]; exact HO5.out) (some ⟨b, off2, none⟩) _ _ (l.drop pk) rfl HL2.out (HD.out.kept (HbW.out.trans (HB5.out.mono HbW.out.size))) (fun h => by cases h) (by omega) HB5.out.size ?_)
              intro u3 v6 own3 hb3
              obtain ⟨ao9, cap9, rfl, _⟩ := own_shape own3 HLL.out
              have Own3 : Hid (v6.ownsRow w.heap.size 46 2 (.slice ao9 (pk + 1 + (n - pk)) cap9) (ins l X Y).length (cs (ins l X Y))) := Lib.hid (HINS.out _ _ (own_base HbW.out.size own3))
              have HB6 : Hid (Below w.heap.size w v6) := Lib.hid (HbW.out.trans ((HB5.out.trans hb3).mono HbW.out.size))
              clear own3 hb3
              go_wp2_with fail
              go_ret2
              exact ⟨_, rfl, Own3.out, HB6.out⟩
            refine AllReady.cons rfl (fun K hK => ?_) AllReady.nil
            go_simp
            try (refine hK _ _ ?_; clear hK K)
            obtain ⟨v3, hv3⟩ : ∃ v3, v2.alloc (Obj.cells #[Value.int IntKind.i64 X, Value.int IntKind.i64 Y] 46) = v3 := ⟨_, rfl⟩
            rw [hv3]
            have HA3 : Hid (Below v2.heap.size v2 v3) := Lib.hid (by rw [← hv3]; exact (Below.refl _ _).alloc (Nat.le_refl _) _)
            have HB3 : Hid (Below W0.heap.size W0 v3) := Lib.hid (HB2.out.trans (HA3.out.mono HB2.out.size))
            obtain ⟨q, hq0⟩ : ∃ q, v2.heap.size = q := ⟨_, rfl⟩
            have HP3 : Hid (v3.cell? ⟨q, 0, none⟩ = some (.int .i64 X) ∧ v3.cell? ⟨q, 1, none⟩ = some (.int .i64 Y) ∧ q < v3.heap.size) := Lib.hid (by rw [← hq0, ← hv3]; simp)
            have hqe : q ≠ e0 := by rw [← hq0]; have := (HE2.out.lt e0 rfl).2; omega
            have HE3 : Hid (v3.ownsRow W0.heap.size 46 2 (.slice (some ⟨e0, 0, none⟩) 0 0) 0 []) := Lib.hid (own_later HE2.out HA3.out)
            rw [hq0]
            clear hq0 hv3
            refine wpAny_ready (rs := [4]) (by kernel_rfl) (by simp) ?_
            refine AllReady.cons rfl (fun K hK => ?_) AllReady.nil
            refine step_append_mine _ (by rfl) _ _ 25 (by rfl) W0.heap.size 46 i0 _ 2 16 Try.underlying25 hi hz0 hz1 hz2 rfl (by omega) _ 0 [] (by rfl) HE3.out ⟨b, off, none⟩ pk _ (cs (l.take pk)) (by rfl) HL1.out (HN1.out _ HB3.out) (cs_one _) (by unfold maxLen; omega) (by omega) HB3.out.size ?_
            intro u1 v4 own1 gr1
            have HB4 : Hid (Below W0.heap.size W0 v4) := Lib.hid (HB3.out.grown gr1 HB3.out.size (fun b hb => (HE3.out.lt b hb).1))
            have HO4 : Hid (v4.ownsRow W0.heap.size 46 2 u1 (0 + pk) ([] ++ cs (l.take pk))) := Lib.hid own1
            have HP4 : Hid (v4.cell? ⟨q, 0, none⟩ = some (.int .i64 X) ∧ v4.cell? ⟨q, 1, none⟩ = some (.int .i64 Y) ∧ q < v4.heap.size) := Lib.hid ⟨gr1.cell HP3.out.1 (fun h => hqe (Option.some.inj h)), gr1.cell HP3.out.2.1 (fun h => hqe (Option.some.inj h)), Nat.lt_of_lt_of_le HP3.out.2.2 gr1.size⟩
            clear own1 gr1
            refine hK _ _ ?_
            clear hK K
            refine wpAny_ready (rs := [7]) (by kernel_rfl) (by simp) ?_
            refine AllReady.cons rfl (fun K hK => ?_) AllReady.nil
            refine step_append_mine _ (by rfl) _ _ 25 (by rfl) W0.heap.size 46 i0 _ 2 16 Try.underlying25 hi hz0 hz1 hz2 rfl (by omega) _ (0 + pk) ([] ++ cs (l.take pk)) (by rfl) HO4.out ⟨q, 0, none⟩ 1 _ (cs [(X, Y)]) (by rfl) rfl (pair_news HP4.out.1 HP4.out.2.1) (cs_one _) (by unfold maxLen; omega) (by omega) HB4.out.size ?_
            intro u2 v5 own2 gr2
            have HB5 : Hid (Below W0.heap.size W0 v5) := Lib.hid (HB4.out.grown gr2 HB4.out.size (fun b hb => (HO4.out.lt b hb).1))
            have HO5 : Hid (v5.ownsRow W0.heap.size 46 2 u2 (0 + pk + 1) ([] ++ cs (l.take pk) ++ cs [(X, Y)])) := Lib.hid own2
            clear own2 gr2
            refine hK _ _ ?_
            clear hK K
            refine wpAny_ready (rs := [8]) (by kernel_rfl) (by simp) ?_
            refine AllReady.cons rfl (fun K hK => ?_) AllReady.nil
            go_simp
            try (refine hK _ _ ?_; clear hK K)
            refine wpAny_done (by kernel_rfl) ?_ _
            go_wp2_with (at_builtin; refine step_round _ rfl _ _ 25 rfl W0.heap.size 46 i0 (.agg #[.int .i64 0, .int .i64 0]) Try.underlying25 hi hz0 hz1 hz2 rfl _ (0 + pk + 1) (l.take pk ++ [(X, Y)]) rfl (by rw [cs_append]; exact HO5.out) (some ⟨b, off2, none⟩) _ _ (l.drop pk) rfl HL2.out (HD.out.kept (HbW.out.trans (HB5.out.mono HbW.out.size))) (fun h => by cases h) (by omega) HB5.out.size ?_)
            intro u3 v6 own3 hb3
            obtain ⟨ao9, cap9, rfl, _⟩ := own_shape own3 HLL.out
            have Own3 : Hid (v6.ownsRow w.heap.size 46 2 (.slice ao9 (pk + 1 + (n - pk)) cap9) (ins l X Y).length (cs (ins l X Y))) := Lib.hid (HINS.out _ _ (own_base HbW.out.size own3))
            have HB6 : Hid (Below w.heap.size w v6) := Lib.hid (HbW.out.trans ((HB5.out.trans hb3).mono HbW.out.size))
            clear own3 hb3
            go_wp2_with fail
            go_ret2
            exact ⟨_, rfl, Own3.out, HB6.out⟩
          refine AllReady.cons rfl (fun K hK => ?_) AllReady.nil
          go_simp
          try (refine hK _ _ ?_; clear hK K)
          obtain ⟨v3, hv3⟩ : ∃ v3, v2.alloc (Obj.cells #[Value.int IntKind.i64 X, Value.int IntKind.i64 Y] 46) = v3 := ⟨_, rfl⟩
          rw [hv3]
          have HA3 : Hid (Below v2.heap.size v2 v3) := Lib.hid (by rw [← hv3]; exact (Below.refl _ _).alloc (Nat.le_refl _) _)
          have HB3 : Hid (Below W0.heap.size W0 v3) := Lib.hid (HB2.out.trans (HA3.out.mono HB2.out.size))
          obtain ⟨q, hq0⟩ : ∃ q, v2.heap.size = q := ⟨_, rfl⟩
          have HP3 : Hid (v3.cell? ⟨q, 0, none⟩ = some (.int .i64 X) ∧ v3.cell? ⟨q, 1, none⟩ = some (.int .i64 Y) ∧ q < v3.heap.size) := Lib.hid (by rw [← hq0, ← hv3]; simp)
          have hqe : q ≠ e0 := by rw [← hq0]; have := (HE2.out.lt e0 rfl).2; omega
          have HE3 : Hid (v3.ownsRow W0.heap.size 46 2 (.slice (some ⟨e0, 0, none⟩) 0 0) 0 []) := Lib.hid (own_later HE2.out HA3.out)
          rw [hq0]
          clear hq0 hv3
          refine wpAny_ready (rs := [3]) (by kernel_rfl) (by simp) ?_
          refine AllReady.cons rfl (fun K hK => ?_) AllReady.nil
          go_simp
          try (refine hK _ _ ?_; clear hK K)
          refine wpAny_ready (rs := [4]) (by kernel_rfl) (by simp) ?_
          refine AllReady.cons rfl (fun K hK => ?_) AllReady.nil
          refine step_append_mine _ (by rfl) _ _ 25 (by rfl) W0.heap.size 46 i0 _ 2 16 Try.underlying25 hi hz0 hz1 hz2 rfl (by omega) _ 0 [] (by rfl) HE3.out ⟨b, off, none⟩ pk _ (cs (l.take pk)) (by rfl) HL1.out (HN1.out _ HB3.out) (cs_one _) (by unfold maxLen; omega) (by omega) HB3.out.size ?_
          intro u1 v4 own1 gr1
          have HB4 : Hid (Below W0.heap.size W0 v4) := Lib.hid (HB3.out.grown gr1 HB3.out.size (fun b hb => (HE3.out.lt b hb).1))
          have HO4 : Hid (v4.ownsRow W0.heap.size 46 2 u1 (0 + pk) ([] ++ cs (l.take pk))) := Lib.hid own1
          have HP4 : Hid (v4.cell? ⟨q, 0, none⟩ = some (.int .i64 X) ∧ v4.cell? ⟨q, 1, none⟩ = some (.int .i64 Y) ∧ q < v4.heap.size) := Lib.hid ⟨gr1.cell HP3.out.1 (fun h => hqe (Option.some.inj h)), gr1.cell HP3.out.2.1 (fun h => hqe (Option.some.inj h)), Nat.lt_of_lt_of_le HP3.out.2.2 gr1.size⟩
          clear own1 gr1
          refine hK _ _ ?_
          clear hK K
          refine wpAny_ready (rs := [7]) (by kernel_rfl) (by simp) ?_
          refine AllReady.cons rfl (fun K hK => ?_) AllReady.nil
          refine step_append_mine _ (by rfl) _ _ 25 (by rfl) W0.heap.size 46 i0 _ 2 16 Try.underlying25 hi hz0 hz1 hz2 rfl (by omega) _ (0 + pk) ([] ++ cs (l.take pk)) (by rfl) HO4.out ⟨q, 0, none⟩ 1 _ (cs [(X, Y)]) (by rfl) rfl (pair_news HP4.out.1 HP4.out.2.1) (cs_one _) (by unfold maxLen; omega) (by omega) HB4.out.size ?_
          intro u2 v5 own2 gr2
          have HB5 : Hid (Below W0.heap.size W0 v5) := Lib.hid (HB4.out.grown gr2 HB4.out.size (fun b hb => (HO4.out.lt b hb).1))
          have HO5 : Hid (v5.ownsRow W0.heap.size 46 2 u2 (0 + pk + 1) ([] ++ cs (l.take pk) ++ cs [(X, Y)])) := Lib.hid own2
          clear own2 gr2
          refine hK _ _ ?_
          clear hK K
          refine wpAny_ready (rs := [8]) (by kernel_rfl) (by simp) ?_
          refine AllReady.cons rfl (fun K hK => ?_) AllReady.nil
          go_simp
          try (refine hK _ _ ?_; clear hK K)
          refine wpAny_done (by kernel_rfl) ?_ _
          go_wp2_with (at_builtin; refine step_round _ rfl _ _ 25 rfl W0.heap.size 46 i0 (.agg #[.int .i64 0, .int .i64 0]) Try.underlying25 hi hz0 hz1 hz2 rfl _ (0 + pk + 1) (l.take pk ++ [(X, Y)]) rfl (by rw [cs_append]; exact HO5.out) (some ⟨b, off2, none⟩) _ _ (l.drop pk) rfl HL2.out (HD.out.kept (HbW.out.trans (HB5.out.mono HbW.out.size))) (fun h => by cases h) (by omega) HB5.out.size ?_)
          intro u3 v6 own3 hb3
          obtain ⟨ao9, cap9, rfl, _⟩ := own_shape own3 HLL.out
          have Own3 : Hid (v6.ownsRow w.heap.size 46 2 (.slice ao9 (pk + 1 + (n - pk)) cap9) (ins l X Y).length (cs (ins l X Y))) := Lib.hid (HINS.out _ _ (own_base HbW.out.size own3))
          have HB6 : Hid (Below w.heap.size w v6) := Lib.hid (HbW.out.trans ((HB5.out.trans hb3).mono HbW.out.size))
          clear own3 hb3
          go_wp2_with fail
          go_ret2
          exact ⟨_, rfl, Own3.out, HB6.out⟩
        refine AllReady.cons rfl (fun K hK => ?_) ?_
        · go_simp
          try (refine hK _ _ ?_; clear hK K)
          refine wpAny_ready (rs := [0, 6]) (by kernel_rfl) (by simp) ?_
          refine AllReady.cons rfl (fun K hK => ?_) ?_
          · go_simp
            try (refine hK _ _ ?_; clear hK K)
            obtain ⟨v2, hv2⟩ : ∃ v2, v1.alloc (Obj.cells #[] 46) = v2 := ⟨_, rfl⟩
            rw [hv2]
            have HA2 : Hid (Below v1.heap.size v1 v2) := Lib.hid (by rw [← hv2]; exact (Below.refl _ _).alloc (Nat.le_refl _) _)
            have HB2 : Hid (Below W0.heap.size W0 v2) := Lib.hid (HB1.out.trans (HA2.out.mono HB1.out.size))
            obtain ⟨e0, he0⟩ : ∃ e0, v1.heap.size = e0 := ⟨_, rfl⟩
            have HE2 : Hid (v2.ownsRow W0.heap.size 46 2 (.slice (some ⟨e0, 0, none⟩) 0 0) 0 []) := Lib.hid (by rw [← he0, ← hv2]; exact World.ownsRow_lit v1 #[] 0 HB1.out.size (by unfold maxLen; omega) rfl)
            rw [he0]
            clear he0 hv2
            refine wpAny_ready (rs := [4, 6]) (by kernel_rfl) (by simp) ?_
            refine AllReady.cons rfl (fun K hK => ?_) ?_
            · refine step_append_mine _ (by rfl) _ _ 25 (by rfl) W0.heap.size 46 i0 _ 2 16 Try.underlying25 hi hz0 hz1 hz2 rfl (by omega) _ 0 [] (by rfl) HE2.out ⟨b, off, none⟩ pk _ (cs (l.take pk)) (by rfl) HL1.out (HN1.out _ HB2.out) (cs_one _) (by unfold maxLen; omega) (by omega) HB2.out.size ?_
              intro u1 v3 own1 gr1
              have HB3 : Hid (Below W0.heap.size W0 v3) := Lib.hid (HB2.out.grown gr1 HB2.out.size (fun b hb => (HE2.out.lt b hb).1))
              have HO3 : Hid (v3.ownsRow W0.heap.size 46 2 u1 (0 + pk) ([] ++ cs (l.take pk))) := Lib.hid own1
              clear own1 gr1
              refine hK _ _ ?_
              clear hK K
              refine wpAny_ready (rs := [6]) (by kernel_rfl) (by simp) ?_
              refine AllReady.cons rfl (fun K hK => ?_) AllReady.nil
              go_simp
              try (refine hK _ _ ?_; clear hK K)
              obtain ⟨v4, hv4⟩ : ∃ v4, v3.alloc (Obj.cells #[Value.int IntKind.i64 X, Value.int IntKind.i64 Y] 46) = v4 := ⟨_, rfl⟩
              rw [hv4]
              have HA4 : Hid (Below v3.heap.size v3 v4) := Lib.hid (by rw [← hv4]; exact (Below.refl _ _).alloc (Nat.le_refl _) _)
              have HB4 : Hid (Below W0.heap.size W0 v4) := Lib.hid (HB3.out.trans (HA4.out.mono HB3.out.size))
              obtain ⟨q, hq0⟩ : ∃ q, v3.heap.size = q := ⟨_, rfl⟩
              have HP4 : Hid (v4.cell? ⟨q, 0, none⟩ = some (.int .i64 X) ∧ v4.cell? ⟨q, 1, none⟩ = some (.int .i64 Y) ∧ q < v4.heap.size) := Lib.hid (by rw [← hq0, ← hv4]; simp)
              have HO4 : Hid (v4.ownsRow W0.heap.size 46 2 u1 (0 + pk) ([] ++ cs (l.take pk))) := Lib.hid (own_later HO3.out HA4.out)
              rw [hq0]
              clear hq0 hv4
              refine wpAny_ready (rs := [7]) (by kernel_rfl) (by simp) ?_
              refine AllReady.cons rfl (fun K hK => ?_) AllReady.nil
              refine step_append_mine _ (by rfl) _ _ 25 (by rfl) W0.heap.size 46 i0 _ 2 16 Try.underlying25 hi hz0 hz1 hz2 rfl (by omega) _ (0 + pk) ([] ++ cs (l.take pk)) (by rfl) HO4.out ⟨q, 0, none⟩ 1 _ (cs [(X, Y)]) (by rfl) rfl (pair_news HP4.out.1 HP4.out.2.1) (cs_one _) (by unfold maxLen; omega) (by omega) HB4.out.size ?_
              intro u2 v5 own2 gr2
              have HB5 : Hid (Below W0.heap.size W0 v5) := Lib.hid (HB4.out.grown gr2 HB4.out.size (fun b hb => (HO4.out.lt b hb).1))
              have HO5 : Hid (v5.ownsRow W0.heap.size 46 2 u2 (0 + pk + 1) ([] ++ cs (l.take pk) ++ cs [(X, Y)])) := Lib.hid own2
              clear own2 gr2
              refine hK _ _ ?_
              clear hK K
              refine wpAny_ready (rs := [8]) (by kernel_rfl) (by simp) ?_
              refine AllReady.cons rfl (fun K hK => ?_) AllReady.nil
              go_simp
              try (refine hK _ _ ?_; clear hK K)
              refine wpAny_done (by kernel_rfl) ?_ _
              go_wp2_with (at_builtin; refine step_round _ rfl _ _ 25 rfl W0.heap.size 46 i0 (.agg #[.int .i64 0, .int .i64 0]) Try.underlying25 hi hz0 hz1 hz2 rfl _ (0 + pk + 1) (l.take pk ++ [(X, Y)]) rfl (by rw [cs_append]; exact HO5.out) (some ⟨b, off2, none⟩) _ _ (l.drop pk) rfl HL2.out (HD.out.kept (HbW.out.trans (HB5.out.mono HbW.out.size))) (fun h => by cases h) (by omega) HB5.out.size ?_)
              intro u3 v6 own3 hb3
              obtain ⟨ao9, cap9, rfl, _⟩ := own_shape own3 HLL.out
              have Own3 : Hid (v6.ownsRow w.heap.size 46 2 (.slice ao9 (pk + 1 + (n - pk)) cap9) (ins l X Y).length (cs (ins l X Y))) := Lib.hid (HINS.out _ _ (own_base HbW.out.size own3))
              have HB6 : Hid (Below w.heap.size w v6) := Lib.hid (HbW.out.trans ((HB5.out.trans hb3).mono HbW.out.size))
              clear own3 hb3
              go_wp2_with fail
              go_ret2
              exact ⟨_, rfl, Own3.out, HB6.out⟩
            refine AllReady.cons rfl (fun K hK => ?_) AllReady.nil
            go_simp
            try (refine hK _ _ ?_; clear hK K)
            obtain ⟨v3, hv3⟩ : ∃ v3, v2.alloc (Obj.cells #[Value.int IntKind.i64 X, Value.int IntKind.i64 Y] 46) = v3 := ⟨_, rfl⟩
            rw [hv3]
            have HA3 : Hid (Below v2.heap.size v2 v3) := Lib.hid (by rw [← hv3]; exact (Below.refl _ _).alloc (Nat.le_refl _) _)
            have HB3 : Hid (Below W0.heap.size W0 v3) := Lib.hid (HB2.out.trans (HA3.out.mono HB2.out.size))
            obtain ⟨q, hq0⟩ : ∃ q, v2.heap.size = q := ⟨_, rfl⟩
            have HP3 : Hid (v3.cell? ⟨q, 0, none⟩ = some (.int .i64 X) ∧ v3.cell? ⟨q, 1, none⟩ = some (.int .i64 Y) ∧ q < v3.heap.size) := Lib.hid (by rw [← hq0, ← hv3]; simp)
            have hqe : q ≠ e0 := by rw [← hq0]; have := (HE2.out.lt e0 rfl).2; omega
            have HE3 : Hid (v3.ownsRow W0.heap.size 46 2 (.slice (some ⟨e0, 0, none⟩) 0 0) 0 []) := Lib.hid (own_later HE2.out HA3.out)
            rw [hq0]
            clear hq0 hv3
            refine wpAny_ready (rs := [4]) (by kernel_rfl) (by simp) ?_
            refine AllReady.cons rfl (fun K hK => ?_) AllReady.nil
            refine step_append_mine _ (by rfl) _ _ 25 (by rfl) W0.heap.size 46 i0 _ 2 16 Try.underlying25 hi hz0 hz1 hz2 rfl (by omega) _ 0 [] (by rfl) HE3.out ⟨b, off, none⟩ pk _ (cs (l.take pk)) (by rfl) HL1.out (HN1.out _ HB3.out) (cs_one _) (by unfold maxLen; omega) (by omega) HB3.out.size ?_
            intro u1 v4 own1 gr1
            have HB4 : Hid (Below W0.heap.size W0 v4) := Lib.hid (HB3.out.grown gr1 HB3.out.size (fun b hb => (HE3.out.lt b hb).1))
            have HO4 : Hid (v4.ownsRow W0.heap.size 46 2 u1 (0 + pk) ([] ++ cs (l.take pk))) := Lib.hid own1
            have HP4 : Hid (v4.cell? ⟨q, 0, none⟩ = some (.int .i64 X) ∧ v4.cell? ⟨q, 1, none⟩ = some (.int .i64 Y) ∧ q < v4.heap.size) := Lib.hid ⟨gr1.cell HP3.out.1 (fun h => hqe (Option.some.inj h)), gr1.cell HP3.out.2.1 (fun h => hqe (Option.some.inj h)), Nat.lt_of_lt_of_le HP3.out.2.2 gr1.size⟩
            clear own1 gr1
            refine hK _ _ ?_
            clear hK K
            refine wpAny_ready (rs := [7]) (by kernel_rfl) (by simp) ?_
            refine AllReady.cons rfl (fun K hK => ?_) AllReady.nil
            refine step_append_mine _ (by rfl) _ _ 25 (by rfl) W0.heap.size 46 i0 _ 2 16 Try.underlying25 hi hz0 hz1 hz2 rfl (by omega) _ (0 + pk) ([] ++ cs (l.take pk)) (by rfl) HO4.out ⟨q, 0, none⟩ 1 _ (cs [(X, Y)]) (by rfl) rfl (pair_news HP4.out.1 HP4.out.2.1) (cs_one _) (by unfold maxLen; omega) (by omega) HB4.out.size ?_
            intro u2 v5 own2 gr2
            have HB5 : Hid (Below W0.heap.size W0 v5) := Lib.hid (HB4.out.grown gr2 HB4.out.size (fun b hb => (HO4.out.lt b hb).1))
            have HO5 : Hid (v5.ownsRow W0.heap.size 46 2 u2 (0 + pk + 1) ([] ++ cs (l.take pk) ++ cs [(X, Y)])) := Lib.hid own2
            clear own2 gr2
            refine hK _ _ ?_
            clear hK K
            refine wpAny_ready (rs := [8]) (by kernel_rfl) (by simp) ?_
            refine AllReady.cons rfl (fun K hK => ?_) AllReady.nil
            go_simp
            try (refine hK _ _ ?_; clear hK K)
            refine wpAny_done (by kernel_rfl) ?_ _
            go_wp2_with (at_builtin; refine step_round _ rfl _ _ 25 rfl W0.heap.size 46 i0 (.agg #[.int .i64 0, .int .i64 0]) Try.underlying25 hi hz0 hz1 hz2 rfl _ (0 + pk + 1) (l.take pk ++ [(X, Y)]) rfl (by rw [cs_append]; exact HO5.out) (some ⟨b, off2, none⟩) _ _ (l.drop pk) rfl HL2.out (HD.out.kept (HbW.out.trans (HB5.out.mono HbW.out.size))) (fun h => by cases h) (by omega) HB5.out.size ?_)
            intro u3 v6 own3 hb3
            obtain ⟨ao9, cap9, rfl, _⟩ := own_shape own3 HLL.out
            have Own3 : Hid (v6.ownsRow w.heap.size 46 2 (.slice ao9 (pk + 1 + (n - pk)) cap9) (ins l X Y).length (cs (ins l X Y))) := Lib.hid (HINS.out _ _ (own_base HbW.out.size own3))
            have HB6 : Hid (Below w.heap.size w v6) := Lib.hid (HbW.out.trans ((HB5.out.trans hb3).mono HbW.out.size))
            clear own3 hb3
            go_wp2_with fail
            go_ret2
            exact ⟨_, rfl, Own3.out, HB6.out⟩
          refine AllReady.cons rfl (fun K hK => ?_) AllReady.nil
          go_simp
          try (refine hK _ _ ?_; clear hK K)
          obtain ⟨v2, hv2⟩ : ∃ v2, v1.alloc (Obj.cells #[Value.int IntKind.i64 X, Value.int IntKind.i64 Y] 46) = v2 := ⟨_, rfl⟩
          rw [hv2]
          have HA2 : Hid (Below v1.heap.size v1 v2) := Lib.hid (by rw [← hv2]; exact (Below.refl _ _).alloc (Nat.le_refl _) _)
          have HB2 : Hid (Below W0.heap.size W0 v2) := Lib.hid (HB1.out.trans (HA2.out.mono HB1.out.size))
          obtain ⟨q, hq0⟩ : ∃ q, v1.heap.size = q := ⟨_, rfl⟩
          have HP2 : Hid (v2.cell? ⟨q, 0, none⟩ = some (.int .i64 X) ∧ v2.cell? ⟨q, 1, none⟩ = some (.int .i64 Y) ∧ q < v2.heap.size) := Lib.hid (by rw [← hq0, ← hv2]; simp)
          rw [hq0]
          clear hq0 hv2
          refine wpAny_ready (rs := [0]) (by kernel_rfl) (by simp) ?_
          refine AllReady.cons rfl (fun K hK => ?_) AllReady.nil
          go_simp
          try (refine hK _ _ ?_; clear hK K)
          obtain ⟨v3, hv3⟩ : ∃ v3, v2.alloc (Obj.cells #[] 46) = v3 := ⟨_, rfl⟩
          rw [hv3]
          have HA3 : Hid (Below v2.heap.size v2 v3) := Lib.hid (by rw [← hv3]; exact (Below.refl _ _).alloc (Nat.le_refl _) _)
          have HB3 : Hid (Below W0.heap.size W0 v3) := Lib.hid (HB2.out.trans (HA3.out.mono HB2.out.size))
          obtain ⟨e0, he0⟩ : ∃ e0, v2.heap.size = e0 := ⟨_, rfl⟩
          have HE3 : Hid (v3.ownsRow W0.heap.size 46 2 (.slice (some ⟨e0, 0, none⟩) 0 0) 0 []) := Lib.hid (by rw [← he0, ← hv3]; exact World.ownsRow_lit v2 #[] 0 HB2.out.size (by unfold maxLen; omega) rfl)
          have hqe : q ≠ e0 := by rw [← he0]; have := HP2.out.2.2; omega
          have HP3 : Hid (v3.cell? ⟨q, 0, none⟩ = some (.int .i64 X) ∧ v3.cell? ⟨q, 1, none⟩ = some (.int .i64 Y) ∧ q < v3.heap.size) := Lib.hid ⟨cell_old HA3.out HP2.out.1, cell_old HA3.out HP2.out.2.1, Nat.lt_of_lt_of_le HP2.out.2.2 HA3.out.size⟩
          rw [he0]
          clear he0 hv3
          refine wpAny_ready (rs := [4]) (by kernel_rfl) (by simp) ?_
          refine AllReady.cons rfl (fun K hK => ?_) AllReady.nil
          refine step_append_mine _ (by rfl) _ _ 25 (by rfl) W0.heap.size 46 i0 _ 2 16 Try.underlying25 hi hz0 hz1 hz2 rfl (by omega) _ 0 [] (by rfl) HE3.out ⟨b, off, none⟩ pk _ (cs (l.take pk)) (by rfl) HL1.out (HN1.out _ HB3.out) (cs_one _) (by unfold maxLen; omega) (by omega) HB3.out.size ?_
          intro u1 v4 own1 gr1
          have HB4 : Hid (Below W0.heap.size W0 v4) := Lib.hid (HB3.out.grown gr1 HB3.out.size (fun b hb => (HE3.out.lt b hb).1))
          have HO4 : Hid (v4.ownsRow W0.heap.size 46 2 u1 (0 + pk) ([] ++ cs (l.take pk))) := Lib.hid own1
          have HP4 : Hid (v4.cell? ⟨q, 0, none⟩ = some (.int .i64 X) ∧ v4.cell? ⟨q, 1, none⟩ = some (.int .i64 Y) ∧ q < v4.heap.size) := Lib.hid ⟨gr1.cell HP3.out.1 (fun h => hqe (Option.some.inj h)), gr1.cell HP3.out.2.1 (fun h => hqe (Option.some.inj h)), Nat.lt_of_lt_of_le HP3.out.2.2 gr1.size⟩
          clear own1 gr1
          refine hK _ _ ?_
          clear hK K
          refine wpAny_ready (rs := [7]) (by kernel_rfl) (by simp) ?_
          refine AllReady.cons rfl (fun K hK => ?_) AllReady.nil
          refine step_append_mine _ (by rfl) _ _ 25 (by rfl) W0.heap.size 46 i0 _ 2 16 Try.underlying25 hi hz0 hz1 hz2 rfl (by omega) _ (0 + pk) ([] ++ cs (l.take pk)) (by rfl) HO4.out ⟨q, 0, none⟩ 1 _ (cs [(X, Y)]) (by rfl) rfl (pair_news HP4.out.1 HP4.out.2.1) (cs_one _) (by unfold maxLen; omega) (by omega) HB4.out.size ?_
          intro u2 v5 own2 gr2
          have HB5 : Hid (Below W0.heap.size W0 v5) := Lib.hid (HB4.out.grown gr2 HB4.out.size (fun b hb => (HO4.out.lt b hb).1))
          have HO5 : Hid (v5.ownsRow W0.heap.size 46 2 u2 (0 + pk + 1) ([] ++ cs (l.take pk) ++ cs [(X, Y)])) := Lib.hid own2
          clear own2 gr2
          refine hK _ _ ?_
          clear hK K
          refine wpAny_ready (rs := [8]) (by kernel_rfl) (by simp) ?_
          refine AllReady.cons rfl (fun K hK => ?_) AllReady.nil
          go_simp
          try (refine hK _ _ ?_; clear hK K)
          refine wpAny_done (by kernel_rfl) ?_ _
          go_wp2_with (at_builtin; refine step_round _ rfl _ _ 25 rfl W0.heap.size 46 i0 (.agg #[.int .i64 0, .int .i64 0]) Try.underlying25 hi hz0 hz1 hz2 rfl _ (0 + pk + 1) (l.take pk ++ [(X, Y)]) rfl (by rw [cs_append]; exact HO5.out) (some ⟨b, off2, none⟩) _ _ (l.drop pk) rfl HL2.out (HD.out.kept (HbW.out.trans (HB5.out.mono HbW.out.size))) (fun h => by cases h) (by omega) HB5.out.size ?_)
          intro u3 v6 own3 hb3
          obtain ⟨ao9, cap9, rfl, _⟩ := own_shape own3 HLL.out
          have Own3 : Hid (v6.ownsRow w.heap.size 46 2 (.slice ao9 (pk + 1 + (n - pk)) cap9) (ins l X Y).length (cs (ins l X Y))) := Lib.hid (HINS.out _ _ (own_base HbW.out.size own3))
          have HB6 : Hid (Below w.heap.size w v6) := Lib.hid (HbW.out.trans ((HB5.out.trans hb3).mono HbW.out.size))
          clear own3 hb3
          go_wp2_with fail
          go_ret2
          exact ⟨_, rfl, Own3.out, HB6.out⟩
        refine AllReady.cons rfl (fun K hK => ?_) AllReady.nil
        go_simp
        try (refine hK _ _ ?_; clear hK K)
        obtain ⟨v2, hv2⟩ : ∃ v2, v1.alloc (Obj.cells #[Value.int IntKind.i64 X, Value.int IntKind.i64 Y] 46) = v2 := ⟨_, rfl⟩
        rw [hv2]
        have HA2 : Hid (Below v1.heap.size v1 v2) := Lib.hid (by rw [← hv2]; exact (Below.refl _ _).alloc (Nat.le_refl _) _)
        have HB2 : Hid (Below W0.heap.size W0 v2) := Lib.hid (HB1.out.trans (HA2.out.mono HB1.out.size))
        obtain ⟨q, hq0⟩ : ∃ q, v1.heap.size = q := ⟨_, rfl⟩
        have HP2 : Hid (v2.cell? ⟨q, 0, none⟩ = some (.int .i64 X) ∧ v2.cell? ⟨q, 1, none⟩ = some (.int .i64 Y) ∧ q < v2.heap.size) := Lib.hid (by rw [← hq0, ← hv2]; simp)
        rw [hq0]
        clear hq0 hv2
        refine wpAny_ready (rs := [0, 3]) (by kernel_rfl) (by simp) ?_
        refine AllReady.cons rfl (fun K hK => ?_) ?_
        · go_simp
          try (refine hK _ _ ?_; clear hK K)
          obtain ⟨v3, hv3⟩ : ∃ v3, v2.alloc (Obj.cells #[] 46) = v3 := ⟨_, rfl⟩
          rw [hv3]
          have HA3 : Hid (Below v2.heap.size v2 v3) := Lib.hid (by rw [← hv3]; exact (Below.refl _ _).alloc (Nat.le_refl _) _)
          have HB3 : Hid (Below W0.heap.size W0 v3) := Lib.hid (HB2.out.trans (HA3.out.mono HB2.out.size))
          obtain ⟨e0, he0⟩ : ∃ e0, v2.heap.size = e0 := ⟨_, rfl⟩
          have HE3 : Hid (v3.ownsRow W0.heap.size 46 2 (.slice (some ⟨e0, 0, none⟩) 0 0) 0 []) := Lib.hid (by rw [← he0, ← hv3]; exact World.ownsRow_lit v2 #[] 0 HB2.out.size (by unfold maxLen; omega) rfl)
          have hqe : q ≠ e0 := by rw [← he0]; have := HP2.out.2.2; omega
          have HP3 : Hid (v3.cell? ⟨q, 0, none⟩ = some (.int .i64 X) ∧ v3.cell? ⟨q, 1, none⟩ = some (.int .i64 Y) ∧ q < v3.heap.size) := Lib.hid ⟨cell_old HA3.out HP2.out.1, cell_old HA3.out HP2.out.2.1, Nat.lt_of_lt_of_le HP2.out.2.2 HA3.out.size⟩
          rw [he0]
          clear he0 hv3
          refine wpAny_ready (rs := [3]) (by kernel_rfl) (by simp) ?_
          refine AllReady.cons rfl (fun K hK => ?_) AllReady.nil
          go_simp
          try (refine hK _ _ ?_; clear hK K)
          refine wpAny_ready (rs := [4]) (by kernel_rfl) (by simp) ?_
          refine AllReady.cons rfl (fun K hK => ?_) AllReady.nil
          refine step_append_mine _ (by rfl) _ _ 25 (by rfl) W0.heap.size 46 i0 _ 2 16 Try.underlying25 hi hz0 hz1 hz2 rfl (by omega) _ 0 [] (by rfl) HE3.out ⟨b, off, none⟩ pk _ (cs (l.take pk)) (by rfl) HL1.out (HN1.out _ HB3.out) (cs_one _) (by unfold maxLen; omega) (by omega) HB3.out.size ?_
          intro u1 v4 own1 gr1
          have HB4 : Hid (Below W0.heap.size W0 v4) := Lib.hid (HB3.out.grown gr1 HB3.out.size (fun b hb => (HE3.out.lt b hb).1))
          have HO4 : Hid (v4.ownsRow W0.heap.size 46 2 u1 (0 + pk) ([] ++ cs (l.take pk))) := Lib.hid own1
          have HP4 : Hid (v4.cell? ⟨q, 0, none⟩ = some (.int .i64 X) ∧ v4.cell? ⟨q, 1, none⟩ = some (.int .i64 Y) ∧ q < v4.heap.size) := Lib.hid ⟨gr1.cell HP3.out.1 (fun h => hqe (Option.some.inj h)), gr1.cell HP3.out.2.1 (fun h => hqe (Option.some.inj h)), Nat.lt_of_lt_of_le HP3.out.2.2 gr1.size⟩
          clear own1 gr1
          refine hK _ _ ?_
          clear hK K
          refine wpAny_ready (rs := [7]) (by kernel_rfl) (by simp) ?_
          refine AllReady.cons rfl (fun K hK => ?_) AllReady.nil
          refine step_append_mine _ (by rfl) _ _ 25 (by rfl) W0.heap.size 46 i0 _ 2 16 Try.underlying25 hi hz0 hz1 hz2 rfl (by omega) _ (0 + pk) ([] ++ cs (l.take pk)) (by rfl) HO4.out ⟨q, 0, none⟩ 1 _ (cs [(X, Y)]) (by rfl) rfl (pair_news HP4.out.1 HP4.out.2.1) (cs_one _) (by unfold maxLen; omega) (by omega) HB4.out.size ?_
          intro u2 v5 own2 gr2
          have HB5 : Hid (Below W0.heap.size W0 v5) := Lib.hid (HB4.out.grown gr2 HB4.out.size (fun b hb => (HO4.out.lt b hb).1))
          have HO5 : Hid (v5.ownsRow W0.heap.size 46 2 u2 (0 + pk + 1) ([] ++ cs (l.take pk) ++ cs [(X, Y)])) := Lib.hid own2
          clear own2 gr2
          refine hK _ _ ?_
          clear hK K
          refine wpAny_ready (rs := [8]) (by kernel_rfl) (by simp) ?_
          refine AllReady.cons rfl (fun K hK => ?_) AllReady.nil
          go_simp
          try (refine hK _ _ ?_; clear hK K)
          refine wpAny_done (by kernel_rfl) ?_ _
          go_wp2_with (at_builtin; refine step_round _ rfl _ _ 25 rfl W0.heap.size 46 i0 (.agg #[.int .i64 0, .int .i64 0]) Try.underlying25 hi hz0 hz1 hz2 rfl _ (0 + pk + 1) (l.take pk ++ [(X, Y)]) rfl (by rw [cs_append]; exact HO5.out) (some ⟨b, off2, none⟩) _ _ (l.drop pk) rfl HL2.out (HD.out.kept (HbW.out.trans (HB5.out.mono HbW.out.size))) (fun h => by cases h) (by omega) HB5.out.size ?_)
          intro u3 v6 own3 hb3
          obtain ⟨ao9, cap9, rfl, _⟩ := own_shape own3 HLL.out
          have Own3 : Hid (v6.ownsRow w.heap.size 46 2 (.slice ao9 (pk + 1 + (n - pk)) cap9) (ins l X Y).length (cs (ins l X Y))) := Lib.hid (HINS.out _ _ (own_base HbW.out.size own3))
          have HB6 : Hid (Below w.heap.size w v6) := Lib.hid (HbW.out.trans ((HB5.out.trans hb3).mono HbW.out.size))
          clear own3 hb3
          go_wp2_with fail
          go_ret2
          exact ⟨_, rfl, Own3.out, HB6.out⟩
        refine AllReady.cons rfl (fun K hK => ?_) AllReady.nil
        go_simp
        try (refine hK _ _ ?_; clear hK K)
        refine wpAny_ready (rs := [0]) (by kernel_rfl) (by simp) ?_
        refine AllReady.cons rfl (fun K hK => ?_) AllReady.nil
        go_simp
        try (refine hK _ _ ?_; clear hK K)
        obtain ⟨v3, hv3⟩ : ∃ v3, v2.alloc (Obj.cells #[] 46) = v3 := ⟨_, rfl⟩
        rw [hv3]
        have HA3 : Hid (Below v2.heap.size v2 v3) := Lib.hid (by rw [← hv3]; exact (Below.refl _ _).alloc (Nat.le_refl _) _)
        have HB3 : Hid (Below W0.heap.size W0 v3) := Lib.hid (HB2.out.trans (HA3.out.mono HB2.out.size))
        obtain ⟨e0, he0⟩ : ∃ e0, v2.heap.size = e0 := ⟨_, rfl⟩
        have HE3 : Hid (v3.ownsRow W0.heap.size 46 2 (.slice (some ⟨e0, 0, none⟩) 0 0) 0 []) := Lib.hid (by rw [← he0, ← hv3]; exact World.ownsRow_lit v2 #[] 0 HB2.out.size (by unfold maxLen; omega) rfl)
        have hqe : q ≠ e0 := by rw [← he0]; have := HP2.out.2.2; omega
        have HP3 : Hid (v3.cell? ⟨q, 0, none⟩ = some (.int .i64 X) ∧ v3.cell? ⟨q, 1, none⟩ = some (.int .i64 Y) ∧ q < v3.heap.size) := Lib.hid ⟨cell_old HA3.out HP2.out.1, cell_old HA3.out HP2.out.2.1, Nat.lt_of_lt_of_le HP2.out.2.2 HA3.out.size⟩
        rw [he0]
        clear he0 hv3
        refine wpAny_ready (rs := [4]) (by kernel_rfl) (by simp) ?_
        refine AllReady.cons rfl (fun K hK => ?_) AllReady.nil
        refine step_append_mine _ (by rfl) _ _ 25 (by rfl) W0.heap.size 46 i0 _ 2 16 Try.underlying25 hi hz0 hz1 hz2 rfl (by omega) _ 0 [] (by rfl) HE3.out ⟨b, off, none⟩ pk _ (cs (l.take pk)) (by rfl) HL1.out (HN1.out _ HB3.out) (cs_one _) (by unfold maxLen; omega) (by omega) HB3.out.size ?_
        intro u1 v4 own1 gr1
        have HB4 : Hid (Below W0.heap.size W0 v4) := Lib.hid (HB3.out.grown gr1 HB3.out.size (fun b hb => (HE3.out.lt b hb).1))
        have HO4 : Hid (v4.ownsRow W0.heap.size 46 2 u1 (0 + pk) ([] ++ cs (l.take pk))) := Lib.hid own1
        have HP4 : Hid (v4.cell? ⟨q, 0, none⟩ = some (.int .i64 X) ∧ v4.cell? ⟨q, 1, none⟩ = some (.int .i64 Y) ∧ q < v4.heap.size) := Lib.hid ⟨gr1.cell HP3.out.1 (fun h => hqe (Option.some.inj h)), gr1.cell HP3.out.2.1 (fun h => hqe (Option.some.inj h)), Nat.lt_of_lt_of_le HP3.out.2.2 gr1.size⟩
        clear own1 gr1
        refine hK _ _ ?_
        clear hK K
        refine wpAny_ready (rs := [7]) (by kernel_rfl) (by simp) ?_
        refine AllReady.cons rfl (fun K hK => ?_) AllReady.nil
        refine step_append_mine _ (by rfl) _ _ 25 (by rfl) W0.heap.size 46 i0 _ 2 16 Try.underlying25 hi hz0 hz1 hz2 rfl (by omega) _ (0 + pk) ([] ++ cs (l.take pk)) (by rfl) HO4.out ⟨q, 0, none⟩ 1 _ (cs [(X, Y)]) (by rfl) rfl (pair_news HP4.out.1 HP4.out.2.1) (cs_one _) (by unfold maxLen; omega) (by omega) HB4.out.size ?_
        intro u2 v5 own2 gr2
        have HB5 : Hid (Below W0.heap.size W0 v5) := Lib.hid (HB4.out.grown gr2 HB4.out.size (fun b hb => (HO4.out.lt b hb).1))
        have HO5 : Hid (v5.ownsRow W0.heap.size 46 2 u2 (0 + pk + 1) ([] ++ cs (l.take pk) ++ cs [(X, Y)])) := Lib.hid own2
        clear own2 gr2
        refine hK _ _ ?_
        clear hK K
        refine wpAny_ready (rs := [8]) (by kernel_rfl) (by simp) ?_
        refine AllReady.cons rfl (fun K hK => ?_) AllReady.nil
        go_simp
        try (refine hK _ _ ?_; clear hK K)
        refine wpAny_done (by kernel_rfl) ?_ _
        go_wp2_with (at_builtin; refine step_round _ rfl _ _ 25 rfl W0.heap.size 46 i0 (.agg #[.int .i64 0, .int .i64 0]) Try.underlying25 hi hz0 hz1 hz2 rfl _ (0 + pk + 1) (l.take pk ++ [(X, Y)]) rfl (by rw [cs_append]; exact HO5.out) (some ⟨b, off2, none⟩) _ _ (l.drop pk) rfl HL2.out (HD.out.kept (HbW.out.trans (HB5.out.mono HbW.out.size))) (fun h => by cases h) (by omega) HB5.out.size ?_)
        intro u3 v6 own3 hb3
        obtain ⟨ao9, cap9, rfl, _⟩ := own_shape own3 HLL.out
        have Own3 : Hid (v6.ownsRow w.heap.size 46 2 (.slice ao9 (pk + 1 + (n - pk)) cap9) (ins l X Y).length (cs (ins l X Y))) := Lib.hid (HINS.out _ _ (own_base HbW.out.size own3))
        have HB6 : Hid (Below w.heap.size w v6) := Lib.hid (HbW.out.trans ((HB5.out.trans hb3).mono HbW.out.size))
        clear own3 hb3
        go_wp2_with fail
        go_ret2
        exact ⟨_, rfl, Own3.out, HB6.out⟩

end Go.Proofs.Ytbddhjpofijmpaa
