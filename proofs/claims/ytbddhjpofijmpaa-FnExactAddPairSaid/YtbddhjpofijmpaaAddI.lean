/- A network with a pair more: the program. -/
import Derived.Test.YtbddhjpofijmpaaBs
namespace Go.Proofs.Ytbddhjpofijmpaa
open Go.ChangeShapes Go.WideShapes Go.ChangeAt Go.RowKit
set_option linter.unusedVariables false


/-- The place of a pair in a network. -/
def plc (l : List (Int × Int)) (X Y : Int) : Nat := (l.takeWhile fun p => decide (befC p (X, Y))).length
theorem plc_eq {X Y : Int} : ∀ {l : List (Int × Int)} {k : Nat}, (∀ j, j < k → befC (ca l j, cb l j) (X, Y)) → (k < l.length → ¬ befC (ca l k, cb l k) (X, Y)) → k ≤ l.length → plc l X Y = k
  | [], k, _, _, h => by simp at h; subst h; rfl
  | a :: r, 0, _, h2, _ => by
    have h := h2 (by simp)
    have e : (ca (a :: r) 0, cb (a :: r) 0) = a := by simp [ca, cb]
    rw [e] at h
    simp [plc, h]
  | a :: r, k + 1, h1, h2, h3 => by
    have h := h1 0 (by omega)
    have e : (ca (a :: r) 0, cb (a :: r) 0) = a := by simp [ca, cb]
    rw [e] at h
    have ih := plc_eq (X := X) (Y := Y) (l := r) (k := k) (fun j hj => by have := h1 (j + 1) (by omega); simpa [ca, cb] using this) (fun hk => by have := h2 (by simp; omega); simpa [ca, cb] using this) (by simp at h3; omega)
    unfold plc at ih ⊢
    simp [h, ih]
/-- A network with a pair more. -/
def ins (l : List (Int × Int)) (X Y : Int) : List (Int × Int) := l.take (plc l X Y) ++ ([(X, Y)] ++ l.drop (plc l X Y))
theorem ins_len (l : List (Int × Int)) (X Y : Int) : (ins l X Y).length = l.length + 1 := by
  have h : plc l X Y ≤ l.length := by unfold plc; exact (List.takeWhile_sublist _).length_le
  simp only [ins, List.length_append, List.length_take, List.length_drop, List.length_cons, List.length_nil]
  omega
def addB (f : Int) (l : List (Int × Int)) (X Y : Int) : Bool := netB f l && (calB f X Y && !hasC l X Y)
def addR (f : Int) (l : List (Int × Int)) (X Y : Int) : List (Int × Int) := if addB f l X Y then ins l X Y else []
theorem addR_len (f : Int) (l : List (Int × Int)) (X Y : Int) : (addR f l X Y).length ≤ 61 := by
  unfold addR
  cases h : addB f l X Y
  · simp
  · simp only [addB, Bool.and_eq_true] at h
    have := net_len60 h.1
    simp only [if_true, ins_len]
    omega

set_option maxRecDepth 20000 in
theorem concat3 (w : World) (B off off2 b q cap0 cap1 cap2 n0 n1 n2 : Nat) (p m d : List (Int × Int)) (H0 : Hid (n0 = p.length ∧ n0 ≤ cap0)) (H1 : Hid (n1 = m.length ∧ n1 ≤ cap1)) (H2 : Hid (n2 = d.length ∧ n2 ≤ cap2)) (hp : n0 ≤ 60) (hm : n1 ≤ 60) (hd : n2 ≤ 60)
    (HC : Hid (w.cell? ⟨B, 0, none⟩ = some (.slice (some ⟨b, off, none⟩) n0 cap0) ∧ w.cell? ⟨B, 1, none⟩ = some (.slice (some ⟨q, 0, none⟩) n1 cap1) ∧ w.cell? ⟨B, 2, none⟩ = some (.slice (some ⟨b, off2, none⟩) n2 cap2)))
    (HP : Hid (CallsAt w (some ⟨b, off, none⟩) p)) (HM : Hid (CallsAt w (some ⟨q, 0, none⟩) m)) (HD : Hid (CallsAt w (some ⟨b, off2, none⟩) d)) :
    Calls Try.prog 60 #[.slice (some ⟨B, 0, none⟩) 3 3] w fun e w' => ∃ v, e = .returned v ∧ w'.ownsRow w.heap.size 46 2 v (p ++ (m ++ d)).length (cs (p ++ (m ++ d))) ∧ Below w.heap.size w w' := by
  have e : [p, m, d].flatten = p ++ (m ++ d) := by simp
  have h := concat_any w (some ⟨B, 0, none⟩) 3 [p, m, d] 3 rfl (by omega) (by
      intro i
      match i with
      | 0 => show p.length ≤ 60; have := H0.out.1; omega
      | 1 => show m.length ≤ 60; have := H1.out.1; omega
      | 2 => show d.length ≤ 60; have := H2.out.1; omega
      | (i + 3) => simp [crow]) (by
      refine .inr ⟨B, 0, (fun i => if i = 0 then some ⟨b, off, none⟩ else if i = 1 then some ⟨q, 0, none⟩ else some ⟨b, off2, none⟩), (fun i => if i = 0 then cap0 else if i = 1 then cap1 else cap2), rfl, ?_, ?_⟩
      · intro i hi
        match i, hi with
        | 0, _ =>
          refine ⟨?_, HP.out⟩
          show w.cell? ⟨B, 0, none⟩ = some (.slice (some ⟨b, off, none⟩) p.length cap0)
          rw [← H0.out.1]; exact HC.out.1
        | 1, _ =>
          refine ⟨?_, HM.out⟩
          show w.cell? ⟨B, 1, none⟩ = some (.slice (some ⟨q, 0, none⟩) m.length cap1)
          rw [← H1.out.1]; exact HC.out.2.1
        | 2, _ =>
          refine ⟨?_, HD.out⟩
          show w.cell? ⟨B, 2, none⟩ = some (.slice (some ⟨b, off2, none⟩) d.length cap2)
          rw [← H2.out.1]; exact HC.out.2.2
        | (i + 3), hi => simp at hi; omega
      · intro i hi
        match i, hi with
        | 0, _ => exact ⟨by show p.length ≤ cap0; have := H0.out; omega, fun h => by simp at h⟩
        | 1, _ => exact ⟨by show m.length ≤ cap1; have := H1.out; omega, fun h => by simp at h⟩
        | 2, _ => exact ⟨by show d.length ≤ cap2; have := H2.out; omega, fun h => by simp at h⟩
        | (i + 3), hi => simp at hi; omega)
  rw [e] at h
  exact h

set_option maxHeartbeats 1600000 in
set_option maxRecDepth 20000 in
theorem implAdd_at (b off off2 cap : Nat) (f X Y : Int) (l : List (Int × Int)) (n k : Nat) (w : World) (Hn : Hid (n = l.length)) (hcap : n ≤ cap) (Hg : Hid (netB f l = true)) (Hcal : Hid (calB f X Y = true)) (Hhas : Hid (hasC l X Y = false)) (hk : k ≤ n) (Hpl : Hid (plc l X Y = k))
    (hif : (if cap = k then (some ⟨b, off, none⟩ : Option Addr) else some ⟨b, off + k * 2, none⟩) = some ⟨b, off2, none⟩)
    (HA : Hid (CallsAt w (some ⟨b, off, none⟩) l)) (HP : Hid (CallsAt w (some ⟨b, off, none⟩) (l.take k))) (HD : Hid (CallsAt w (some ⟨b, off2, none⟩) (l.drop k)))
    (Hu : Hid (∀ k', k' ≤ n → (∀ j, j < k' → befC (ca l j, cb l j) (X, Y)) → (∀ j, k' ≤ j → j < n → ¬ befC (ca l j, cb l j) (X, Y)) → k' = k)) :
    Calls Try.prog 36 #[.int .i64 f, .slice (some ⟨b, off, none⟩) n cap, .agg #[.int .i64 X, .int .i64 Y]] w fun e w' => ∃ v, e = .returned (.tuple #[v, .bool true]) ∧ w'.ownsRow w.heap.size 46 2 v (ins l X Y).length (cs (ins l X Y)) ∧ Below w.heap.size w w' := by
  have h60 : n ≤ 60 := by rw [Hn.out]; exact net_len60 Hg.out
  have hff := net_fr Hg.out
  have Hinc := Lib.hid (net_inc Hg.out)
  have Hins : Hid (ins l X Y = l.take k ++ ([(X, Y)] ++ l.drop k)) := Lib.hid (by rw [ins, Hpl.out])
  have H0 : Hid (k = (l.take k).length ∧ k ≤ cap) := Lib.hid ⟨by rw [List.length_take, ← Hn.out]; omega, by omega⟩
  have H2 : Hid (n - k = (l.drop k).length ∧ n - k ≤ cap - k) := Lib.hid ⟨by rw [List.length_drop, ← Hn.out], by omega⟩
  have hm60 : n - k ≤ 60 := by omega
  generalize l.take k = p at *
  generalize l.drop k = d at *
  rw [Hins.out]
  go_enter Try.func36, Try.ntmps36
  go_wp2_with fail
  obtain ⟨W0, hW0⟩ : ∃ W0, w.alloc (Obj.cells #[Value.int IntKind.i64 X, Value.int IntKind.i64 Y] 46) = W0 := ⟨_, rfl⟩
  have c0 : W0.cell? ⟨w.heap.size, 0, none⟩ = some (.int .i64 X) := by rw [← hW0]; simp
  have c1 : W0.cell? ⟨w.heap.size, 1, none⟩ = some (.int .i64 Y) := by rw [← hW0]; simp
  have hbW : Below w.heap.size w W0 := by rw [← hW0]; exact (Below.refl _ _).alloc (Nat.le_refl _) _
  rw [hW0]
  clear hW0
  have C0 := Lib.hid c0
  have C1 := Lib.hid c1
  have HbW := Lib.hid hbW
  clear c0 c1 hbW
  go_wp2_with fail
  refine (implPairs_any W0 f _ cap l n Hn (by omega) (HA.out.kept HbW.out)).mono ?_
  rintro e w1 ⟨rfl, hb1⟩
  rw [Hg.out]
  have c0 := cell_old hb1 C0.out
  have c1 := cell_old hb1 C1.out
  go_wp2_with fail
  refine (isCall_any f X Y w1).mono ?_
  rintro e w2 ⟨rfl, hb2⟩
  rw [Hcal.out]
  have hb3 := hb1.trans (hb2.mono hb1.size)
  clear hb1 hb2 c0 c1
  have c0 := cell_old hb3 C0.out
  have c1 := cell_old hb3 C1.out
  have hbel : Below w.heap.size w w2 := HbW.out.trans (hb3.mono HbW.out.size)
  go_wp2_with fail
  refine (bsearch_any _ cap l n X Y w2 Hn h60 Hinc (HA.out.kept hbel)).mono ?_
  rintro e w3 ⟨k', rfl, hk', hl1, hl2, hb4⟩
  obtain rfl : k' = k := Hu.out k' hk' hl1 hl2
  rw [Hhas.out]
  have HB0 : Hid (Below W0.heap.size W0 w3) := Lib.hid (hb3.trans (hb4.mono hb3.size))
  have HBw : Hid (Below w.heap.size w w3) := Lib.hid (hbel.trans (hb4.mono hbel.size))
  clear hb3 hb4 hbel c0 c1 hl1 hl2 hk'
  have hk0 : (0 : Int) ≤ (k' : Int) := by omega
  have hk1 : (k' : Int) ≤ (n : Int) := by omega
  have hk2 : (k' : Int) ≤ (cap : Int) := by omega
  have hk5 : (n : Int) ≤ (cap : Int) := by omega
  go_wp2_with fail
  have c0 : w3.drew.cell? ⟨w.heap.size, 0, none⟩ = some (.int .i64 X) := cell_old HB0.out.drew C0.out
  have c1 : w3.drew.cell? ⟨w.heap.size, 1, none⟩ = some (.int .i64 Y) := cell_old HB0.out.drew C1.out
  have HB1 : Hid (Below w.heap.size w w3.drew) := Lib.hid HBw.out.drew
  have hnk : (n : Int) - (k' : Int) = ((n - k' : Nat) : Int) := by omega
  refine wp_region_any (by kernel_rfl) ?_
  change wpAny _ _ _ _ _ _ _ (World.drew _)
  obtain ⟨v1, hv1⟩ : ∃ v1, w3.drew = v1 := ⟨_, rfl⟩
  rw [hv1] at c0 c1 HB1 ⊢
  clear hv1
  refine wpAny_take (i := 0) (v := ?_) rfl (by kernel_rfl) (by kernel_rfl) (by kernel_rfl) (fun _ _ _ h => h) (Or.inl ⟨by rfl, ?y0⟩) ?_
  case y0 => intro w; go_simp; first | done | with_reducible rfl
  refine wpAny_take (i := 1) (v := ?_) rfl (by kernel_rfl) (by kernel_rfl) (by kernel_rfl) (fun _ _ _ h => h) (Or.inl ⟨by rfl, ?y1⟩) ?_
  case y1 => intro w; go_simp; first | done | with_reducible rfl
  refine wpAny_take (i := 5) (v := ?_) rfl (by kernel_rfl) (by kernel_rfl) (by kernel_rfl) (fun _ _ _ h => h) (Or.inl ⟨by rfl, ?y5⟩) ?_
  case y5 => intro w; go_simp; first | done | with_reducible rfl
  refine wpAny_take (i := 6) (v := ?_) rfl (by kernel_rfl) (by kernel_rfl) (by kernel_rfl) (fun _ _ _ h => h) (Or.inl ⟨by rfl, ?y6⟩) ?_
  case y6 => intro w; go_simp; first | done | with_reducible rfl
  refine wpAny_ready (rs := [2, 3, 7]) (by kernel_rfl) (by simp) ?_
  refine AllReady.cons rfl (fun K hK => ?_) ?_
  · go_simp
    try (refine hK _ _ ?_; clear hK K)
    refine wpAny_ready (rs := [3, 7]) (by kernel_rfl) (by simp) ?_
    refine AllReady.cons rfl (fun K hK => ?_) ?_
    · go_simp
      try (refine hK _ _ ?_; clear hK K)
      refine wpAny_ready (rs := [4, 7]) (by kernel_rfl) (by simp) ?_
      refine AllReady.cons rfl (fun K hK => ?_) ?_
      · go_simp
        try (refine hK _ _ ?_; clear hK K)
        obtain ⟨v2, hv2⟩ : ∃ v2, v1.alloc (Obj.cells #[Value.int IntKind.i64 X, Value.int IntKind.i64 Y] 46) = v2 := ⟨_, rfl⟩
        rw [hv2]
        have HM : Hid (CallsAt v2 (some ⟨v1.heap.size, 0, none⟩) [(X, Y)]) := Lib.hid (.inr ⟨v1.heap.size, 0, rfl, fun i hi => by
          obtain rfl : i = 0 := by simp at hi; omega
          rw [← hv2]; simp [ca, cb]⟩)
        have HB2 : Hid (Below w.heap.size w v2) := Lib.hid (by rw [← hv2]; exact HB1.out.alloc HB1.out.size _)
        clear hv2 c0 c1
        refine wpAny_ready (rs := [7]) (by kernel_rfl) (by simp) ?_
        refine AllReady.cons rfl (fun K hK => ?_) AllReady.nil
        go_simp
        try (refine hK _ _ ?_; clear hK K)
        refine wpAny_ready (rs := [8]) (by kernel_rfl) (by simp) ?_
        refine AllReady.cons rfl (fun K hK => ?_) AllReady.nil
        go_simp
        try (refine hK _ _ ?_; clear hK K)
        obtain ⟨v3, hv3⟩ : ∃ v3, v2.alloc (Obj.cells #[Value.slice (some ⟨b, off, none⟩) k' cap, Value.slice (some ⟨v1.heap.size, 0, none⟩) 1 1, Value.slice (some ⟨b, off2, none⟩) (n - k') (cap - k')] 25) = v3 := ⟨_, rfl⟩
        rw [hv3]
        have HC3 : Hid (v3.cell? ⟨v2.heap.size, 0, none⟩ = some (.slice (some ⟨b, off, none⟩) k' cap) ∧ v3.cell? ⟨v2.heap.size, 1, none⟩ = some (.slice (some ⟨v1.heap.size, 0, none⟩) 1 1) ∧ v3.cell? ⟨v2.heap.size, 2, none⟩ = some (.slice (some ⟨b, off2, none⟩) (n - k') (cap - k'))) := Lib.hid (by rw [← hv3]; simp)
        have HB3 : Hid (Below w.heap.size w v3) := Lib.hid (by rw [← hv3]; exact HB2.out.alloc HB2.out.size _)
        have HM3 : Hid (CallsAt v3 (some ⟨v1.heap.size, 0, none⟩) [(X, Y)]) := Lib.hid (by rw [← hv3]; exact HM.out.kept ((Below.refl _ _).alloc (Nat.le_refl _) _))
        clear hv3
        refine wpAny_ready (rs := [9]) (by kernel_rfl) (by simp) ?_
        refine AllReady.cons rfl (fun K hK => ?_) AllReady.nil
        go_simp
        go_wp2_with (go_at_call 60; refine (concat3 v3 v2.heap.size off off2 b v1.heap.size cap 1 (cap - k') k' 1 (n - k') p [(X, Y)] d H0 (Lib.hid ⟨rfl, Nat.le_refl _⟩) H2 (by omega) (by omega) hm60 HC3 (HP.out.kept HB3.out) HM3 (HD.out.kept HB3.out)).mono ?_; rintro e v4 ⟨u, rfl, own4, hb4⟩)
        try (refine hK _ _ ?_; clear hK K)
        obtain ⟨N4, hN4⟩ : ∃ N4, (p ++ ([(X, Y)] ++ d)).length = N4 := ⟨_, rfl⟩
        rw [hN4] at own4
        obtain ⟨ao2, cap2, rfl, _⟩ := own_shape own4 hN4.symm
        have Hown : Hid (v4.ownsRow w.heap.size 46 2 (.slice ao2 N4 cap2) (p ++ ([(X, Y)] ++ d)).length (cs (p ++ ([(X, Y)] ++ d)))) := Lib.hid (by rw [hN4]; exact own_base HB3.out.size own4)
        clear hN4
        have HB4 : Hid (Below w.heap.size w v4) := Lib.hid (HB3.out.trans (hb4.mono HB3.out.size))
        clear own4 hb4
        refine wpAny_ready (rs := [10]) (by kernel_rfl) (by simp) ?_
        refine AllReady.cons rfl (fun K hK => ?_) AllReady.nil
        go_simp
        try (refine hK _ _ ?_; clear hK K)
        refine wpAny_ready (rs := [11]) (by kernel_rfl) (by simp) ?_
        refine AllReady.cons rfl (fun K hK => ?_) AllReady.nil
        go_simp
        try (refine hK _ _ ?_; clear hK K)
        refine wpAny_done (by kernel_rfl) ?_ _
        go_wp2_with fail
        go_ret2
        exact ⟨_, rfl, Hown.out, HB4.out⟩
      refine AllReady.cons rfl (fun K hK => ?_) AllReady.nil
      go_simp
      try (refine hK _ _ ?_; clear hK K)
      refine wpAny_ready (rs := [4]) (by kernel_rfl) (by simp) ?_
      refine AllReady.cons rfl (fun K hK => ?_) AllReady.nil
      go_simp
      try (refine hK _ _ ?_; clear hK K)
      obtain ⟨v2, hv2⟩ : ∃ v2, v1.alloc (Obj.cells #[Value.int IntKind.i64 X, Value.int IntKind.i64 Y] 46) = v2 := ⟨_, rfl⟩
      rw [hv2]
      have HM : Hid (CallsAt v2 (some ⟨v1.heap.size, 0, none⟩) [(X, Y)]) := Lib.hid (.inr ⟨v1.heap.size, 0, rfl, fun i hi => by
        obtain rfl : i = 0 := by simp at hi; omega
        rw [← hv2]; simp [ca, cb]⟩)
      have HB2 : Hid (Below w.heap.size w v2) := Lib.hid (by rw [← hv2]; exact HB1.out.alloc HB1.out.size _)
      clear hv2 c0 c1
      refine wpAny_ready (rs := [8]) (by kernel_rfl) (by simp) ?_
      refine AllReady.cons rfl (fun K hK => ?_) AllReady.nil
      go_simp
      try (refine hK _ _ ?_; clear hK K)
      obtain ⟨v3, hv3⟩ : ∃ v3, v2.alloc (Obj.cells #[Value.slice (some ⟨b, off, none⟩) k' cap, Value.slice (some ⟨v1.heap.size, 0, none⟩) 1 1, Value.slice (some ⟨b, off2, none⟩) (n - k') (cap - k')] 25) = v3 := ⟨_, rfl⟩
      rw [hv3]
      have HC3 : Hid (v3.cell? ⟨v2.heap.size, 0, none⟩ = some (.slice (some ⟨b, off, none⟩) k' cap) ∧ v3.cell? ⟨v2.heap.size, 1, none⟩ = some (.slice (some ⟨v1.heap.size, 0, none⟩) 1 1) ∧ v3.cell? ⟨v2.heap.size, 2, none⟩ = some (.slice (some ⟨b, off2, none⟩) (n - k') (cap - k'))) := Lib.hid (by rw [← hv3]; simp)
      have HB3 : Hid (Below w.heap.size w v3) := Lib.hid (by rw [← hv3]; exact HB2.out.alloc HB2.out.size _)
      have HM3 : Hid (CallsAt v3 (some ⟨v1.heap.size, 0, none⟩) [(X, Y)]) := Lib.hid (by rw [← hv3]; exact HM.out.kept ((Below.refl _ _).alloc (Nat.le_refl _) _))
      clear hv3
      refine wpAny_ready (rs := [9]) (by kernel_rfl) (by simp) ?_
      refine AllReady.cons rfl (fun K hK => ?_) AllReady.nil
      go_simp
      go_wp2_with (go_at_call 60; refine (concat3 v3 v2.heap.size off off2 b v1.heap.size cap 1 (cap - k') k' 1 (n - k') p [(X, Y)] d H0 (Lib.hid ⟨rfl, Nat.le_refl _⟩) H2 (by omega) (by omega) hm60 HC3 (HP.out.kept HB3.out) HM3 (HD.out.kept HB3.out)).mono ?_; rintro e v4 ⟨u, rfl, own4, hb4⟩)
      try (refine hK _ _ ?_; clear hK K)
      obtain ⟨N4, hN4⟩ : ∃ N4, (p ++ ([(X, Y)] ++ d)).length = N4 := ⟨_, rfl⟩
      rw [hN4] at own4
      obtain ⟨ao2, cap2, rfl, _⟩ := own_shape own4 hN4.symm
      have Hown : Hid (v4.ownsRow w.heap.size 46 2 (.slice ao2 N4 cap2) (p ++ ([(X, Y)] ++ d)).length (cs (p ++ ([(X, Y)] ++ d)))) := Lib.hid (by rw [hN4]; exact own_base HB3.out.size own4)
      clear hN4
      have HB4 : Hid (Below w.heap.size w v4) := Lib.hid (HB3.out.trans (hb4.mono HB3.out.size))
      clear own4 hb4
      refine wpAny_ready (rs := [10]) (by kernel_rfl) (by simp) ?_
      refine AllReady.cons rfl (fun K hK => ?_) AllReady.nil
      go_simp
      try (refine hK _ _ ?_; clear hK K)
      refine wpAny_ready (rs := [11]) (by kernel_rfl) (by simp) ?_
      refine AllReady.cons rfl (fun K hK => ?_) AllReady.nil
      go_simp
      try (refine hK _ _ ?_; clear hK K)
      refine wpAny_done (by kernel_rfl) ?_ _
      go_wp2_with fail
      go_ret2
      exact ⟨_, rfl, Hown.out, HB4.out⟩
    refine AllReady.cons rfl (fun K hK => ?_) AllReady.nil
    go_simp
    try (refine hK _ _ ?_; clear hK K)
    refine wpAny_ready (rs := [3]) (by kernel_rfl) (by simp) ?_
    refine AllReady.cons rfl (fun K hK => ?_) AllReady.nil
    go_simp
    try (refine hK _ _ ?_; clear hK K)
    refine wpAny_ready (rs := [4]) (by kernel_rfl) (by simp) ?_
    refine AllReady.cons rfl (fun K hK => ?_) AllReady.nil
    go_simp
    try (refine hK _ _ ?_; clear hK K)
    obtain ⟨v2, hv2⟩ : ∃ v2, v1.alloc (Obj.cells #[Value.int IntKind.i64 X, Value.int IntKind.i64 Y] 46) = v2 := ⟨_, rfl⟩
    rw [hv2]
    have HM : Hid (CallsAt v2 (some ⟨v1.heap.size, 0, none⟩) [(X, Y)]) := Lib.hid (.inr ⟨v1.heap.size, 0, rfl, fun i hi => by
      obtain rfl : i = 0 := by simp at hi; omega
      rw [← hv2]; simp [ca, cb]⟩)
    have HB2 : Hid (Below w.heap.size w v2) := Lib.hid (by rw [← hv2]; exact HB1.out.alloc HB1.out.size _)
    clear hv2 c0 c1
    refine wpAny_ready (rs := [8]) (by kernel_rfl) (by simp) ?_
    refine AllReady.cons rfl (fun K hK => ?_) AllReady.nil
    go_simp
    try (refine hK _ _ ?_; clear hK K)
    obtain ⟨v3, hv3⟩ : ∃ v3, v2.alloc (Obj.cells #[Value.slice (some ⟨b, off, none⟩) k' cap, Value.slice (some ⟨v1.heap.size, 0, none⟩) 1 1, Value.slice (some ⟨b, off2, none⟩) (n - k') (cap - k')] 25) = v3 := ⟨_, rfl⟩
    rw [hv3]
    have HC3 : Hid (v3.cell? ⟨v2.heap.size, 0, none⟩ = some (.slice (some ⟨b, off, none⟩) k' cap) ∧ v3.cell? ⟨v2.heap.size, 1, none⟩ = some (.slice (some ⟨v1.heap.size, 0, none⟩) 1 1) ∧ v3.cell? ⟨v2.heap.size, 2, none⟩ = some (.slice (some ⟨b, off2, none⟩) (n - k') (cap - k'))) := Lib.hid (by rw [← hv3]; simp)
    have HB3 : Hid (Below w.heap.size w v3) := Lib.hid (by rw [← hv3]; exact HB2.out.alloc HB2.out.size _)
    have HM3 : Hid (CallsAt v3 (some ⟨v1.heap.size, 0, none⟩) [(X, Y)]) := Lib.hid (by rw [← hv3]; exact HM.out.kept ((Below.refl _ _).alloc (Nat.le_refl _) _))
    clear hv3
    refine wpAny_ready (rs := [9]) (by kernel_rfl) (by simp) ?_
    refine AllReady.cons rfl (fun K hK => ?_) AllReady.nil
    go_simp
    go_wp2_with (go_at_call 60; refine (concat3 v3 v2.heap.size off off2 b v1.heap.size cap 1 (cap - k') k' 1 (n - k') p [(X, Y)] d H0 (Lib.hid ⟨rfl, Nat.le_refl _⟩) H2 (by omega) (by omega) hm60 HC3 (HP.out.kept HB3.out) HM3 (HD.out.kept HB3.out)).mono ?_; rintro e v4 ⟨u, rfl, own4, hb4⟩)
    try (refine hK _ _ ?_; clear hK K)
    obtain ⟨N4, hN4⟩ : ∃ N4, (p ++ ([(X, Y)] ++ d)).length = N4 := ⟨_, rfl⟩
    rw [hN4] at own4
    obtain ⟨ao2, cap2, rfl, _⟩ := own_shape own4 hN4.symm
    have Hown : Hid (v4.ownsRow w.heap.size 46 2 (.slice ao2 N4 cap2) (p ++ ([(X, Y)] ++ d)).length (cs (p ++ ([(X, Y)] ++ d)))) := Lib.hid (by rw [hN4]; exact own_base HB3.out.size own4)
    clear hN4
    have HB4 : Hid (Below w.heap.size w v4) := Lib.hid (HB3.out.trans (hb4.mono HB3.out.size))
    clear own4 hb4
    refine wpAny_ready (rs := [10]) (by kernel_rfl) (by simp) ?_
    refine AllReady.cons rfl (fun K hK => ?_) AllReady.nil
    go_simp
    try (refine hK _ _ ?_; clear hK K)
    refine wpAny_ready (rs := [11]) (by kernel_rfl) (by simp) ?_
    refine AllReady.cons rfl (fun K hK => ?_) AllReady.nil
    go_simp
    try (refine hK _ _ ?_; clear hK K)
    refine wpAny_done (by kernel_rfl) ?_ _
    go_wp2_with fail
    go_ret2
    exact ⟨_, rfl, Hown.out, HB4.out⟩
  refine AllReady.cons rfl (fun K hK => ?_) ?_
  · go_simp
    try (refine hK _ _ ?_; clear hK K)
    refine wpAny_ready (rs := [2, 4, 7]) (by kernel_rfl) (by simp) ?_
    refine AllReady.cons rfl (fun K hK => ?_) ?_
    · go_simp
      try (refine hK _ _ ?_; clear hK K)
      refine wpAny_ready (rs := [4, 7]) (by kernel_rfl) (by simp) ?_
      refine AllReady.cons rfl (fun K hK => ?_) ?_
      · go_simp
        try (refine hK _ _ ?_; clear hK K)
        obtain ⟨v2, hv2⟩ : ∃ v2, v1.alloc (Obj.cells #[Value.int IntKind.i64 X, Value.int IntKind.i64 Y] 46) = v2 := ⟨_, rfl⟩
        rw [hv2]
        have HM : Hid (CallsAt v2 (some ⟨v1.heap.size, 0, none⟩) [(X, Y)]) := Lib.hid (.inr ⟨v1.heap.size, 0, rfl, fun i hi => by
          obtain rfl : i = 0 := by simp at hi; omega
          rw [← hv2]; simp [ca, cb]⟩)
        have HB2 : Hid (Below w.heap.size w v2) := Lib.hid (by rw [← hv2]; exact HB1.out.alloc HB1.out.size _)
        clear hv2 c0 c1
        refine wpAny_ready (rs := [7]) (by kernel_rfl) (by simp) ?_
        refine AllReady.cons rfl (fun K hK => ?_) AllReady.nil
        go_simp
        try (refine hK _ _ ?_; clear hK K)
        refine wpAny_ready (rs := [8]) (by kernel_rfl) (by simp) ?_
        refine AllReady.cons rfl (fun K hK => ?_) AllReady.nil
        go_simp
        try (refine hK _ _ ?_; clear hK K)
        obtain ⟨v3, hv3⟩ : ∃ v3, v2.alloc (Obj.cells #[Value.slice (some ⟨b, off, none⟩) k' cap, Value.slice (some ⟨v1.heap.size, 0, none⟩) 1 1, Value.slice (some ⟨b, off2, none⟩) (n - k') (cap - k')] 25) = v3 := ⟨_, rfl⟩
        rw [hv3]
        have HC3 : Hid (v3.cell? ⟨v2.heap.size, 0, none⟩ = some (.slice (some ⟨b, off, none⟩) k' cap) ∧ v3.cell? ⟨v2.heap.size, 1, none⟩ = some (.slice (some ⟨v1.heap.size, 0, none⟩) 1 1) ∧ v3.cell? ⟨v2.heap.size, 2, none⟩ = some (.slice (some ⟨b, off2, none⟩) (n - k') (cap - k'))) := Lib.hid (by rw [← hv3]; simp)
        have HB3 : Hid (Below w.heap.size w v3) := Lib.hid (by rw [← hv3]; exact HB2.out.alloc HB2.out.size _)
        have HM3 : Hid (CallsAt v3 (some ⟨v1.heap.size, 0, none⟩) [(X, Y)]) := Lib.hid (by rw [← hv3]; exact HM.out.kept ((Below.refl _ _).alloc (Nat.le_refl _) _))
        clear hv3
        refine wpAny_ready (rs := [9]) (by kernel_rfl) (by simp) ?_
        refine AllReady.cons rfl (fun K hK => ?_) AllReady.nil
        go_simp
        go_wp2_with (go_at_call 60; refine (concat3 v3 v2.heap.size off off2 b v1.heap.size cap 1 (cap - k') k' 1 (n - k') p [(X, Y)] d H0 (Lib.hid ⟨rfl, Nat.le_refl _⟩) H2 (by omega) (by omega) hm60 HC3 (HP.out.kept HB3.out) HM3 (HD.out.kept HB3.out)).mono ?_; rintro e v4 ⟨u, rfl, own4, hb4⟩)
        try (refine hK _ _ ?_; clear hK K)
        obtain ⟨N4, hN4⟩ : ∃ N4, (p ++ ([(X, Y)] ++ d)).length = N4 := ⟨_, rfl⟩
        rw [hN4] at own4
        obtain ⟨ao2, cap2, rfl, _⟩ := own_shape own4 hN4.symm
        have Hown : Hid (v4.ownsRow w.heap.size 46 2 (.slice ao2 N4 cap2) (p ++ ([(X, Y)] ++ d)).length (cs (p ++ ([(X, Y)] ++ d)))) := Lib.hid (by rw [hN4]; exact own_base HB3.out.size own4)
        clear hN4
        have HB4 : Hid (Below w.heap.size w v4) := Lib.hid (HB3.out.trans (hb4.mono HB3.out.size))
        clear own4 hb4
        refine wpAny_ready (rs := [10]) (by kernel_rfl) (by simp) ?_
        refine AllReady.cons rfl (fun K hK => ?_) AllReady.nil
        go_simp
        try (refine hK _ _ ?_; clear hK K)
        refine wpAny_ready (rs := [11]) (by kernel_rfl) (by simp) ?_
        refine AllReady.cons rfl (fun K hK => ?_) AllReady.nil
        go_simp
        try (refine hK _ _ ?_; clear hK K)
        refine wpAny_done (by kernel_rfl) ?_ _
        go_wp2_with fail
        go_ret2
        exact ⟨_, rfl, Hown.out, HB4.out⟩
      refine AllReady.cons rfl (fun K hK => ?_) AllReady.nil
      go_simp
      try (refine hK _ _ ?_; clear hK K)
      refine wpAny_ready (rs := [4]) (by kernel_rfl) (by simp) ?_
      refine AllReady.cons rfl (fun K hK => ?_) AllReady.nil
      go_simp
      try (refine hK _ _ ?_; clear hK K)
      obtain ⟨v2, hv2⟩ : ∃ v2, v1.alloc (Obj.cells #[Value.int IntKind.i64 X, Value.int IntKind.i64 Y] 46) = v2 := ⟨_, rfl⟩
      rw [hv2]
      have HM : Hid (CallsAt v2 (some ⟨v1.heap.size, 0, none⟩) [(X, Y)]) := Lib.hid (.inr ⟨v1.heap.size, 0, rfl, fun i hi => by
        obtain rfl : i = 0 := by simp at hi; omega
        rw [← hv2]; simp [ca, cb]⟩)
      have HB2 : Hid (Below w.heap.size w v2) := Lib.hid (by rw [← hv2]; exact HB1.out.alloc HB1.out.size _)
      clear hv2 c0 c1
      refine wpAny_ready (rs := [8]) (by kernel_rfl) (by simp) ?_
      refine AllReady.cons rfl (fun K hK => ?_) AllReady.nil
      go_simp
      try (refine hK _ _ ?_; clear hK K)
      obtain ⟨v3, hv3⟩ : ∃ v3, v2.alloc (Obj.cells #[Value.slice (some ⟨b, off, none⟩) k' cap, Value.slice (some ⟨v1.heap.size, 0, none⟩) 1 1, Value.slice (some ⟨b, off2, none⟩) (n - k') (cap - k')] 25) = v3 := ⟨_, rfl⟩
      rw [hv3]
      have HC3 : Hid (v3.cell? ⟨v2.heap.size, 0, none⟩ = some (.slice (some ⟨b, off, none⟩) k' cap) ∧ v3.cell? ⟨v2.heap.size, 1, none⟩ = some (.slice (some ⟨v1.heap.size, 0, none⟩) 1 1) ∧ v3.cell? ⟨v2.heap.size, 2, none⟩ = some (.slice (some ⟨b, off2, none⟩) (n - k') (cap - k'))) := Lib.hid (by rw [← hv3]; simp)
      have HB3 : Hid (Below w.heap.size w v3) := Lib.hid (by rw [← hv3]; exact HB2.out.alloc HB2.out.size _)
      have HM3 : Hid (CallsAt v3 (some ⟨v1.heap.size, 0, none⟩) [(X, Y)]) := Lib.hid (by rw [← hv3]; exact HM.out.kept ((Below.refl _ _).alloc (Nat.le_refl _) _))
      clear hv3
      refine wpAny_ready (rs := [9]) (by kernel_rfl) (by simp) ?_
      refine AllReady.cons rfl (fun K hK => ?_) AllReady.nil
      go_simp
      go_wp2_with (go_at_call 60; refine (concat3 v3 v2.heap.size off off2 b v1.heap.size cap 1 (cap - k') k' 1 (n - k') p [(X, Y)] d H0 (Lib.hid ⟨rfl, Nat.le_refl _⟩) H2 (by omega) (by omega) hm60 HC3 (HP.out.kept HB3.out) HM3 (HD.out.kept HB3.out)).mono ?_; rintro e v4 ⟨u, rfl, own4, hb4⟩)
      try (refine hK _ _ ?_; clear hK K)
      obtain ⟨N4, hN4⟩ : ∃ N4, (p ++ ([(X, Y)] ++ d)).length = N4 := ⟨_, rfl⟩
      rw [hN4] at own4
      obtain ⟨ao2, cap2, rfl, _⟩ := own_shape own4 hN4.symm
      have Hown : Hid (v4.ownsRow w.heap.size 46 2 (.slice ao2 N4 cap2) (p ++ ([(X, Y)] ++ d)).length (cs (p ++ ([(X, Y)] ++ d)))) := Lib.hid (by rw [hN4]; exact own_base HB3.out.size own4)
      clear hN4
      have HB4 : Hid (Below w.heap.size w v4) := Lib.hid (HB3.out.trans (hb4.mono HB3.out.size))
      clear own4 hb4
      refine wpAny_ready (rs := [10]) (by kernel_rfl) (by simp) ?_
      refine AllReady.cons rfl (fun K hK => ?_) AllReady.nil
      go_simp
      try (refine hK _ _ ?_; clear hK K)
      refine wpAny_ready (rs := [11]) (by kernel_rfl) (by simp) ?_
      refine AllReady.cons rfl (fun K hK => ?_) AllReady.nil
      go_simp
      try (refine hK _ _ ?_; clear hK K)
      refine wpAny_done (by kernel_rfl) ?_ _
      go_wp2_with fail
      go_ret2
      exact ⟨_, rfl, Hown.out, HB4.out⟩
    refine AllReady.cons rfl (fun K hK => ?_) ?_
    · go_simp
      try (refine hK _ _ ?_; clear hK K)
      obtain ⟨v2, hv2⟩ : ∃ v2, v1.alloc (Obj.cells #[Value.int IntKind.i64 X, Value.int IntKind.i64 Y] 46) = v2 := ⟨_, rfl⟩
      rw [hv2]
      have HM : Hid (CallsAt v2 (some ⟨v1.heap.size, 0, none⟩) [(X, Y)]) := Lib.hid (.inr ⟨v1.heap.size, 0, rfl, fun i hi => by
        obtain rfl : i = 0 := by simp at hi; omega
        rw [← hv2]; simp [ca, cb]⟩)
      have HB2 : Hid (Below w.heap.size w v2) := Lib.hid (by rw [← hv2]; exact HB1.out.alloc HB1.out.size _)
      clear hv2 c0 c1
      refine wpAny_ready (rs := [2, 7]) (by kernel_rfl) (by simp) ?_
      refine AllReady.cons rfl (fun K hK => ?_) ?_
      · go_simp
        try (refine hK _ _ ?_; clear hK K)
        refine wpAny_ready (rs := [7]) (by kernel_rfl) (by simp) ?_
        refine AllReady.cons rfl (fun K hK => ?_) AllReady.nil
        go_simp
        try (refine hK _ _ ?_; clear hK K)
        refine wpAny_ready (rs := [8]) (by kernel_rfl) (by simp) ?_
        refine AllReady.cons rfl (fun K hK => ?_) AllReady.nil
        go_simp
        try (refine hK _ _ ?_; clear hK K)
        obtain ⟨v3, hv3⟩ : ∃ v3, v2.alloc (Obj.cells #[Value.slice (some ⟨b, off, none⟩) k' cap, Value.slice (some ⟨v1.heap.size, 0, none⟩) 1 1, Value.slice (some ⟨b, off2, none⟩) (n - k') (cap - k')] 25) = v3 := ⟨_, rfl⟩
        rw [hv3]
        have HC3 : Hid (v3.cell? ⟨v2.heap.size, 0, none⟩ = some (.slice (some ⟨b, off, none⟩) k' cap) ∧ v3.cell? ⟨v2.heap.size, 1, none⟩ = some (.slice (some ⟨v1.heap.size, 0, none⟩) 1 1) ∧ v3.cell? ⟨v2.heap.size, 2, none⟩ = some (.slice (some ⟨b, off2, none⟩) (n - k') (cap - k'))) := Lib.hid (by rw [← hv3]; simp)
        have HB3 : Hid (Below w.heap.size w v3) := Lib.hid (by rw [← hv3]; exact HB2.out.alloc HB2.out.size _)
        have HM3 : Hid (CallsAt v3 (some ⟨v1.heap.size, 0, none⟩) [(X, Y)]) := Lib.hid (by rw [← hv3]; exact HM.out.kept ((Below.refl _ _).alloc (Nat.le_refl _) _))
        clear hv3
        refine wpAny_ready (rs := [9]) (by kernel_rfl) (by simp) ?_
        refine AllReady.cons rfl (fun K hK => ?_) AllReady.nil
        go_simp
        go_wp2_with (go_at_call 60; refine (concat3 v3 v2.heap.size off off2 b v1.heap.size cap 1 (cap - k') k' 1 (n - k') p [(X, Y)] d H0 (Lib.hid ⟨rfl, Nat.le_refl _⟩) H2 (by omega) (by omega) hm60 HC3 (HP.out.kept HB3.out) HM3 (HD.out.kept HB3.out)).mono ?_; rintro e v4 ⟨u, rfl, own4, hb4⟩)
        try (refine hK _ _ ?_; clear hK K)
        obtain ⟨N4, hN4⟩ : ∃ N4, (p ++ ([(X, Y)] ++ d)).length = N4 := ⟨_, rfl⟩
        rw [hN4] at own4
        obtain ⟨ao2, cap2, rfl, _⟩ := own_shape own4 hN4.symm
        have Hown : Hid (v4.ownsRow w.heap.size 46 2 (.slice ao2 N4 cap2) (p ++ ([(X, Y)] ++ d)).length (cs (p ++ ([(X, Y)] ++ d)))) := Lib.hid (by rw [hN4]; exact own_base HB3.out.size own4)
        clear hN4
        have HB4 : Hid (Below w.heap.size w v4) := Lib.hid (HB3.out.trans (hb4.mono HB3.out.size))
        clear own4 hb4
        refine wpAny_ready (rs := [10]) (by kernel_rfl) (by simp) ?_
        refine AllReady.cons rfl (fun K hK => ?_) AllReady.nil
        go_simp
        try (refine hK _ _ ?_; clear hK K)
        refine wpAny_ready (rs := [11]) (by kernel_rfl) (by simp) ?_
        refine AllReady.cons rfl (fun K hK => ?_) AllReady.nil
        go_simp
        try (refine hK _ _ ?_; clear hK K)
        refine wpAny_done (by kernel_rfl) ?_ _
        go_wp2_with fail
        go_ret2
        exact ⟨_, rfl, Hown.out, HB4.out⟩
      refine AllReady.cons rfl (fun K hK => ?_) AllReady.nil
      go_simp
      try (refine hK _ _ ?_; clear hK K)
      refine wpAny_ready (rs := [2]) (by kernel_rfl) (by simp) ?_
      refine AllReady.cons rfl (fun K hK => ?_) AllReady.nil
      go_simp
      try (refine hK _ _ ?_; clear hK K)
      refine wpAny_ready (rs := [8]) (by kernel_rfl) (by simp) ?_
      refine AllReady.cons rfl (fun K hK => ?_) AllReady.nil
      go_simp
      try (refine hK _ _ ?_; clear hK K)
      obtain ⟨v3, hv3⟩ : ∃ v3, v2.alloc (Obj.cells #[Value.slice (some ⟨b, off, none⟩) k' cap, Value.slice (some ⟨v1.heap.size, 0, none⟩) 1 1, Value.slice (some ⟨b, off2, none⟩) (n - k') (cap - k')] 25) = v3 := ⟨_, rfl⟩
      rw [hv3]
      have HC3 : Hid (v3.cell? ⟨v2.heap.size, 0, none⟩ = some (.slice (some ⟨b, off, none⟩) k' cap) ∧ v3.cell? ⟨v2.heap.size, 1, none⟩ = some (.slice (some ⟨v1.heap.size, 0, none⟩) 1 1) ∧ v3.cell? ⟨v2.heap.size, 2, none⟩ = some (.slice (some ⟨b, off2, none⟩) (n - k') (cap - k'))) := Lib.hid (by rw [← hv3]; simp)
      have HB3 : Hid (Below w.heap.size w v3) := Lib.hid (by rw [← hv3]; exact HB2.out.alloc HB2.out.size _)
      have HM3 : Hid (CallsAt v3 (some ⟨v1.heap.size, 0, none⟩) [(X, Y)]) := Lib.hid (by rw [← hv3]; exact HM.out.kept ((Below.refl _ _).alloc (Nat.le_refl _) _))
      clear hv3
      refine wpAny_ready (rs := [9]) (by kernel_rfl) (by simp) ?_
      refine AllReady.cons rfl (fun K hK => ?_) AllReady.nil
      go_simp
      go_wp2_with (go_at_call 60; refine (concat3 v3 v2.heap.size off off2 b v1.heap.size cap 1 (cap - k') k' 1 (n - k') p [(X, Y)] d H0 (Lib.hid ⟨rfl, Nat.le_refl _⟩) H2 (by omega) (by omega) hm60 HC3 (HP.out.kept HB3.out) HM3 (HD.out.kept HB3.out)).mono ?_; rintro e v4 ⟨u, rfl, own4, hb4⟩)
      try (refine hK _ _ ?_; clear hK K)
      obtain ⟨N4, hN4⟩ : ∃ N4, (p ++ ([(X, Y)] ++ d)).length = N4 := ⟨_, rfl⟩
      rw [hN4] at own4
      obtain ⟨ao2, cap2, rfl, _⟩ := own_shape own4 hN4.symm
      have Hown : Hid (v4.ownsRow w.heap.size 46 2 (.slice ao2 N4 cap2) (p ++ ([(X, Y)] ++ d)).length (cs (p ++ ([(X, Y)] ++ d)))) := Lib.hid (by rw [hN4]; exact own_base HB3.out.size own4)
      clear hN4
      have HB4 : Hid (Below w.heap.size w v4) := Lib.hid (HB3.out.trans (hb4.mono HB3.out.size))
      clear own4 hb4
      refine wpAny_ready (rs := [10]) (by kernel_rfl) (by simp) ?_
      refine AllReady.cons rfl (fun K hK => ?_) AllReady.nil
      go_simp
      try (refine hK _ _ ?_; clear hK K)
      refine wpAny_ready (rs := [11]) (by kernel_rfl) (by simp) ?_
      refine AllReady.cons rfl (fun K hK => ?_) AllReady.nil
      go_simp
      try (refine hK _ _ ?_; clear hK K)
      refine wpAny_done (by kernel_rfl) ?_ _
      go_wp2_with fail
      go_ret2
      exact ⟨_, rfl, Hown.out, HB4.out⟩
    refine AllReady.cons rfl (fun K hK => ?_) AllReady.nil
    go_simp
    try (refine hK _ _ ?_; clear hK K)
    refine wpAny_ready (rs := [2, 4]) (by kernel_rfl) (by simp) ?_
    refine AllReady.cons rfl (fun K hK => ?_) ?_
    · go_simp
      try (refine hK _ _ ?_; clear hK K)
      refine wpAny_ready (rs := [4]) (by kernel_rfl) (by simp) ?_
      refine AllReady.cons rfl (fun K hK => ?_) AllReady.nil
      go_simp
      try (refine hK _ _ ?_; clear hK K)
      obtain ⟨v2, hv2⟩ : ∃ v2, v1.alloc (Obj.cells #[Value.int IntKind.i64 X, Value.int IntKind.i64 Y] 46) = v2 := ⟨_, rfl⟩
      rw [hv2]
      have HM : Hid (CallsAt v2 (some ⟨v1.heap.size, 0, none⟩) [(X, Y)]) := Lib.hid (.inr ⟨v1.heap.size, 0, rfl, fun i hi => by
        obtain rfl : i = 0 := by simp at hi; omega
        rw [← hv2]; simp [ca, cb]⟩)
      have HB2 : Hid (Below w.heap.size w v2) := Lib.hid (by rw [← hv2]; exact HB1.out.alloc HB1.out.size _)
      clear hv2 c0 c1
      refine wpAny_ready (rs := [8]) (by kernel_rfl) (by simp) ?_
      refine AllReady.cons rfl (fun K hK => ?_) AllReady.nil
      go_simp
      try (refine hK _ _ ?_; clear hK K)
      obtain ⟨v3, hv3⟩ : ∃ v3, v2.alloc (Obj.cells #[Value.slice (some ⟨b, off, none⟩) k' cap, Value.slice (some ⟨v1.heap.size, 0, none⟩) 1 1, Value.slice (some ⟨b, off2, none⟩) (n - k') (cap - k')] 25) = v3 := ⟨_, rfl⟩
      rw [hv3]
      have HC3 : Hid (v3.cell? ⟨v2.heap.size, 0, none⟩ = some (.slice (some ⟨b, off, none⟩) k' cap) ∧ v3.cell? ⟨v2.heap.size, 1, none⟩ = some (.slice (some ⟨v1.heap.size, 0, none⟩) 1 1) ∧ v3.cell? ⟨v2.heap.size, 2, none⟩ = some (.slice (some ⟨b, off2, none⟩) (n - k') (cap - k'))) := Lib.hid (by rw [← hv3]; simp)
      have HB3 : Hid (Below w.heap.size w v3) := Lib.hid (by rw [← hv3]; exact HB2.out.alloc HB2.out.size _)
      have HM3 : Hid (CallsAt v3 (some ⟨v1.heap.size, 0, none⟩) [(X, Y)]) := Lib.hid (by rw [← hv3]; exact HM.out.kept ((Below.refl _ _).alloc (Nat.le_refl _) _))
      clear hv3
      refine wpAny_ready (rs := [9]) (by kernel_rfl) (by simp) ?_
      refine AllReady.cons rfl (fun K hK => ?_) AllReady.nil
      go_simp
      go_wp2_with (go_at_call 60; refine (concat3 v3 v2.heap.size off off2 b v1.heap.size cap 1 (cap - k') k' 1 (n - k') p [(X, Y)] d H0 (Lib.hid ⟨rfl, Nat.le_refl _⟩) H2 (by omega) (by omega) hm60 HC3 (HP.out.kept HB3.out) HM3 (HD.out.kept HB3.out)).mono ?_; rintro e v4 ⟨u, rfl, own4, hb4⟩)
      try (refine hK _ _ ?_; clear hK K)
      obtain ⟨N4, hN4⟩ : ∃ N4, (p ++ ([(X, Y)] ++ d)).length = N4 := ⟨_, rfl⟩
      rw [hN4] at own4
      obtain ⟨ao2, cap2, rfl, _⟩ := own_shape own4 hN4.symm
      have Hown : Hid (v4.ownsRow w.heap.size 46 2 (.slice ao2 N4 cap2) (p ++ ([(X, Y)] ++ d)).length (cs (p ++ ([(X, Y)] ++ d)))) := Lib.hid (by rw [hN4]; exact own_base HB3.out.size own4)
      clear hN4
      have HB4 : Hid (Below w.heap.size w v4) := Lib.hid (HB3.out.trans (hb4.mono HB3.out.size))
      clear own4 hb4
      refine wpAny_ready (rs := [10]) (by kernel_rfl) (by simp) ?_
      refine AllReady.cons rfl (fun K hK => ?_) AllReady.nil
      go_simp
      try (refine hK _ _ ?_; clear hK K)
      refine wpAny_ready (rs := [11]) (by kernel_rfl) (by simp) ?_
      refine AllReady.cons rfl (fun K hK => ?_) AllReady.nil
      go_simp
      try (refine hK _ _ ?_; clear hK K)
      refine wpAny_done (by kernel_rfl) ?_ _
      go_wp2_with fail
      go_ret2
      exact ⟨_, rfl, Hown.out, HB4.out⟩
    refine AllReady.cons rfl (fun K hK => ?_) AllReady.nil
    go_simp
    try (refine hK _ _ ?_; clear hK K)
    obtain ⟨v2, hv2⟩ : ∃ v2, v1.alloc (Obj.cells #[Value.int IntKind.i64 X, Value.int IntKind.i64 Y] 46) = v2 := ⟨_, rfl⟩
    rw [hv2]
    have HM : Hid (CallsAt v2 (some ⟨v1.heap.size, 0, none⟩) [(X, Y)]) := Lib.hid (.inr ⟨v1.heap.size, 0, rfl, fun i hi => by
      obtain rfl : i = 0 := by simp at hi; omega
      rw [← hv2]; simp [ca, cb]⟩)
    have HB2 : Hid (Below w.heap.size w v2) := Lib.hid (by rw [← hv2]; exact HB1.out.alloc HB1.out.size _)
    clear hv2 c0 c1
    refine wpAny_ready (rs := [2]) (by kernel_rfl) (by simp) ?_
    refine AllReady.cons rfl (fun K hK => ?_) AllReady.nil
    go_simp
    try (refine hK _ _ ?_; clear hK K)
    refine wpAny_ready (rs := [8]) (by kernel_rfl) (by simp) ?_
    refine AllReady.cons rfl (fun K hK => ?_) AllReady.nil
    go_simp
    try (refine hK _ _ ?_; clear hK K)
    obtain ⟨v3, hv3⟩ : ∃ v3, v2.alloc (Obj.cells #[Value.slice (some ⟨b, off, none⟩) k' cap, Value.slice (some ⟨v1.heap.size, 0, none⟩) 1 1, Value.slice (some ⟨b, off2, none⟩) (n - k') (cap - k')] 25) = v3 := ⟨_, rfl⟩
    rw [hv3]
    have HC3 : Hid (v3.cell? ⟨v2.heap.size, 0, none⟩ = some (.slice (some ⟨b, off, none⟩) k' cap) ∧ v3.cell? ⟨v2.heap.size, 1, none⟩ = some (.slice (some ⟨v1.heap.size, 0, none⟩) 1 1) ∧ v3.cell? ⟨v2.heap.size, 2, none⟩ = some (.slice (some ⟨b, off2, none⟩) (n - k') (cap - k'))) := Lib.hid (by rw [← hv3]; simp)
    have HB3 : Hid (Below w.heap.size w v3) := Lib.hid (by rw [← hv3]; exact HB2.out.alloc HB2.out.size _)
    have HM3 : Hid (CallsAt v3 (some ⟨v1.heap.size, 0, none⟩) [(X, Y)]) := Lib.hid (by rw [← hv3]; exact HM.out.kept ((Below.refl _ _).alloc (Nat.le_refl _) _))
    clear hv3
    refine wpAny_ready (rs := [9]) (by kernel_rfl) (by simp) ?_
    refine AllReady.cons rfl (fun K hK => ?_) AllReady.nil
    go_simp
    go_wp2_with (go_at_call 60; refine (concat3 v3 v2.heap.size off off2 b v1.heap.size cap 1 (cap - k') k' 1 (n - k') p [(X, Y)] d H0 (Lib.hid ⟨rfl, Nat.le_refl _⟩) H2 (by omega) (by omega) hm60 HC3 (HP.out.kept HB3.out) HM3 (HD.out.kept HB3.out)).mono ?_; rintro e v4 ⟨u, rfl, own4, hb4⟩)
    try (refine hK _ _ ?_; clear hK K)
    obtain ⟨N4, hN4⟩ : ∃ N4, (p ++ ([(X, Y)] ++ d)).length = N4 := ⟨_, rfl⟩
    rw [hN4] at own4
    obtain ⟨ao2, cap2, rfl, _⟩ := own_shape own4 hN4.symm
    have Hown : Hid (v4.ownsRow w.heap.size 46 2 (.slice ao2 N4 cap2) (p ++ ([(X, Y)] ++ d)).length (cs (p ++ ([(X, Y)] ++ d)))) := Lib.hid (by rw [hN4]; exact own_base HB3.out.size own4)
    clear hN4
    have HB4 : Hid (Below w.heap.size w v4) := Lib.hid (HB3.out.trans (hb4.mono HB3.out.size))
    clear own4 hb4
    refine wpAny_ready (rs := [10]) (by kernel_rfl) (by simp) ?_
    refine AllReady.cons rfl (fun K hK => ?_) AllReady.nil
    go_simp
    try (refine hK _ _ ?_; clear hK K)
    refine wpAny_ready (rs := [11]) (by kernel_rfl) (by simp) ?_
    refine AllReady.cons rfl (fun K hK => ?_) AllReady.nil
    go_simp
    try (refine hK _ _ ?_; clear hK K)
    refine wpAny_done (by kernel_rfl) ?_ _
    go_wp2_with fail
    go_ret2
    exact ⟨_, rfl, Hown.out, HB4.out⟩
  refine AllReady.cons rfl (fun K hK => ?_) AllReady.nil
  go_simp
  try (refine hK _ _ ?_; clear hK K)
  refine wpAny_ready (rs := [2, 3]) (by kernel_rfl) (by simp) ?_
  refine AllReady.cons rfl (fun K hK => ?_) ?_
  · go_simp
    try (refine hK _ _ ?_; clear hK K)
    refine wpAny_ready (rs := [3]) (by kernel_rfl) (by simp) ?_
    refine AllReady.cons rfl (fun K hK => ?_) AllReady.nil
    go_simp
    try (refine hK _ _ ?_; clear hK K)
    refine wpAny_ready (rs := [4]) (by kernel_rfl) (by simp) ?_
    refine AllReady.cons rfl (fun K hK => ?_) AllReady.nil
    go_simp
    try (refine hK _ _ ?_; clear hK K)
    obtain ⟨v2, hv2⟩ : ∃ v2, v1.alloc (Obj.cells #[Value.int IntKind.i64 X, Value.int IntKind.i64 Y] 46) = v2 := ⟨_, rfl⟩
    rw [hv2]
    have HM : Hid (CallsAt v2 (some ⟨v1.heap.size, 0, none⟩) [(X, Y)]) := Lib.hid (.inr ⟨v1.heap.size, 0, rfl, fun i hi => by
      obtain rfl : i = 0 := by simp at hi; omega
      rw [← hv2]; simp [ca, cb]⟩)
    have HB2 : Hid (Below w.heap.size w v2) := Lib.hid (by rw [← hv2]; exact HB1.out.alloc HB1.out.size _)
    clear hv2 c0 c1
    refine wpAny_ready (rs := [8]) (by kernel_rfl) (by simp) ?_
    refine AllReady.cons rfl (fun K hK => ?_) AllReady.nil
    go_simp
    try (refine hK _ _ ?_; clear hK K)
    obtain ⟨v3, hv3⟩ : ∃ v3, v2.alloc (Obj.cells #[Value.slice (some ⟨b, off, none⟩) k' cap, Value.slice (some ⟨v1.heap.size, 0, none⟩) 1 1, Value.slice (some ⟨b, off2, none⟩) (n - k') (cap - k')] 25) = v3 := ⟨_, rfl⟩
    rw [hv3]
    have HC3 : Hid (v3.cell? ⟨v2.heap.size, 0, none⟩ = some (.slice (some ⟨b, off, none⟩) k' cap) ∧ v3.cell? ⟨v2.heap.size, 1, none⟩ = some (.slice (some ⟨v1.heap.size, 0, none⟩) 1 1) ∧ v3.cell? ⟨v2.heap.size, 2, none⟩ = some (.slice (some ⟨b, off2, none⟩) (n - k') (cap - k'))) := Lib.hid (by rw [← hv3]; simp)
    have HB3 : Hid (Below w.heap.size w v3) := Lib.hid (by rw [← hv3]; exact HB2.out.alloc HB2.out.size _)
    have HM3 : Hid (CallsAt v3 (some ⟨v1.heap.size, 0, none⟩) [(X, Y)]) := Lib.hid (by rw [← hv3]; exact HM.out.kept ((Below.refl _ _).alloc (Nat.le_refl _) _))
    clear hv3
    refine wpAny_ready (rs := [9]) (by kernel_rfl) (by simp) ?_
    refine AllReady.cons rfl (fun K hK => ?_) AllReady.nil
    go_simp
    go_wp2_with (go_at_call 60; refine (concat3 v3 v2.heap.size off off2 b v1.heap.size cap 1 (cap - k') k' 1 (n - k') p [(X, Y)] d H0 (Lib.hid ⟨rfl, Nat.le_refl _⟩) H2 (by omega) (by omega) hm60 HC3 (HP.out.kept HB3.out) HM3 (HD.out.kept HB3.out)).mono ?_; rintro e v4 ⟨u, rfl, own4, hb4⟩)
    try (refine hK _ _ ?_; clear hK K)
    obtain ⟨N4, hN4⟩ : ∃ N4, (p ++ ([(X, Y)] ++ d)).length = N4 := ⟨_, rfl⟩
    rw [hN4] at own4
    obtain ⟨ao2, cap2, rfl, _⟩ := own_shape own4 hN4.symm
    have Hown : Hid (v4.ownsRow w.heap.size 46 2 (.slice ao2 N4 cap2) (p ++ ([(X, Y)] ++ d)).length (cs (p ++ ([(X, Y)] ++ d)))) := Lib.hid (by rw [hN4]; exact own_base HB3.out.size own4)
    clear hN4
    have HB4 : Hid (Below w.heap.size w v4) := Lib.hid (HB3.out.trans (hb4.mono HB3.out.size))
    clear own4 hb4
    refine wpAny_ready (rs := [10]) (by kernel_rfl) (by simp) ?_
    refine AllReady.cons rfl (fun K hK => ?_) AllReady.nil
    go_simp
    try (refine hK _ _ ?_; clear hK K)
    refine wpAny_ready (rs := [11]) (by kernel_rfl) (by simp) ?_
    refine AllReady.cons rfl (fun K hK => ?_) AllReady.nil
    go_simp
    try (refine hK _ _ ?_; clear hK K)
    refine wpAny_done (by kernel_rfl) ?_ _
    go_wp2_with fail
    go_ret2
    exact ⟨_, rfl, Hown.out, HB4.out⟩
  refine AllReady.cons rfl (fun K hK => ?_) AllReady.nil
  go_simp
  try (refine hK _ _ ?_; clear hK K)
  refine wpAny_ready (rs := [2, 4]) (by kernel_rfl) (by simp) ?_
  refine AllReady.cons rfl (fun K hK => ?_) ?_
  · go_simp
    try (refine hK _ _ ?_; clear hK K)
    refine wpAny_ready (rs := [4]) (by kernel_rfl) (by simp) ?_
    refine AllReady.cons rfl (fun K hK => ?_) AllReady.nil
    go_simp
    try (refine hK _ _ ?_; clear hK K)
    obtain ⟨v2, hv2⟩ : ∃ v2, v1.alloc (Obj.cells #[Value.int IntKind.i64 X, Value.int IntKind.i64 Y] 46) = v2 := ⟨_, rfl⟩
    rw [hv2]
    have HM : Hid (CallsAt v2 (some ⟨v1.heap.size, 0, none⟩) [(X, Y)]) := Lib.hid (.inr ⟨v1.heap.size, 0, rfl, fun i hi => by
      obtain rfl : i = 0 := by simp at hi; omega
      rw [← hv2]; simp [ca, cb]⟩)
    have HB2 : Hid (Below w.heap.size w v2) := Lib.hid (by rw [← hv2]; exact HB1.out.alloc HB1.out.size _)
    clear hv2 c0 c1
    refine wpAny_ready (rs := [8]) (by kernel_rfl) (by simp) ?_
    refine AllReady.cons rfl (fun K hK => ?_) AllReady.nil
    go_simp
    try (refine hK _ _ ?_; clear hK K)
    obtain ⟨v3, hv3⟩ : ∃ v3, v2.alloc (Obj.cells #[Value.slice (some ⟨b, off, none⟩) k' cap, Value.slice (some ⟨v1.heap.size, 0, none⟩) 1 1, Value.slice (some ⟨b, off2, none⟩) (n - k') (cap - k')] 25) = v3 := ⟨_, rfl⟩
    rw [hv3]
    have HC3 : Hid (v3.cell? ⟨v2.heap.size, 0, none⟩ = some (.slice (some ⟨b, off, none⟩) k' cap) ∧ v3.cell? ⟨v2.heap.size, 1, none⟩ = some (.slice (some ⟨v1.heap.size, 0, none⟩) 1 1) ∧ v3.cell? ⟨v2.heap.size, 2, none⟩ = some (.slice (some ⟨b, off2, none⟩) (n - k') (cap - k'))) := Lib.hid (by rw [← hv3]; simp)
    have HB3 : Hid (Below w.heap.size w v3) := Lib.hid (by rw [← hv3]; exact HB2.out.alloc HB2.out.size _)
    have HM3 : Hid (CallsAt v3 (some ⟨v1.heap.size, 0, none⟩) [(X, Y)]) := Lib.hid (by rw [← hv3]; exact HM.out.kept ((Below.refl _ _).alloc (Nat.le_refl _) _))
    clear hv3
    refine wpAny_ready (rs := [9]) (by kernel_rfl) (by simp) ?_
    refine AllReady.cons rfl (fun K hK => ?_) AllReady.nil
    go_simp
    go_wp2_with (go_at_call 60; refine (concat3 v3 v2.heap.size off off2 b v1.heap.size cap 1 (cap - k') k' 1 (n - k') p [(X, Y)] d H0 (Lib.hid ⟨rfl, Nat.le_refl _⟩) H2 (by omega) (by omega) hm60 HC3 (HP.out.kept HB3.out) HM3 (HD.out.kept HB3.out)).mono ?_; rintro e v4 ⟨u, rfl, own4, hb4⟩)
    try (refine hK _ _ ?_; clear hK K)
    obtain ⟨N4, hN4⟩ : ∃ N4, (p ++ ([(X, Y)] ++ d)).length = N4 := ⟨_, rfl⟩
    rw [hN4] at own4
    obtain ⟨ao2, cap2, rfl, _⟩ := own_shape own4 hN4.symm
    have Hown : Hid (v4.ownsRow w.heap.size 46 2 (.slice ao2 N4 cap2) (p ++ ([(X, Y)] ++ d)).length (cs (p ++ ([(X, Y)] ++ d)))) := Lib.hid (by rw [hN4]; exact own_base HB3.out.size own4)
    clear hN4
    have HB4 : Hid (Below w.heap.size w v4) := Lib.hid (HB3.out.trans (hb4.mono HB3.out.size))
    clear own4 hb4
    refine wpAny_ready (rs := [10]) (by kernel_rfl) (by simp) ?_
    refine AllReady.cons rfl (fun K hK => ?_) AllReady.nil
    go_simp
    try (refine hK _ _ ?_; clear hK K)
    refine wpAny_ready (rs := [11]) (by kernel_rfl) (by simp) ?_
    refine AllReady.cons rfl (fun K hK => ?_) AllReady.nil
    go_simp
    try (refine hK _ _ ?_; clear hK K)
    refine wpAny_done (by kernel_rfl) ?_ _
    go_wp2_with fail
    go_ret2
    exact ⟨_, rfl, Hown.out, HB4.out⟩
  refine AllReady.cons rfl (fun K hK => ?_) AllReady.nil
  go_simp
  try (refine hK _ _ ?_; clear hK K)
  obtain ⟨v2, hv2⟩ : ∃ v2, v1.alloc (Obj.cells #[Value.int IntKind.i64 X, Value.int IntKind.i64 Y] 46) = v2 := ⟨_, rfl⟩
  rw [hv2]
  have HM : Hid (CallsAt v2 (some ⟨v1.heap.size, 0, none⟩) [(X, Y)]) := Lib.hid (.inr ⟨v1.heap.size, 0, rfl, fun i hi => by
    obtain rfl : i = 0 := by simp at hi; omega
    rw [← hv2]; simp [ca, cb]⟩)
  have HB2 : Hid (Below w.heap.size w v2) := Lib.hid (by rw [← hv2]; exact HB1.out.alloc HB1.out.size _)
  clear hv2 c0 c1
  refine wpAny_ready (rs := [2]) (by kernel_rfl) (by simp) ?_
  refine AllReady.cons rfl (fun K hK => ?_) AllReady.nil
  go_simp
  try (refine hK _ _ ?_; clear hK K)
  refine wpAny_ready (rs := [8]) (by kernel_rfl) (by simp) ?_
  refine AllReady.cons rfl (fun K hK => ?_) AllReady.nil
  go_simp
  try (refine hK _ _ ?_; clear hK K)
  obtain ⟨v3, hv3⟩ : ∃ v3, v2.alloc (Obj.cells #[Value.slice (some ⟨b, off, none⟩) k' cap, Value.slice (some ⟨v1.heap.size, 0, none⟩) 1 1, Value.slice (some ⟨b, off2, none⟩) (n - k') (cap - k')] 25) = v3 := ⟨_, rfl⟩
  rw [hv3]
  have HC3 : Hid (v3.cell? ⟨v2.heap.size, 0, none⟩ = some (.slice (some ⟨b, off, none⟩) k' cap) ∧ v3.cell? ⟨v2.heap.size, 1, none⟩ = some (.slice (some ⟨v1.heap.size, 0, none⟩) 1 1) ∧ v3.cell? ⟨v2.heap.size, 2, none⟩ = some (.slice (some ⟨b, off2, none⟩) (n - k') (cap - k'))) := Lib.hid (by rw [← hv3]; simp)
  have HB3 : Hid (Below w.heap.size w v3) := Lib.hid (by rw [← hv3]; exact HB2.out.alloc HB2.out.size _)
  have HM3 : Hid (CallsAt v3 (some ⟨v1.heap.size, 0, none⟩) [(X, Y)]) := Lib.hid (by rw [← hv3]; exact HM.out.kept ((Below.refl _ _).alloc (Nat.le_refl _) _))
  clear hv3
  refine wpAny_ready (rs := [9]) (by kernel_rfl) (by simp) ?_
  refine AllReady.cons rfl (fun K hK => ?_) AllReady.nil
  go_simp
  go_wp2_with (go_at_call 60; refine (concat3 v3 v2.heap.size off off2 b v1.heap.size cap 1 (cap - k') k' 1 (n - k') p [(X, Y)] d H0 (Lib.hid ⟨rfl, Nat.le_refl _⟩) H2 (by omega) (by omega) hm60 HC3 (HP.out.kept HB3.out) HM3 (HD.out.kept HB3.out)).mono ?_; rintro e v4 ⟨u, rfl, own4, hb4⟩)
  try (refine hK _ _ ?_; clear hK K)
  obtain ⟨N4, hN4⟩ : ∃ N4, (p ++ ([(X, Y)] ++ d)).length = N4 := ⟨_, rfl⟩
  rw [hN4] at own4
  obtain ⟨ao2, cap2, rfl, _⟩ := own_shape own4 hN4.symm
  have Hown : Hid (v4.ownsRow w.heap.size 46 2 (.slice ao2 N4 cap2) (p ++ ([(X, Y)] ++ d)).length (cs (p ++ ([(X, Y)] ++ d)))) := Lib.hid (by rw [hN4]; exact own_base HB3.out.size own4)
  clear hN4
  have HB4 : Hid (Below w.heap.size w v4) := Lib.hid (HB3.out.trans (hb4.mono HB3.out.size))
  clear own4 hb4
  refine wpAny_ready (rs := [10]) (by kernel_rfl) (by simp) ?_
  refine AllReady.cons rfl (fun K hK => ?_) AllReady.nil
  go_simp
  try (refine hK _ _ ?_; clear hK K)
  refine wpAny_ready (rs := [11]) (by kernel_rfl) (by simp) ?_
  refine AllReady.cons rfl (fun K hK => ?_) AllReady.nil
  go_simp
  try (refine hK _ _ ?_; clear hK K)
  refine wpAny_done (by kernel_rfl) ?_ _
  go_wp2_with fail
  go_ret2
  exact ⟨_, rfl, Hown.out, HB4.out⟩

theorem drop_addr {w : World} {b off off2 cap n k : Nat} {l : List (Int × Int)} (hn : n = l.length) (hcap : n ≤ cap) (hk : k ≤ n) (hif : (if cap = k then (some ⟨b, off, none⟩ : Option Addr) else some ⟨b, off + k * 2, none⟩) = some ⟨b, off2, none⟩)
    (h : ∀ i, i < l.length → w.cell? ⟨b, off + i * 2, none⟩ = some (.int .i64 (ca l i)) ∧ w.cell? ⟨b, off + i * 2 + 1, none⟩ = some (.int .i64 (cb l i))) : CallsAt w (some ⟨b, off2, none⟩) (l.drop k) := by
  by_cases hc : cap = k
  · left
    exact List.drop_eq_nil_of_le (by omega)
  · rw [if_neg hc] at hif
    cases hif
    exact .inr ⟨b, _, rfl, fun i hi => calls_drop hn (by rw [hn]; exact h) k i hi⟩

theorem implAdd_any (w : World) (b off cap : Nat) (f X Y : Int) (l : List (Int × Int)) (n : Nat) (Hn : Hid (n = l.length)) (hs : n ≤ 1048576) (hcap : n ≤ cap)
    (Hc : Hid (∀ i, i < l.length → w.cell? ⟨b, off + i * 2, none⟩ = some (.int .i64 (ca l i)) ∧ w.cell? ⟨b, off + i * 2 + 1, none⟩ = some (.int .i64 (cb l i)))) :
    Calls Try.prog 36 #[.int .i64 f, .slice (some ⟨b, off, none⟩) n cap, .agg #[.int .i64 X, .int .i64 Y]] w fun e w' => ∃ v, e = .returned (.tuple #[v, .bool (addB f l X Y)]) ∧ w'.ownsRow w.heap.size 46 2 v (addR f l X Y).length (cs (addR f l X Y)) ∧ Below w.heap.size w w' := by
  have HA : Hid (CallsAt w (some ⟨b, off, none⟩) l) := Lib.hid (.inr ⟨b, off, rfl, Hc.out⟩)
  cases hg : netB f l
  · have Hno : Hid (addB f l X Y = false ∧ addR f l X Y = []) := Lib.hid (by simp [addR, addB, hg])
    have Hg := Lib.hid hg
    clear hg
    go_enter Try.func36, Try.ntmps36
    go_wp2_with fail
    obtain ⟨W0, hW0⟩ : ∃ W0, w.alloc (Obj.cells #[Value.int IntKind.i64 X, Value.int IntKind.i64 Y] 46) = W0 := ⟨_, rfl⟩
    have C0 : Hid (W0.cell? ⟨w.heap.size, 0, none⟩ = some (.int .i64 X)) := Lib.hid (by rw [← hW0]; simp)
    have C1 : Hid (W0.cell? ⟨w.heap.size, 1, none⟩ = some (.int .i64 Y)) := Lib.hid (by rw [← hW0]; simp)
    have HbW : Hid (Below w.heap.size w W0) := Lib.hid (by rw [← hW0]; exact (Below.refl _ _).alloc (Nat.le_refl _) _)
    rw [hW0]
    clear hW0
    have c0 := C0.out
    have c1 := C1.out
    refine (implPairs_any W0 f _ cap l n Hn hs (HA.out.kept HbW.out)).mono ?_
    rintro e w1 ⟨rfl, hb1⟩
    have hb2 : Below w.heap.size w w1 := HbW.out.trans (hb1.mono HbW.out.size)
    rw [Hg.out]
    clear hb1
    go_wp2_with fail
    go_ret2
    exact ⟨.slice none 0 0, by rw [Hno.out.1]; rfl, by rw [Hno.out.2]; exact World.ownsRow_nil _ _ _ _, hb2⟩
  · have h60 := net_len60 hg
    have hinc := net_inc hg
    rw [← Hn.out] at h60
    by_cases hgood : calB f X Y = true ∧ hasC l X Y = false
    · have Hok : Hid (addB f l X Y = true ∧ addR f l X Y = ins l X Y) := Lib.hid (by
        have : addB f l X Y = true := by simp [addB, hg, hgood.1, hgood.2]
        exact ⟨this, by rw [addR, this]; rfl⟩)
      rw [Hok.out.1, Hok.out.2]
      have hk : plc l X Y ≤ n := by rw [Hn.out]; unfold plc; exact (List.takeWhile_sublist _).length_le
      have hu : ∀ k', k' ≤ n → (∀ j, j < k' → befC (ca l j, cb l j) (X, Y)) → (∀ j, k' ≤ j → j < n → ¬ befC (ca l j, cb l j) (X, Y)) → k' = plc l X Y :=
        fun k' h1 h2 h3 => (plc_eq h2 (fun h => h3 k' (Nat.le_refl _) (by rw [Hn.out]; exact h)) (by rw [← Hn.out]; exact h1)).symm
      by_cases hc : cap = plc l X Y
      · exact implAdd_at b off off cap f X Y l n _ w Hn hcap hg hgood.1 hgood.2 hk rfl (by rw [if_pos hc]) HA (calls_take' Hc.out _) (drop_addr Hn.out hcap hk (by rw [if_pos hc]) Hc.out) hu
      · exact implAdd_at b off (off + plc l X Y * 2) cap f X Y l n _ w Hn hcap hg hgood.1 hgood.2 hk rfl (by rw [if_neg hc]) HA (calls_take' Hc.out _) (drop_addr Hn.out hcap hk (by rw [if_neg hc]) Hc.out) hu
    · have Hno : Hid (addB f l X Y = false ∧ addR f l X Y = []) := Lib.hid (by
        have : addB f l X Y = false := by
          cases h : addB f l X Y
          · rfl
          · simp only [addB, Bool.and_eq_true, Bool.not_eq_true'] at h
            exact absurd h.2 hgood
        exact ⟨this, by rw [addR, this]; rfl⟩)
      have Hg := Lib.hid hg
      have Hinc := Lib.hid hinc
      clear hg hinc
      cases hcal : calB f X Y
      · have Hcal := Lib.hid hcal
        clear hcal hgood
        go_enter Try.func36, Try.ntmps36
        go_wp2_with fail
        obtain ⟨W0, hW0⟩ : ∃ W0, w.alloc (Obj.cells #[Value.int IntKind.i64 X, Value.int IntKind.i64 Y] 46) = W0 := ⟨_, rfl⟩
        have C0 : Hid (W0.cell? ⟨w.heap.size, 0, none⟩ = some (.int .i64 X)) := Lib.hid (by rw [← hW0]; simp)
        have C1 : Hid (W0.cell? ⟨w.heap.size, 1, none⟩ = some (.int .i64 Y)) := Lib.hid (by rw [← hW0]; simp)
        have HbW : Hid (Below w.heap.size w W0) := Lib.hid (by rw [← hW0]; exact (Below.refl _ _).alloc (Nat.le_refl _) _)
        rw [hW0]
        clear hW0
        have c0 := C0.out
        have c1 := C1.out
        refine (implPairs_any W0 f _ cap l n Hn hs (HA.out.kept HbW.out)).mono ?_
        rintro e w1 ⟨rfl, hb1⟩
        rw [Hg.out]
        clear c0 c1
        have c0 := cell_old hb1 C0.out
        have c1 := cell_old hb1 C1.out
        go_wp2_with fail
        refine (isCall_any f X Y w1).mono ?_
        rintro e w2 ⟨rfl, hb2⟩
        rw [Hcal.out]
        have hb3 : Below w.heap.size w w2 := HbW.out.trans ((hb1.trans (hb2.mono hb1.size)).mono HbW.out.size)
        clear hb1 hb2 c0 c1
        go_wp2_with fail
        go_ret2
        exact ⟨.slice none 0 0, by rw [Hno.out.1]; rfl, by rw [Hno.out.2]; exact World.ownsRow_nil _ _ _ _, hb3⟩
      · have Hcal := Lib.hid hcal
        have Hhas : Hid (hasC l X Y = true) := Lib.hid (by
          cases h : hasC l X Y
          · exact absurd ⟨hcal, h⟩ hgood
          · rfl)
        clear hcal hgood
        go_enter Try.func36, Try.ntmps36
        go_wp2_with fail
        obtain ⟨W0, hW0⟩ : ∃ W0, w.alloc (Obj.cells #[Value.int IntKind.i64 X, Value.int IntKind.i64 Y] 46) = W0 := ⟨_, rfl⟩
        have C0 : Hid (W0.cell? ⟨w.heap.size, 0, none⟩ = some (.int .i64 X)) := Lib.hid (by rw [← hW0]; simp)
        have C1 : Hid (W0.cell? ⟨w.heap.size, 1, none⟩ = some (.int .i64 Y)) := Lib.hid (by rw [← hW0]; simp)
        have HbW : Hid (Below w.heap.size w W0) := Lib.hid (by rw [← hW0]; exact (Below.refl _ _).alloc (Nat.le_refl _) _)
        rw [hW0]
        clear hW0
        have c0 := C0.out
        have c1 := C1.out
        refine (implPairs_any W0 f _ cap l n Hn hs (HA.out.kept HbW.out)).mono ?_
        rintro e w1 ⟨rfl, hb1⟩
        rw [Hg.out]
        clear c0 c1
        have c0 := cell_old hb1 C0.out
        have c1 := cell_old hb1 C1.out
        go_wp2_with fail
        refine (isCall_any f X Y w1).mono ?_
        rintro e w2 ⟨rfl, hb2⟩
        rw [Hcal.out]
        have hb3 := hb1.trans (hb2.mono hb1.size)
        clear hb1 hb2 c0 c1
        have c0 := cell_old hb3 C0.out
        have c1 := cell_old hb3 C1.out
        have hbel : Below w.heap.size w w2 := HbW.out.trans (hb3.mono HbW.out.size)
        go_wp2_with fail
        refine (bsearch_any _ cap l n X Y w2 Hn h60 Hinc (HA.out.kept hbel)).mono ?_
        rintro e w3 ⟨k', rfl, _, _, _, hb4⟩
        rw [Hhas.out]
        have hb5 : Below w.heap.size w w3 := hbel.trans (hb4.mono hbel.size)
        clear hb3 hb4 hbel c0 c1
        go_wp2_with fail
        go_ret2
        exact ⟨.slice none 0 0, by rw [Hno.out.1]; rfl, by rw [Hno.out.2]; exact World.ownsRow_nil _ _ _ _, hb5⟩

end Go.Proofs.Ytbddhjpofijmpaa
