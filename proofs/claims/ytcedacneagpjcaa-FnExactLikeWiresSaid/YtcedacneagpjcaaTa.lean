/- Whether two groupings tell all wires: the program. -/
import Derived.Test.YtcedacneagpjcaaLbI
import Derived.Test.YtcedacneagpjcaaFacts
import Derived.Maps.Own
import Derived.Maps.OwnOps
import Derived.Maps.OwnSet
import Derived.Maps.Ext
import Derived.DeepKeys4
namespace Go.Proofs.Ytcedacneagpjcaa
open Go.ChangeShapes Go.WideShapes Go.ChangeAt Go.RowKit Go.Maps
set_option linter.unusedVariables false


theorem lay_lb : laidOutB Try.prog = true := Facts.laidOut

theorem law_lb : Keyed Try.prog 60 := Keyed.of_law (deep_law_laid Facts.laidOut (m := 2) (by omega) (of_decide_eq_true (by kernel_rfl)) (by kernel_rfl) (by kernel_rfl))

theorem key_lb' : ∀ x y : Fin 13, (keyOf Try.prog 60 (.agg #[.int .i64 (x.val : Int), .int .i64 (y.val : Int)])).isSome = true := by decide +kernel

/-- How a label reads as a key. -/
noncomputable def kx (x y : Int) : Lit := @Classical.epsilon Lit ⟨.bool false⟩ (fun l => keyOf Try.prog 60 (.agg #[.int .i64 x, .int .i64 y]) = some l)

theorem key_lb {x y : Int} (hx : 0 ≤ x ∧ x < 13) (hy : 0 ≤ y ∧ y < 13) : keyOf Try.prog 60 (.agg #[.int .i64 x, .int .i64 y]) = some (kx x y) := by
  obtain ⟨a, rfl⟩ := Int.eq_ofNat_of_zero_le hx.1
  obtain ⟨b, rfl⟩ := Int.eq_ofNat_of_zero_le hy.1
  have h := key_lb' ⟨a, by omega⟩ ⟨b, by omega⟩
  obtain ⟨l, hl⟩ := Option.isSome_iff_exists.1 h
  have hl2 : keyOf Try.prog 60 (.agg #[.int .i64 ((a : Nat) : Int), .int .i64 ((b : Nat) : Int)]) = some l := hl
  exact @Classical.epsilon_spec_aux Lit ⟨.bool false⟩ (fun l => keyOf Try.prog 60 (.agg #[.int .i64 ((a : Nat) : Int), .int .i64 ((b : Nat) : Int)]) = some l) ⟨l, hl2⟩

theorem kx_inj {x y x' y' : Int} (hx : 0 ≤ x ∧ x < 13) (hy : 0 ≤ y ∧ y < 13) (hx' : 0 ≤ x' ∧ x' < 13) (hy' : 0 ≤ y' ∧ y' < 13) (h : kx x y = kx x' y') : x = x' ∧ y = y' := by
  have h1 := key_lb hx hy
  have h2 := key_lb hx' hy'
  rw [← h] at h2
  have h3 := law_lb.inj h1 h2
  simp only [Value.agg.injEq, Array.mk.injEq, List.cons.injEq, Value.int.injEq, true_and, and_true] at h3
  exact h3

/-- These labels are the keys with true. -/
def SeenD (D : DataW Unit) (S : List (Int × Int)) : Prop :=
  Maps.IsMap D ∧ ∀ x y, (0 ≤ x ∧ x < 13) → (0 ≤ y ∧ y < 13) → D.atKey (kx x y) (.lit (.bool false)) = .lit (.bool (decide ((x, y) ∈ S)))

theorem SeenD.nil : SeenD (.map []) [] := ⟨⟨_, rfl⟩, fun x y _ _ => by
  have h : Maps.has (.map [] : DataW Unit) (kx x y) = false := by generalize kx x y = q; rfl
  rw [Maps.atKey_of_not_has h]; simp⟩

theorem SeenD.put {D : DataW Unit} {S : List (Int × Int)} (h : SeenD D S) {x y : Int} (hx : 0 ≤ x ∧ x < 13) (hy : 0 ≤ y ∧ y < 13) : SeenD (D.put (kx x y) (.lit (.bool true))) (S ++ [(x, y)]) := by
  have hk : WideAt.IsKeyLit (kx x y) := law_lb.key (key_lb hx hy)
  refine ⟨?_, fun x' y' hx' hy' => ?_⟩
  · exact h.1.put _ _
  · by_cases e : kx x' y' = kx x y
    · rw [e, Maps.atKey_put_same h.1 hk]
      obtain ⟨rfl, rfl⟩ := kx_inj hx' hy' hx hy e
      simp
    · rw [Maps.atKey_put_other e, h.2 x' y' hx' hy']
      have hne : ¬ (x', y') = (x, y) := fun h => e (by injection h with h1 h2; rw [h1, h2])
      simp only [List.mem_append, List.mem_singleton, hne, or_false]

theorem bool_inv {P : Program} {e : TypeId} (he : P.underlying e = some .bool) {v : Value} {z : DataW Unit × List MemPlace} (h : plainElem P e v = some z) : ∃ x, v = .bool x ∧ z = (.lit (.bool x), []) := by
  unfold plainElem at h
  rw [he] at h
  cases v <;> simp at h
  subst h
  exact ⟨_, rfl, rfl⟩

theorem look_lb {w : World} {b n : Nat} {D : DataW Unit} {S : List (Int × Int)} (h : w.ownsMap Try.prog 60 (plainElem Try.prog 4) b n D) (hs : SeenD D S) {x y : Int} (hx : 0 ≤ x ∧ x < 13) (hy : 0 ≤ y ∧ y < 13) :
    (Instr.lookup 56 (.map (some b)) (.agg #[.int .i64 x, .int .i64 y]) false).run Try.prog w = .ok (.bool (decide ((x, y) ∈ S))) w := by
  obtain ⟨v, ps, hrun, hv⟩ := World.ownsMap.lookup (z := .bool false) (zd := .lit (.bool false)) (zp := []) h law_lb Try.underlying56 (Try.zeroValue4 w) (plainElem_bool Try.underlying4 false) (key_lb hx hy)
  rw [hs.2 x y hx hy] at hv
  obtain ⟨u, rfl, hu⟩ := bool_inv Try.underlying4 hv
  simp only [Prod.mk.injEq, DataW.lit.injEq, Lit.bool.injEq] at hu
  rw [hrun, hu.1]

theorem wpList_lookup_lb (w : World) {ops : Array Oper} {rest : List Oper} {o : Oper} {a : Act} {Q : Exit → Act → World → Prop}
    (hg : o.guard = none) (m x : Operand) (hop : o.op = Op.lookup 56 m x false) (b n : Nat) (D : DataW Unit) (S : List (Int × Int)) (hm : a.eval m = .map (some b)) (h : w.ownsMap Try.prog 60 (plainElem Try.prog 4) b n D) (hs : SeenD D S) (u v : Int) (hx : a.eval x = .agg #[.int .i64 u, .int .i64 v]) (hu : 0 ≤ u ∧ u < 13) (hv : 0 ≤ v ∧ v < 13)
    (hK : wpList Try.prog ops Q rest (a.put o.dst (.bool (decide ((u, v) ∈ S)))) w) : wpList Try.prog ops Q (o :: rest) a w := by
  refine wpList_plain hg fun K' hK' => ?_
  have hrun := look_lb h hs hu hv
  unfold Oper.wp
  simp [execOp, hop, hm, hx, hrun, Result.andThen]
  exact hK' _ _ hK

/-- Two groupings give no two wires one label. -/
def telB (l m : List Int) : Bool := decide ((LB l m).Nodup)

theorem LB_at (l m : List Int) (k : Nat) (h : k < l.length) : (LB l m)[k]'(by rw [LB_length]; exact h) = (((sz l k : Nat) : Int), ((sz m k : Nat) : Int)) := by simp [LB]

theorem telB_no {l m : List Int} {k : Nat} (hk : k < l.length) (h : (((sz l k : Nat) : Int), ((sz m k : Nat) : Int)) ∈ (LB l m).take k) : telB l m = false := by
  unfold telB
  rw [decide_eq_false_iff_not]
  intro hn
  obtain ⟨i, hi, e⟩ := List.getElem_of_mem h
  rw [List.length_take, LB_length] at hi
  have hp := List.pairwise_iff_getElem.1 hn i k (by rw [LB_length]; omega) (by rw [LB_length]; exact hk) (by omega)
  rw [List.getElem_take] at e
  exact hp (by rw [e, LB_at l m k hk])

set_option maxHeartbeats 1600000 in
set_option maxRecDepth 20000 in
theorem tellAll_pos (w : World) (b off ka b' off' kb : Nat) (l m : List Int) (n : Nat) (Hn : Hid (n = l.length)) (Hm : Hid (n = m.length)) (Hg : Hid (grB l = true)) (Hg2 : Hid (grB m = true))
    (Hc : Hid (∀ i, i < n → w.cell? ⟨b, off + i, none⟩ = some (.int .i64 (na l i)))) (Hd : Hid (∀ i, i < n → w.cell? ⟨b', off' + i, none⟩ = some (.int .i64 (na m i)))) :
    Calls Try.prog 34 #[.slice (some ⟨b, off, none⟩) n ka, .slice (some ⟨b', off', none⟩) n kb] w fun e w' => e = .returned (.bool (telB l m)) ∧ Below w.heap.size w w' := by
  have hlen := grB_len Hg.out
  have hn12 : n ≤ 12 := by have := Hn.out; omega
  have HM0 := Lib.hid (World.ownsMap_made (H := Unit) w Try.prog 60 (plainElem Try.prog 4))
  have HB0 := Lib.hid ((Below.refl w.heap.size w).alloc (Nat.le_refl _) (.map #[] 0))
  have hmm := @run_makeMap Try.prog
  obtain ⟨B, hB⟩ : ∃ B, B = w.heap.size := ⟨_, rfl⟩
  have hBw : w.heap.size ≤ B := by omega
  have HBq := Lib.hid hB
  obtain ⟨wm, hwm⟩ : ∃ wm, wm = w.alloc (.map #[] 0) := ⟨_, rfl⟩
  rw [← hB, ← hwm] at HM0
  rw [← hwm] at HB0
  have Hwm := Lib.hid hwm
  have hBm : B < wm.heap.size := HM0.out.lt
  clear hlen hB hwm
  go_enter Try.func34, Try.ntmps34
  go_upto_region 2 with (fail)
  rw [← Hwm.out, ← HBq.out]
  go_wp2_with fail
  refine (labelsOf_pos wm b off ka b' off' kb l m n Hn Hm Hg Hg2 (fun i hi => cell_old HB0.out (Hc.out i hi)) (fun i hi => cell_old HB0.out (Hd.out i hi))).mono ?_
  rintro e w1 ⟨g, c, rfl, hO, hb1⟩
  have HLl : Hid (n = (LB l m).length) := by show _ = _; rw [LB_length]; exact Hn.out
  have HO := Lib.hid hO
  have Hb1 := Lib.hid (HB0.out.trans (hb1.mono HB0.out.size))
  have hgB : g ≠ B := by have := (hO.lt g rfl).1; omega
  have HM1 : Hid (w1.ownsMap Try.prog 60 (plainElem Try.prog 4) B 0 (.map [] : DataW Unit)) := by
    obtain ⟨es, clock, hb, F, hs, hD⟩ := HM0.out
    exact ⟨es, clock, (hb1.block B hBm).trans hb, F, hs, hD⟩
  clear hO hb1
  go_wp2_with fail
  go_loopw [13] (fun i wr => ∃ (k : Nat) (D : DataW Unit), k ≤ n ∧ i = .int .i64 k ∧ Hid (wr.ownsMap Try.prog 60 (plainElem Try.prog 4) B k D) ∧ Hid (SeenD D ((LB l m).take k)) ∧ Hid (((LB l m).take k).Nodup) ∧ wr.ownsRow w.heap.size 60 2 (.slice (some ⟨g, 0, none⟩) n c) n (cs (LB l m)) ∧ Below w.heap.size w wr) (fun i _ => n - (intOf i).toNat)
  case atStart => exact ⟨0, .map [], Nat.zero_le _, rfl, HM1, SeenD.nil, List.nodup_nil, own_base HB0.out.size HO.out, Hb1.out⟩
  case round =>
    obtain ⟨k, D, hk, rfl, HM, HS, HN, hor, hbel⟩ := hrel
    by_cases hlt : k < n
    · have hkl : k < l.length := by have := Hn.out; omega
      have hcell := own_cells hor HLl.out k hlt
      rw [LB_a l m k hkl, LB_b l m k hkl] at hcell
      have hx1 := sz_le l k
      have hy1 := sz_le m k
      have hnl := Hn.out
      have hnm := Hm.out
      have htk : (LB l m).take (k + 1) = (LB l m).take k ++ [(((sz l k : Nat) : Int), ((sz m k : Nat) : Int))] := by
        rw [List.take_succ_eq_append_getElem (by rw [LB_length]; exact hkl), LB_at l m k hkl]
      have Hno := Lib.hid (telB_no (l := l) (m := m) hkl)
      obtain ⟨x, hx⟩ : ∃ x, ((sz l k : Nat) : Int) = x := ⟨_, rfl⟩
      obtain ⟨y, hy⟩ : ∃ x, ((sz m k : Nat) : Int) = x := ⟨_, rfl⟩
      rw [hx, hy] at hcell htk Hno
      have hxx : 0 ≤ x ∧ x < 13 := by omega
      have hyy : 0 ≤ y ∧ y < 13 := by omega
      have Hxx := Lib.hid hxx
      have Hyy := Lib.hid hyy
      have Htk := Lib.hid htk
      obtain ⟨h0, h1⟩ := hcell
      have hsz := hbel.size
      obtain ⟨S, hS⟩ : ∃ S, (LB l m).take k = S := ⟨_, rfl⟩
      rw [hS] at HS HN Htk Hno
      have HMa : Hid ((wr.alloc (.cells #[.int .i64 x, .int .i64 y] 60)).ownsMap Try.prog 60 (plainElem Try.prog 4) B k D) := HM.out.alloc _
      have Hora : Hid ((wr.alloc (.cells #[.int .i64 x, .int .i64 y] 60)).ownsRow w.heap.size 60 2 (.slice (some ⟨g, 0, none⟩) n c) n (cs (LB l m))) := own_later hor ((Below.refl _ _).alloc (Nat.le_refl _) _)
      have Hba : Hid (Below w.heap.size w (wr.alloc (.cells #[.int .i64 x, .int .i64 y] 60))) := hbel.alloc hsz _
      have e0 : (wr.alloc (.cells #[.int .i64 x, .int .i64 y] 60)).cell? ⟨wr.heap.size, 0, none⟩ = some (.int .i64 x) := by rw [cell_of_row _ _ _ _ _ _ (heap_alloc_new wr _)]; rfl
      have e1 : (wr.alloc (.cells #[.int .i64 x, .int .i64 y] 60)).cell? ⟨wr.heap.size, 1, none⟩ = some (.int .i64 y) := by rw [cell_of_row _ _ _ _ _ _ (heap_alloc_new wr _)]; rfl
      clear hx hy hor hbel HM hS hnl hnm hx1 hy1 hxx hyy htk
      by_cases hin : (x, y) ∈ S
      · have hR : decide ((x, y) ∈ S) = true := by simpa using hin
        have Hf := Lib.hid (Hno.out hin)
        clear hin Hno
        go_wp2_with (at_lookup; refine wpList_lookup_lb _ rfl _ _ rfl B k D S rfl HMa.out HS.out x y rfl Hxx.out Hyy.out ?_; rw [hR])
        go_ret
        exact ⟨ret_bool Hf.out.symm, Hba.out⟩
      · have hR : decide ((x, y) ∈ S) = false := by simpa using hin
        have HN2 : Hid (((LB l m).take (k + 1)).Nodup) := by
          show List.Nodup _
          rw [Htk.out]
          exact List.nodup_append.2 ⟨HN.out, by simp, fun a ha q hq => by simp at hq; subst hq; intro e; subst e; exact hin ha⟩
        have HS2 : Hid (SeenD (D.put (kx x y) (.lit (.bool true))) ((LB l m).take (k + 1))) := by
          show SeenD _ _
          rw [Htk.out]
          exact HS.out.put Hxx.out Hyy.out
        clear hin Hno
        go_wp2_with (first | (at_lookup; refine wpList_lookup_lb _ rfl _ _ rfl B k D S rfl HMa.out HS.out x y rfl Hxx.out Hyy.out ?_; rw [hR]) | (at_mapUpdate; refine wpList_mapUpdate_own _ rfl _ _ _ 56 rfl 60 4 law_lb Try.underlying56 _ B k _ rfl HMa.out (by unfold maxLen; omega) _ _ _ rfl rfl (key_lb Hxx.out Hyy.out) _ [] (plainElem_bool Try.underlying4 true) ?_))
        intro w9 hown9 hgr9
        have HM9 := Lib.hid hown9
        have Hor9 := Lib.hid (Hora.out.kept hgr9 (.inr (by show (some g : Option Nat) ≠ some B; intro e; injection e with e; exact hgB e)))
        have Hb9 := Lib.hid (Hba.out.grown hgr9 Hba.out.size (fun q hq => by cases hq; exact hBw))
        clear hown9 hgr9 Hora Hba HMa
        go_wp2_with fail
        go_roundw
        case rel => exact ⟨k + 1, _, by omega, by go_num, HM9, HS2, HN2, Hor9.out, Hb9.out⟩
        case measure => simp [intOf]; omega
    · obtain rfl : k = n := by omega
      have hpe : (LB l m).take k = LB l m := by
        have h2 : k = (LB l m).length := HLl.out
        rw [h2]; exact List.take_length
      rw [hpe] at HN
      have Ht : Hid (telB l m = true) := by show _ = _; unfold telB; simpa using HN.out
      clear hor hpe
      go_wp2_with fail
      go_ret
      exact ⟨ret_bool Ht.out.symm, hbel⟩

end Go.Proofs.Ytcedacneagpjcaa
