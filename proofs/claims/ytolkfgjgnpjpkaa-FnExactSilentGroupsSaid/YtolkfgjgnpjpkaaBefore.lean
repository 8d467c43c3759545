/- What each reader knows at first: the program makes a row of maps. -/
import Derived.Test.YtolkfgjgnpjpkaaNews
namespace Go.Proofs.Ytolkfgjgnpjpkaa
open Go.ChangeShapes Go.WideShapes Go.ChangeAt Go.RowKit Go.Maps Go.Shelf
set_option linter.unusedVariables false


theorem info72 : (Try.prog.info? 72).map (fun i => (i.zero, i.size, i.bytes)) = some (some (.map none), 1, 8) := by kernel_rfl

/-- A map literal's entry, at the operation. -/
theorem wpList_insert_own {H : Type} {P : Program} (w : World) {ops : Array Oper} {rest : List Oper} {o : Oper} {a : Act} {Q : Exit → Act → World → Prop}
    (hg : o.guard = none) (m x v : Operand) (t : TypeId) (hop : o.op = Op.insert t m x v)
    (k e : TypeId) (K : Keyed P k) (ht : P.underlying t = some (.map k e)) (R : Value → Option (DataW H × List MemPlace)) (b n : Nat) (D : DataW H)
    (hm : a.eval m = .map (some b)) (hown : w.ownsMap P k R b n D) (hn : n < maxLen) (key val : Value) (kl : Lit) (hx : a.eval x = key) (hv : a.eval v = val) (hkey : keyOf P k key = some kl)
    (d : DataW H) (ps : List MemPlace) (hval : R val = some (d, ps))
    (hK : ∀ w', w'.ownsMap P k R b (n + 1) (D.put kl d) → w.grownBy w' (some b) → wpList P ops Q rest (a.put o.dst undef) w') :
    wpList P ops Q (o :: rest) a w := by
  refine wpList_plain hg fun K' hK' => ?_
  obtain ⟨w', hrun, r1, r2⟩ := hown.update K ht hn hkey hval
  unfold Oper.wp
  simp [execOp, hop, hm, hx, hv, hrun, Result.andThen]
  exact hK' _ _ (hK w' r1 r2)

theorem zero_maps (n : Nat) : (madeCells #[.map none] (n * 1)).toList = List.replicate n (.map none) := by
  rw [Nat.mul_one, toList_madeCells_one]

/-- The first k sets are there. -/
def PB (w : World) (base g F k : Nat) : Prop :=
  ∃ bs : List Nat, bs.length = k ∧ w.ownsRow base 72 1 (.slice (some ⟨g, 0, none⟩) F F) F ((bs.map fun b => .map (some b)) ++ List.replicate (F - k) (.map none)) ∧ bs.Nodup ∧ ∀ (i : Nat) (h : i < bs.length), base ≤ bs[i] ∧ SetAt w bs[i] (2 ^ i)
theorem PB.start {w : World} {base g F : Nat} (h : w.ownsRow base 72 1 (.slice (some ⟨g, 0, none⟩) F F) F (List.replicate F (.map none))) : PB w base g F 0 :=
  ⟨[], rfl, by simpa using h, List.nodup_nil, fun i hi => absurd hi (by simp)⟩
theorem PB.row {w : World} {base g F k : Nat} (h : PB w base g F k) : ∃ xs, w.ownsRow base 72 1 (.slice (some ⟨g, 0, none⟩) F F) F xs := let ⟨_, _, h2, _⟩ := h; ⟨_, h2⟩
theorem PB.done {w : World} {base g F : Nat} (h : PB w base g F F) : ∃ bs : List Nat, bs.length = F ∧ RdB w base g F bs (own0 F) := by
  obtain ⟨bs, hl, h2, h3, h4⟩ := h
  refine ⟨bs, hl, ?_, h3, fun i hi => ⟨(h4 i hi).1, ?_⟩⟩
  · rw [hl]; simpa using h2
  · have : own0 F i = 2 ^ i := by simp [own0, show i < F by omega]
    rw [this]; exact (h4 i hi).2
theorem PB.push {w w1 : World} {base g F k b : Nat} (h : PB w base g F k) (hk : k < F) (hb0 : w.heap.size ≤ b) (hbase : base ≤ b) (hbel : Below w.heap.size w w1) (hs : SetAt w1 b (2 ^ k)) (hgb : g ≠ b) :
    PB (w1.setCell ⟨g, k, none⟩ (.map (some b))) base g F (k + 1) := by
  obtain ⟨bs, hl, h2, h3, h4⟩ := h
  have h5 := ((own_later h2 hbel).stored k (.map (some b))).1
  refine ⟨bs ++ [b], by simp [hl], ?_, ?_, fun i hi => ?_⟩
  · have e : ((bs.map fun b => Value.map (some b)) ++ List.replicate (F - k) (Value.map none)).set k (Value.map (some b)) = ((bs ++ [b]).map fun b => Value.map (some b)) ++ List.replicate (F - (k + 1)) (Value.map none) := by
      rw [List.set_append_right _ _ (by simp [hl])]
      simp only [List.length_map, hl, Nat.sub_self]
      rw [show F - k = (F - (k + 1)) + 1 by omega, List.replicate_succ, List.set_cons_zero]
      simp
    rw [← e]; exact h5
  · refine List.nodup_append.2 ⟨h3, by simp, fun a ha c hc => ?_⟩
    simp at hc; subst hc
    intro e; subst e
    obtain ⟨i, hi, e⟩ := List.getElem_of_mem ha
    have := (h4 i hi).2.lt
    omega
  · have far : ∀ j, j ≠ g → (w1.setCell ⟨g, k, none⟩ (.map (some b))).heap[j]? = w1.heap[j]? := fun j hj => Below.heap_setCell _ _ _ _ (by simpa using hj)
    by_cases hi2 : i < bs.length
    · have e : (bs ++ [b])[i] = bs[i] := List.getElem_append_left hi2
      have h6 := (h4 i hi2).2
      have h7 := h6.later hbel h6.lt
      rw [e]
      refine ⟨(h4 i hi2).1, h7.same (far _ ?_)⟩
      intro e2
      obtain ⟨es, clock, hb, _⟩ := h6
      rcases h2.2 with ⟨hh, _⟩ | ⟨g', cap', cur, hv, _, hg, _⟩
      · cases hh
      · obtain rfl : g = g' := by injection hv with h1; injection h1 with h1; injection h1
        rw [e2, hg] at hb; cases hb
    · have hik : i = bs.length := by simp at hi; omega
      subst hik
      have e : (bs ++ [b])[bs.length] = b := by simp
      rw [e]
      refine ⟨hbase, SetAt.same ?_ (far _ (Ne.symm hgb))⟩
      rw [hl]; exact hs

theorem wf_nat (k : Nat) (h : k ≤ 1000) : (Lit.int .i64 (k : Int)).wf = true := WalkArith.wf_i64 (by omega)

set_option maxRecDepth 20000 in
theorem readersBefore_any (F : Nat) (w : World) (h1 : 1 ≤ F) (h2 : F ≤ 10) :
    Calls Try.prog 76 #[.int .i64 F] w fun e w' => ∃ bs : List Nat, bs.length = F ∧ e = .returned (.slice (some ⟨w.heap.size, 0, none⟩) F F) ∧ RdB w' w.heap.size w.heap.size F bs (own0 F) ∧ Below w.heap.size w w' := by
  obtain ⟨i0, hi, hz0, hz1, hz2⟩ := info_parts info72
  have Hz := Lib.hid (And.intro hz0 (And.intro hz1 hz2))
  clear hz0 hz1 hz2
  have hmm := @run_makeMap Try.prog
  go_enter Try.func76, Try.ntmps76
  go_wp2_with (refine wpList_make_full _ rfl _ _ 70 rfl w.heap.size 72 i0 (.map none) 1 Try.underlying70 hi Hz.out.1 Hz.out.2.1 .i64 .i64 _ _ F rfl rfl rfl rfl ?_ ?_ ?_ ?_)
  · rw [Hz.out.2.2]; omega
  · unfold maxLen; omega
  · exact Nat.le_refl _
  intro w1 hown hgr
  have hown2 : w1.ownsRow w.heap.size 72 1 (.slice (some ⟨w.heap.size, 0, none⟩) F F) F (List.replicate F (.map none)) := by rw [← zero_maps]; simpa using hown
  have H0 := Lib.hid (PB.start hown2)
  have Hb1 := Lib.hid ((Below.refl w.heap.size w).grown hgr (Nat.le_refl _) (fun _ h => by cases h))
  clear hown hgr hown2
  go_wp2_with fail
  go_loopw [9] (fun i wr => ∃ k : Nat, k ≤ F ∧ i = .int .i64 k ∧ PB wr w.heap.size w.heap.size F k ∧ Below w.heap.size w wr) (fun i _ => F - (intOf i).toNat)
  case atStart => exact ⟨0, Nat.zero_le _, rfl, H0.out, Hb1.out⟩
  case round =>
    obtain ⟨k, hk, rfl, hpb, hbel⟩ := hrel
    by_cases hlt : k < F
    · have hsz := hbel.size
      obtain ⟨xs, hrow⟩ := hpb.row
      have hgl : w.heap.size < wr.heap.size := (hrow.lt _ rfl).2
      have Hpb := Lib.hid hpb
      have Hrow := Lib.hid hrow
      have hgne : w.heap.size ≠ wr.heap.size := by omega
      clear hpb hrow
      go_wp2_with (refine wpList_insert_own _ rfl _ _ _ 72 rfl 3 4 law3 Try.underlying72 (plainElem (H := Unit) Try.prog 4) wr.heap.size 0 (.map []) rfl (World.ownsMap_made wr Try.prog 3 _) (by unfold maxLen; omega) _ _ (.int .i64 (k : Int)) rfl rfl (keyOf_int_mk Try.underlying3 (wf_nat k (by omega))) (.lit (.bool true)) [] (plainElem_bool Try.underlying4 true) ?_)
      intro w2 own2 gr2
      have hb2 : Below wr.heap.size wr w2 := ((Below.refl _ _).alloc (Nat.le_refl _) _).grown gr2 (by simp) (fun j hj => by cases hj; exact Nat.le_refl _)
      have hset : SetAt w2 wr.heap.size (2 ^ k) := by
        have hc := World.ownsMap.canon own2 law3
        rw [set_zero] at own2 hc
        rw [set_put (by omega) hc, Nat.zero_or] at own2
        exact set_at own2
      have hrow2 := own_later Hrow.out hb2
      obtain ⟨u0, z0⟩ := own_some hrow2 k (by rw [Nat.mul_one]; exact hlt)
      have zf0 := hrow2.frozenAt k
      have Hp := Lib.hid (PB.push Hpb.out hlt (Nat.le_refl _) hsz hb2 hset hgne)
      have hb3 := hbel.trans (hb2.mono hsz)
      clear own2 gr2 hb2 hset hrow2 hbel
      go_wp2_with fail
      go_roundw
      case rel => exact ⟨k + 1, by omega, by go_num, Hp.out, hb3.setCell (p := ⟨w.heap.size, k, none⟩) (Nat.le_refl _) _⟩
      case measure => simp [intOf]; omega
    · obtain rfl : k = F := by omega
      obtain ⟨bs, hl, hrd⟩ := hpb.done
      have Hrd := Lib.hid hrd
      clear hrd hpb
      go_wp2_with fail
      go_ret
      exact ⟨bs, hl, rfl, Hrd.out, hbel⟩

end Go.Proofs.Ytolkfgjgnpjpkaa
