/- Tests joined: the pure part, slices joined, rows copied. -/
import Derived.Test.YtejmlhhblckddaaWi
import Derived.Test.YtejmlhhblckddaaOw
import Derived.Test.YtejmlhhblckddaaSg
import Derived.Test.YtejmlhhblckddaaOpen
namespace Go.Proofs.Ytejmlhhblckddaa
open Go.ChangeShapes Go.WideShapes Go.ChangeAt Go.RowKit
set_option linter.unusedVariables false


def jtB (f : Int) (A B : List (List Int)) : Bool := wiB f A && (wiB f B && decide (A.length + B.length ≤ 12))
def jtR (f : Int) (A B : List (List Int)) : List (List Int) := if jtB f A B then A ++ B else []
theorem jt_parts {f : Int} {A B : List (List Int)} (h : jtB f A B = true) : wiB f A = true ∧ wiB f B = true ∧ A.length + B.length ≤ 12 := by
  simpa [jtB] using h
theorem row_app_ge {L M : List (List Int)} {i : Nat} (h : L.length ≤ i) : row (L ++ M) i = row M (i - L.length) := by
  simp [row, List.getD_eq_getElem?_getD, List.getElem?_append_right h]
theorem jt_row {f : Int} {A B : List (List Int)} (h : jtB f A B = true) {i : Nat} (hi : i < (A ++ B).length) : 0 < (row (A ++ B) i).length ∧ (row (A ++ B) i).length ≤ 10 := by
  have h1 := jt_parts h
  by_cases hlt : i < A.length
  · rw [row_app_lt hlt]; exact (wi_row h1.1 hlt).2
  · rw [row_app_ge (by omega)]
    rw [List.length_append] at hi
    exact (wi_row h1.2.1 (by omega)).2
theorem jtR_length (f : Int) (A B : List (List Int)) : (jtR f A B).length ≤ 1000 := by
  unfold jtR; split
  · rename_i h; have := jt_parts h; rw [List.length_append]; omega
  · simp
theorem jtR_row (f : Int) (A B : List (List Int)) (i : Nat) : (row (jtR f A B) i).length ≤ 1000 := by
  unfold jtR; split
  · rename_i h
    by_cases hi : i < (A ++ B).length
    · have := jt_row h hi; omega
    · rw [row_none (by omega)]; simp
  · simp [row]
theorem take_row (L : List (List Int)) (k : Nat) (h : k < L.length) : L.take (k + 1) = L.take k ++ [row L k] := by
  rw [List.take_succ_eq_append_getElem h, row_get h]

theorem l1Own_at (ao : Option Addr) (cap n : Nat) (l : List Int) (w : World) (Hn : Hid (n = l.length)) (h0 : 0 < n) (hl : n ≤ 1048576) (Hc : NumsAt w ao l) :
    Calls Try.prog 56 #[.slice ao n cap] w fun e w' => ∃ g cap', e = .returned (.slice (some ⟨g, 0, none⟩) n cap') ∧ w'.ownsRow w.heap.size 3 1 (.slice (some ⟨g, 0, none⟩) n cap') n (ns l) ∧ Below w.heap.size w w' := by
  rcases Hc with h | ⟨b, off, rfl, hc⟩
  · have := Hn.out
    rw [h] at this
    simp at this
    omega
  · exact l1Own_pos b off cap n l w Hn h0 hl (fun i hi => hc i (by rw [← Hn.out]; exact hi))

theorem clone_pos (b off cap n : Nat) (l : List Int) (w : World) (Hn : Hid (n = l.length)) (h0 : 0 < n) (hl : n ≤ 1048576) (Hc : Hid (∀ i, i < n → w.cell? ⟨b, off + i, none⟩ = some (.int .i64 (na l i)))) :
    Calls Try.prog 58 #[.slice (some ⟨b, off, none⟩) n cap] w fun e w' => ∃ g cap', e = .returned (.slice (some ⟨g, 0, none⟩) n cap') ∧ w'.ownsRow w.heap.size 3 1 (.slice (some ⟨g, 0, none⟩) n cap') n (ns l) ∧ Below w.heap.size w w' := by
  obtain ⟨i0, hi, hz0, hz1, hz2⟩ := info_parts info3
  have hown0 : (w.alloc (.cells #[] 3)).ownsRow w.heap.size 3 1 (.slice (some ⟨w.heap.size, 0, none⟩) 0 0) 0 [] := World.ownsRow_lit w #[] 0 (Nat.le_refl _) (by unfold maxLen; omega) rfl
  have Hown0 := Lib.hid hown0
  clear hown0
  have hbw : ∀ j u, (ns l)[j]? = some u → (w.alloc (.cells #[] 3)).cell? ((⟨b, off, none⟩ : Addr).add j) = some u := by
    intro j u hu
    have hj : j < n := by have := (List.getElem?_eq_some_iff.1 hu).1; rw [ns_length] at this; rw [Hn.out]; exact this
    have hc := Hc.out j hj
    rw [ns_get l j (by rw [← Hn.out]; exact hj)] at hu
    have ha : (⟨b, off, none⟩ : Addr).add j = ⟨b, off + j, none⟩ := by unfold Addr.add; split <;> simp_all
    rw [ha]
    have hb : b < w.heap.size := World.block_lt_of_cell? w _ hc
    rw [World.cell?_of_block (w := w) (Below.heap_alloc w _ _ hb), hc]
    exact hu
  have Hbw := Lib.hid hbw
  clear hbw
  have hnl := fun w => eql_nil (some ⟨b, off, none⟩) n cap w
  go_enter Try.func58, Try.ntmps58
  go_wp2_with (at_builtin; refine wpList_append_own _ rfl _ _ 27 rfl w.heap.size 3 i0 (.int .i64 0) 1 8 Try.underlying27 hi hz0 hz1 hz2 rfl (by decide) _ _ _ rfl Hown0.out ⟨b, off, none⟩ n cap (ns l) rfl ?c0 ?c1 ?c2 ?c3 ?c4 ?c5 ?_)
  case c0 => rw [ns_length, Nat.mul_one, ← Hn.out]
  case c1 => exact Hbw.out
  case c2 => exact ns_one _
  case c3 => unfold maxLen; omega
  case c4 => omega
  case c5 => simp
  intro v' w1 hown' hgr hnil
  have hown2 : w1.ownsRow w.heap.size 3 1 v' n (ns l) := by simpa using hown'
  have Hs := Lib.hid (own_apos' hown2 h0)
  obtain ⟨g, cap', hv⟩ := Hs.out
  rw [hv] at hown2
  have Hown := Lib.hid hown2
  have Hbel := Lib.hid (((Below.refl w.heap.size w).alloc (Nat.le_refl _) (.cells #[] 3)).grown hgr (by simp) (fun b hb => (Hown0.out.lt b hb).1))
  rw [hv]
  clear hown' hgr hv Hs hnil hown2
  go_wp2_with fail
  go_ret
  exact ⟨g, cap', rfl, Hown.out, Hbel.out⟩

theorem clone_at (ao : Option Addr) (cap n : Nat) (l : List Int) (w : World) (Hn : Hid (n = l.length)) (h0 : 0 < n) (hl : n ≤ 1048576) (Hc : NumsAt w ao l) :
    Calls Try.prog 58 #[.slice ao n cap] w fun e w' => ∃ g cap', e = .returned (.slice (some ⟨g, 0, none⟩) n cap') ∧ w'.ownsRow w.heap.size 3 1 (.slice (some ⟨g, 0, none⟩) n cap') n (ns l) ∧ Below w.heap.size w w' := by
  rcases Hc with h | ⟨b, off, rfl, hc⟩
  · have := Hn.out
    rw [h] at this
    simp at this
    omega
  · exact clone_pos b off cap n l w Hn h0 hl (fun i hi => hc i (by rw [← Hn.out]; exact hi))

/-- The slice at this address reads as these values. -/
def HdAt (w : World) (ao : Option Addr) (D : List Value) : Prop :=
  D = [] ∨ ∃ b off, ao = some ⟨b, off, none⟩ ∧ ∀ (i : Nat) (u : Value), D[i]? = some u → w.cell? ⟨b, off + i, none⟩ = some u
theorem HdAt.kept {w w' : World} {ao : Option Addr} {D : List Value} (h : HdAt w ao D) (hb : Below w.heap.size w w') : HdAt w' ao D := by
  rcases h with h | ⟨b, off, h, hc⟩
  · exact .inl h
  · exact .inr ⟨b, off, h, fun i u hu => cell_old hb (hc i u hu)⟩
/-- These slices read as these lists. -/
def HdNs (w : World) (D : List Value) (L : List (List Int)) : Prop :=
  D.length = L.length ∧ ∀ (i : Nat) (u : Value), D[i]? = some u → ∃ a c, u = .slice a (row L i).length c ∧ NumsAt w a (row L i)
theorem HdNs.kept {w w' : World} {D : List Value} {L : List (List Int)} (h : HdNs w D L) (hb : Below w.heap.size w w') : HdNs w' D L :=
  ⟨h.1, fun i u hu => by obtain ⟨a, c, e, hn⟩ := h.2 i u hu; exact ⟨a, c, e, hn.kept hb⟩⟩
theorem HdNs.one {w : World} {D : List Value} {L : List (List Int)} (h : HdNs w D L) : ∀ u ∈ D, u.oneCell' = true := by
  intro u hu
  obtain ⟨j, hj, e⟩ := List.getElem_of_mem hu
  obtain ⟨a, c, e, _⟩ := h.2 j u (by rw [List.getElem?_eq_getElem hj, e])
  subst e; rfl
theorem HdNs.app {w : World} {D D2 : List Value} {L L2 : List (List Int)} (h : HdNs w D L) (h2 : HdNs w D2 L2) : HdNs w (D ++ D2) (L ++ L2) := by
  refine ⟨by rw [List.length_append, List.length_append, h.1, h2.1], fun i u hu => ?_⟩
  by_cases hi : i < D.length
  · rw [List.getElem?_append_left hi] at hu
    rw [row_app_lt (by rw [← h.1]; exact hi)]
    exact h.2 i u hu
  · rw [List.getElem?_append_right (by omega)] at hu
    rw [row_app_ge (by rw [← h.1]; omega), ← h.1]
    exact h2.2 _ u hu
theorem RowsAt.hd {w : World} {ao : Option Addr} {L : List (List Int)} (h : RowsAt w ao L) : ∃ D, HdAt w ao D ∧ HdNs w D L := by
  rcases h with h | ⟨b, off, A, C, h, hc, _⟩
  · exact ⟨[], .inl rfl, by rw [h]; rfl, fun i u hu => by simp at hu⟩
  · refine ⟨(List.range L.length).map fun i => .slice (A i) (row L i).length (C i), .inr ⟨b, off, h, fun i u hu => ?_⟩, by simp, fun i u hu => ?_⟩
    · have hi : i < L.length := by have := (List.getElem?_eq_some_iff.1 hu).1; simpa using this
      simp [hi] at hu
      rw [← hu]; exact (hc i hi).1
    · have hi : i < L.length := by have := (List.getElem?_eq_some_iff.1 hu).1; simpa using this
      simp [hi] at hu
      exact ⟨_, _, hu.symm, (hc i hi).2⟩

/-- Slices are appended to slices. -/
theorem step_hd {P : Program} (w : World) {ops : Array Oper} {rest : List Oper} {o : Oper} {a : Act} {Q : Exit → Act → World → Prop} (hgd : o.guard = none) (s x : Operand) (t : TypeId)
    (ho : o.op = .call { callee := .builtin .append, args := #[s, x], argTypes := #[t, t] })
    (base : Nat) (i : TypeInfo) (ht : P.underlying t = some (.slice 27)) (hi : P.info? 27 = some i) (hz : i.zero = some (.slice none 0 0))
    (hsize : i.size = 1) (hby : i.bytes = 24)
    (v : Value) (n : Nat) (xs : List Value) (hs : a.eval s = v) (hown : w.ownsRow base 27 1 v n xs)
    (ao : Option Addr) (m c : Nat) (l : List Value) (hx : a.eval x = .slice ao m c) (hm : m = l.length) (hc : HdAt w ao l) (h1 : ∀ u ∈ l, u.oneCell' = true) (hnil : ao = none → c = 0)
    (hb1 : n + m ≤ 1000000) (hbase : base ≤ w.heap.size)
    (h : ∀ v' w', w'.ownsRow base 27 1 v' (n + m) (xs ++ l) → Below base w w' → wpList P ops Q rest (a.put o.dst v') w') : wpList P ops Q (o :: rest) a w := by
  have hlow : ∀ k, v.ownBlock = some k → base ≤ k := fun k hk => (hown.lt k hk).1
  cases ao with
  | none =>
    have hc0 := hnil rfl
    subst hc0
    have hm0 : m = 0 := by
      rcases hc with h | ⟨b, off, h, _⟩
      · rw [hm, h]; rfl
      · cases h
    subst hm0
    have hl : l = [] := List.eq_nil_of_length_eq_zero hm.symm
    subst hl
    refine wpList_append_own_none hgd s x t ho base 27 i 1 ht hi v n xs hs hown hx ?_
    refine h v w ?_ (Below.refl _ _)
    simpa using hown
  | some ad =>
    refine wpList_append_own w hgd s x t ho base 27 i (.slice none 0 0) 1 24 ht hi hz hsize hby rfl (by decide) v n xs hs hown ad m c l hx (by rw [hm, Nat.mul_one]) ?_ h1 (by unfold maxLen; omega) (by omega) hbase ?_
    · intro j u hj
      rcases hc with h | ⟨b, off, h, hcc⟩
      · subst h; simp at hj
      · cases h
        rw [add_at]
        exact hcc j u hj
    · intro v' w' h1 h2 _
      exact h v' w' h1 ((Below.refl base w).grown h2 hbase hlow)

set_option maxRecDepth 20000 in
theorem grow_hd (n : Nat) (w : World) (hn : n ≤ 100000) :
    Calls Try.prog 66 #[.slice none 0 0, .int .i64 n] w fun e w' => ∃ v, e = .returned v ∧ w'.ownsRow w.heap.size 27 1 v 0 [] ∧ Below w.heap.size w w' := by
  obtain ⟨i0, hi, hz0, hz1, hz2⟩ := info_parts info27
  have h1 : ¬ ((n : Int) < 0) := by omega
  by_cases h0 : n = 0
  · subst h0
    clear h1
    go_enter Try.func66, Try.ntmps66
    go_wp2
    go_ret
    exact ⟨_, rfl, World.ownsRow_nil _ _ _ _, Below.refl _ _⟩
  · have hbt : Try.t27.bytes = 24 := by kernel_rfl
    have f1 : ¬ 281474976710656 < Builtin.nextslicecap n 0 * Try.t27.bytes := by
      have := growslice_fits (need := n) (old := 0) (bytes := Try.t27.bytes) (by omega) (by rw [hbt]; omega)
      omega
    have f2 : (n : Int) * (Try.t27.bytes : Int) ≤ 281474976710656 := by rw [hbt]; omega
    have f3 : ¬ n * 1 = 0 := by omega
    have f3b : ¬ n = 0 := h0
    have f4 : 0 < n := by omega
    have f5 : (n : Int) ≤ 9223372036854775807 := by omega
    have f6 : (0 : Int) ≤ (n : Int) := by omega
    have hGn : n ≤ grownCap w n 0 27 := grownCap_ge w _ _ _
    have hGm : grownCap w n 0 27 ≤ maxLen := grownCap_le_maxLen w n 0 _ (by unfold maxLen; omega)
    have HG : Hid (∃ G, (Question.appendCap n 0 27).cut (w.tape w.drawn (Question.appendCap n 0 27)) = G ∧ n ≤ G ∧ G ≤ maxLen) := Lib.hid ⟨_, rfl, hGn, hGm⟩
    clear hGn hGm hbt
    go_enter Try.func66, Try.ntmps66
    go_wp2_with fail
    obtain ⟨G, hG, hGn, hGm⟩ := HG.out
    rw [hG]
    go_ret
    refine ⟨_, rfl, ⟨by simp, .inr ⟨w.heap.size, G, _, rfl, Nat.le_refl _, heap_alloc_new w _, Nat.zero_le _, hGm, ?_, by simp⟩⟩, ?_⟩
    · simp [Builtin.zeroCells]; omega
    · exact ((Below.refl _ _).alloc (Nat.le_refl _) _).drew

/-- The first k lists of slices, joined. -/
def flv (L : Nat → List Value) : Nat → List Value | 0 => [] | k + 1 => flv L k ++ L k

set_option maxRecDepth 20000 in
theorem concat_hd (w : World) (b : Nat) (A : Nat → Option Addr) (C : Nat → Nat) (L : Nat → List Value) (Hs : Hid (∀ k, (flv L k).length ≤ 30000 ∧ (L k).length ≤ 30000))
    (HA : Hid (∀ k, k < 2 → w.cell? ⟨b, k, none⟩ = some (.slice (A k) (L k).length (C k)) ∧ HdAt w (A k) (L k) ∧ (∀ u ∈ L k, u.oneCell' = true) ∧ (A k = none → C k = 0))) :
    Calls Try.prog 57 #[.slice (some ⟨b, 0, none⟩) 2 2] w fun e w' => ∃ v, e = .returned v ∧ w'.ownsRow w.heap.size 27 1 v (flv L 2).length (flv L 2) ∧ Below w.heap.size w w' := by
  obtain ⟨i0, hi, hz0, hz1, hz2⟩ := info_parts info27
  go_enter Try.func57, Try.ntmps57
  go_wp2_with fail
  go_loopw [3, 11] (fun v i wr => ∃ k : Nat, k ≤ 2 ∧ i = .int .i64 k ∧ v = .int .i64 ((flv L k).length : Nat) ∧ Below w.heap.size w wr) (fun _ i _ => 2 - (intOf i).toNat)
  case atStart => exact ⟨0, Nat.zero_le _, rfl, rfl, Below.refl _ _⟩
  case round =>
    obtain ⟨k, hk, rfl, rfl, hbel⟩ := hrel
    by_cases hlt : k < 2
    · have h0 := cell_old hbel (HA.out k hlt).1
      have hk0 : (0 : Int) ≤ k := by omega
      have hk2 : (k : Int) < 2 := by omega
      have hfk := (Hs.out k).1
      have hck := (Hs.out k).2
      have hf1 := (Hs.out (k + 1)).1
      have Hsucc : Hid ((flv L (k + 1)).length = (flv L k).length + (L k).length) := Lib.hid (by show (flv L k ++ L k).length = _; rw [List.length_append])
      have hd : decide (((flv L k).length : Int) + ((L k).length : Int) < 0) = false := by simp only [decide_eq_false_iff_not]; omega
      go_wp2_with fail
      go_roundw
      case rel => exact ⟨k + 1, by omega, by go_num, by rw [Hsucc.out]; go_num, hbel⟩
      case measure => simp [intOf]; omega
    · obtain rfl : k = 2 := by omega
      have hfl := (Hs.out 2).1
      have hs := hbel.size
      obtain ⟨N, hN⟩ : ∃ N, (flv L 2).length = N := ⟨_, rfl⟩
      rw [hN] at hfl
      rw [hN]
      clear hN
      go_wp2_with fail
      refine (grow_hd N wr (by omega)).mono ?_
      rintro e w1 ⟨v0, rfl, own0, hb1⟩
      have Hown0 := Lib.hid (own_base hs own0)
      have hbel1 : Below w.heap.size w w1 := hbel.trans (hb1.mono hs)
      clear own0 hb1 hbel hfl hk
      go_wp2_with fail
      go_loopw [6, 27] (fun v i wr => ∃ k : Nat, k ≤ 2 ∧ i = .int .i64 k ∧ wr.ownsRow w.heap.size 27 1 v (flv L k).length (flv L k) ∧ Below w.heap.size w wr) (fun _ i _ => 2 - (intOf i).toNat)
      case atStart => exact ⟨0, Nat.zero_le _, rfl, Hown0.out, hbel1⟩
      case round =>
        obtain ⟨k, hk, rfl, hor, hbel⟩ := hrel
        by_cases hlt2 : k < 2
        · have hall := HA.out k hlt2
          have h0 := cell_old hbel hall.1
          have HAk := Lib.hid (hall.2.1.kept hbel)
          have H1c := Lib.hid hall.2.2.1
          have Hnil := Lib.hid hall.2.2.2
          have hs := hbel.size
          have hk0 : (0 : Int) ≤ k := by omega
          have hk2 : (k : Int) < 2 := by omega
          have hfk := (Hs.out k).1
          have hck := (Hs.out k).2
          have Hor := Lib.hid hor
          obtain ⟨q, hq⟩ : ∃ q, (flv L k).length = q := ⟨_, rfl⟩
          have Hsucc : Hid ((flv L (k + 1)).length = q + (L k).length) := Lib.hid (by show (flv L k ++ L k).length = _; rw [List.length_append, hq])
          rw [hq] at Hor hfk
          clear hor hall hq
          go_wp2_with (at_builtin; refine step_hd _ rfl _ _ 22 rfl w.heap.size i0 Try.underlying22 hi hz0 hz1 hz2 _ q (flv L k) rfl Hor.out (A k) _ (C k) (L k) rfl rfl HAk.out H1c.out Hnil.out (by omega) hs ?_)
          intro v1 w2 own1 hb1
          have Hown : Hid (w2.ownsRow w.heap.size 27 1 v1 (flv L (k + 1)).length (flv L (k + 1))) := Lib.hid (by rw [Hsucc.out]; exact own1)
          have hb2 : Below w.heap.size w w2 := hbel.trans hb1
          clear own1 hb1 hbel h0
          go_wp2_with fail
          go_roundw
          case rel => exact ⟨k + 1, by omega, by go_num, Hown.out, hb2⟩
          case measure => simp [intOf]; omega
        · obtain rfl : k = 2 := by omega
          have Hor := Lib.hid hor
          clear hor
          go_wp2_with fail
          go_ret
          exact ⟨_, rfl, Hor.out, hbel⟩

theorem concat_two (w : World) (b : Nat) (o1 : Option Addr) (c1 : Nat) (D1 : List Value) (o2 : Option Addr) (c2 : Nat) (D2 : List Value) (n1 n2 : Nat) (hn1 : n1 = D1.length) (hn2 : n2 = D2.length) (h12 : n1 ≤ 10000) (h22 : n2 ≤ 10000)
    (hd0 : w.cell? ⟨b, 0, none⟩ = some (.slice o1 n1 c1)) (hd1 : w.cell? ⟨b, 1, none⟩ = some (.slice o2 n2 c2))
    (ha1 : HdAt w o1 D1) (ha2 : HdAt w o2 D2) (hu1 : ∀ u ∈ D1, u.oneCell' = true) (hu2 : ∀ u ∈ D2, u.oneCell' = true) (hc1 : o1 = none → c1 = 0) (hc2 : o2 = none → c2 = 0) :
    Calls Try.prog 57 #[.slice (some ⟨b, 0, none⟩) 2 2] w fun e w' => ∃ v, e = .returned v ∧ w'.ownsRow w.heap.size 27 1 v (n1 + n2) (D1 ++ D2) ∧ Below w.heap.size w w' := by
  subst hn1; subst hn2
  let L : Nat → List Value := fun k => if k = 0 then D1 else if k = 1 then D2 else []
  have hfl2 : flv L 2 = D1 ++ D2 := by simp [flv, L]
  have hfl : ∀ k, (flv L k).length ≤ 20000 := by
    intro k
    match k with
    | 0 => simp [flv]
    | 1 => simp [flv, L]; omega
    | k + 2 =>
      have : ∀ j, flv L (j + 2) = D1 ++ D2 := by
        intro j
        induction j with
        | zero => exact hfl2
        | succ j ih =>
          show flv L (j + 2) ++ L (j + 2) = _
          rw [ih]; simp [L]
      rw [this, List.length_append]; omega
  have hLk : ∀ k, (L k).length ≤ 10000 := by
    intro k
    simp only [L]
    split
    · omega
    · split
      · omega
      · simp
  refine (concat_hd w b (fun k => if k = 0 then o1 else o2) (fun k => if k = 0 then c1 else c2) L (Lib.hid fun k => ⟨by have := hfl k; omega, by have := hLk k; omega⟩) (Lib.hid fun k hk => ?_)).mono ?_
  · rcases (by omega : k = 0 ∨ k = 1) with rfl | rfl
    · exact ⟨hd0, ha1, hu1, hc1⟩
    · exact ⟨hd1, ha2, hu2, hc2⟩
  · rintro e w' ⟨v, rfl, own, hb⟩
    rw [hfl2, List.length_append] at own
    exact ⟨v, rfl, own, hb⟩

end Go.Proofs.Ytejmlhhblckddaa
