/- Tests without one of them. -/
import Derived.Test.YtoigafjocckepaaTu0
import Derived.Test.YtoigafjocckepaaOw
import Derived.Test.YtoigafjocckepaaSg
import Derived.Deep.RegionHeld3
import Derived.Deep.AppendLies
import Derived.Maps.Own
import Derived.Maps.OwnOps
import Derived.Maps.OwnSet
import Derived.Maps.Ext
import Derived.Maps.Keyed
import Derived.DeepKeys4
import Derived.StringKeys
namespace Go.Proofs.Ytoigafjocckepaa
open Go.ChangeShapes Go.WideShapes Go.ChangeAt Go.RowKit Go.Maps
set_option linter.unusedVariables false


def less (L : List (List Int)) (k : Nat) : List (List Int) := L.take k ++ L.drop (k + 1)
theorem less_len {L : List (List Int)} {k : Nat} (h : k < L.length) : (less L k).length = L.length - 1 := by
  unfold less; rw [List.length_append, List.length_take, List.length_drop]; omega
/-- The tests that are needless, of the first k. -/
def nd (f : Nat) (L : List (List Int)) (m : Int) : Nat → List Int
  | 0 => []
  | k + 1 => if m ≤ gt f (less L k) then nd f L m k ++ [(k : Int)] else nd f L m k
theorem nd_len (f : Nat) (L : List (List Int)) (m : Int) : ∀ k, (nd f L m k).length ≤ k
  | 0 => by simp [nd]
  | k + 1 => by
    have := nd_len f L m k
    unfold nd; split
    · rw [List.length_append]; simp; omega
    · omega
def ndR (f : Int) (L : List (List Int)) (m : Int) : List Int := if tuR f L m then nd f.toNat L m L.length else []
theorem tu_wi {f m : Int} {L : List (List Int)} (h : tuR f L m = true) : wiB f L = true ∧ (0 ≤ m ∧ m ≤ f) ∧ m ≤ gt f.toNat L := by
  simp only [tuR, tuB, Bool.and_eq_true, decide_eq_true_eq] at h
  exact ⟨h.1.1, h.1.2, h.2⟩
theorem ndR_length (f : Int) (L : List (List Int)) (m : Int) : (ndR f L m).length ≤ 1000 := by
  unfold ndR; split
  · rename_i h
    have h1 := nd_len f.toNat L m L.length
    have h2 := (wi_parts (tu_wi h).1).2.1
    omega
  · simp
theorem less_wi {f : Int} {L : List (List Int)} (h : wiB f L = true) {k : Nat} (hk : k < L.length) : wiB f (less L k) = true := by
  have hp := wi_parts h
  refine wi_yes (by simp [wfB]; omega) (by rw [less_len hk]; omega) fun j hj => ?_
  rw [less_len hk] at hj
  by_cases hjk : j < k
  · have e : row (less L k) j = row L j := by
      unfold less row
      rw [List.getD_eq_getElem?_getD, List.getD_eq_getElem?_getD, List.getElem?_append_left (by rw [List.length_take]; omega), List.getElem?_take_of_lt hjk]
    rw [e]; exact hp.2.2 j (by omega)
  · have e : row (less L k) j = row L (j + 1) := by
      unfold less row
      rw [List.getD_eq_getElem?_getD, List.getD_eq_getElem?_getD, List.getElem?_append_right (by rw [List.length_take]; omega), List.length_take, List.getElem?_drop, show k + 1 + (j - min k L.length) = j + 1 by omega]
    rw [e]; exact hp.2.2 (j + 1) (by omega)

/-- These slices read as these lists. -/
def HdNs (w : World) (D : List Value) (L : List (List Int)) : Prop :=
  D.length = L.length ∧ ∀ (i : Nat) (u : Value), D[i]? = some u → ∃ a c, u = .slice a (row L i).length c ∧ NumsAt w a (row L i) ∧ (row L i).length ≤ c ∧ (a = none → c = 0)
theorem HdNs.kept {w w' : World} {D : List Value} {L : List (List Int)} (h : HdNs w D L) (hb : Below w.heap.size w w') : HdNs w' D L :=
  ⟨h.1, fun i u hu => by obtain ⟨a, c, e, hn, hc⟩ := h.2 i u hu; exact ⟨a, c, e, hn.kept hb, hc⟩⟩
theorem HdNs.one {w : World} {D : List Value} {L : List (List Int)} (h : HdNs w D L) : ∀ u ∈ D, u.oneCell' = true := by
  intro u hu
  obtain ⟨j, hj, e⟩ := List.getElem_of_mem hu
  obtain ⟨a, c, e, _⟩ := h.2 j u (by rw [List.getElem?_eq_getElem hj, e])
  subst e; rfl
theorem HdNs.less {w : World} {D : List Value} {L : List (List Int)} (h : HdNs w D L) {k : Nat} (hk : k < L.length) : HdNs w (D.take k ++ D.drop (k + 1)) (less L k) := by
  have hD := h.1
  refine ⟨by rw [less_len hk, List.length_append, List.length_take, List.length_drop]; omega, fun j u hu => ?_⟩
  have hj : j < L.length - 1 := by
    have := (List.getElem?_eq_some_iff.1 hu).1
    rw [List.length_append, List.length_take, List.length_drop] at this; omega
  by_cases hjk : j < k
  · have e : row (Go.Proofs.Ytoigafjocckepaa.less L k) j = row L j := by
      unfold Go.Proofs.Ytoigafjocckepaa.less row
      rw [List.getD_eq_getElem?_getD, List.getD_eq_getElem?_getD, List.getElem?_append_left (by rw [List.length_take]; omega), List.getElem?_take_of_lt hjk]
    rw [List.getElem?_append_left (by rw [List.length_take]; omega), List.getElem?_take_of_lt hjk] at hu
    rw [e]; exact h.2 j u hu
  · have e : row (Go.Proofs.Ytoigafjocckepaa.less L k) j = row L (j + 1) := by
      unfold Go.Proofs.Ytoigafjocckepaa.less row
      rw [List.getD_eq_getElem?_getD, List.getD_eq_getElem?_getD, List.getElem?_append_right (by rw [List.length_take]; omega), List.length_take, List.getElem?_drop, show k + 1 + (j - min k L.length) = j + 1 by omega]
    rw [List.getElem?_append_right (by rw [List.length_take]; omega), List.length_take, List.getElem?_drop, show k + 1 + (j - min k D.length) = j + 1 by omega] at hu
    rw [e]; exact h.2 (j + 1) u hu
theorem RowsAt.hd {w : World} {ao : Option Addr} {L : List (List Int)} (h : RowsAt w ao L) (h0 : 0 < L.length) : ∃ b off D, ao = some ⟨b, off, none⟩ ∧ HdNs w D L ∧ ∀ (i : Nat) (u : Value), D[i]? = some u → w.cell? ⟨b, off + i, none⟩ = some u := by
  rcases h with h | ⟨b, off, A, C, h, hc, hcap⟩
  · rw [h] at h0; simp at h0
  · refine ⟨b, off, (List.range L.length).map fun i => .slice (A i) (row L i).length (C i), h, ⟨by simp, fun i u hu => ?_⟩, fun i u hu => ?_⟩
    · have hi : i < L.length := by have := (List.getElem?_eq_some_iff.1 hu).1; simpa using this
      simp [hi] at hu
      exact ⟨_, _, hu.symm, (hc i hi).2, hcap i hi⟩
    · have hi : i < L.length := by have := (List.getElem?_eq_some_iff.1 hu).1; simpa using this
      simp [hi] at hu
      rw [← hu]; exact (hc i hi).1
theorem HdNs.rows {w : World} {base n : Nat} {v : Value} {D : List Value} {L : List (List Int)} (h : HdNs w D L) (hn : n = L.length) (ho : w.ownsRow base 36 1 v n D) : ∃ ao cap, v = .slice ao n cap ∧ RowsAt w ao L := by
  rcases ho.2 with ⟨hv, h0⟩ | ⟨g, cap, cur, rfl, _⟩
  · exact ⟨none, 0, by rw [hv, h0], .inl (List.eq_nil_of_length_eq_zero (by omega))⟩
  · refine ⟨_, cap, rfl, .inr ⟨g, 0, fun i => addrOf (D.getD i (.bool false)), fun i => capOf (D.getD i (.bool false)), rfl, fun i hi => ?_, fun i hi => ?_⟩⟩
    · have hiD : i < D.length := by rw [h.1]; exact hi
      have hu := List.getElem?_eq_getElem hiD
      obtain ⟨a, c, e, hna, _⟩ := h.2 i _ hu
      have hc := ho.cellAt i (by omega)
      rw [hu, e] at hc
      have e2 : D.getD i (.bool false) = .slice a (row L i).length c := by rw [List.getD_eq_getElem?_getD, hu, e]; rfl
      simp only [e2, Nat.zero_add]
      exact ⟨hc, hna⟩
    · have hiD : i < D.length := by rw [h.1]; exact hi
      have hu := List.getElem?_eq_getElem hiD
      obtain ⟨a, c, e, _, hc⟩ := h.2 i _ hu
      have e2 : D.getD i (.bool false) = .slice a (row L i).length c := by rw [List.getD_eq_getElem?_getD, hu, e]; rfl
      simp only [e2]
      exact hc

/-- An append to a row of the call's own, as a step of a region that draws; nothing may be appended too. -/
theorem step_append_mine {P : Program} (w : World) {ops : Array Oper} {o : Oper} {a : Act} {K : Act → World → Prop} {Q : Exit → Act → World → Prop} {E : Prop} (hgd : o.guard = none) (s x : Operand) (t : TypeId)
    (ho : o.op = .call { callee := .builtin .append, args := #[s, x], argTypes := #[t, t] })
    (base : Nat) (e : TypeId) (i : TypeInfo) (z : Value) (size bytes : Nat) (ht : P.underlying t = some (.slice e)) (hi : P.info? e = some i) (hz : i.zero = some z)
    (hsize : i.size = size) (hby : i.bytes = bytes) (hzs : z.cells.size = size) (hsz : 0 < size)
    (v : Value) (n : Nat) (xs : List Value) (hs : a.eval s = v) (hown : w.ownsRow base e size v n xs)
    (ad : Addr) (m c : Nat) (news : List Value) (hx : a.eval x = .slice (some ad) m c) (hl : news.length = m * size) (hnews : ∀ j u, news[j]? = some u → w.cell? (ad.add j) = some u) (h1 : ∀ u ∈ news, u.oneCell' = true)
    (h63 : n + m ≤ maxLen) (hbytes : (n + m) * bytes ≤ 140737488355328) (hbase : base ≤ w.heap.size)
    (h : ∀ v' w', w'.ownsRow base e size v' (n + m) (xs ++ news) → w.grownBy w' v.ownBlock → K (a.put o.dst v') w') :
    if Region.wanted o (yielded ops a.tmps) = true then Oper.wp P o a w K Q else E := by
  have hw : Region.wanted o (yielded ops a.tmps) = true := by simp [Region.wanted, hgd]
  rw [if_pos hw]
  exact wp_append_own w s x t ho base e i z size bytes ht hi hz hsize hby hzs hsz v n xs hs hown ad m c news hx hl hnews h1 h63 hbytes hbase fun v' w' h2 h3 _ => h v' w' h2 h3

set_option maxRecDepth 20000 in
theorem wiLess_at (b off off2 cap : Nat) (D : List Value) (n k : Nat) (w : World) (Hn : Hid (n = D.length)) (hs : n ≤ 60) (hcap : n ≤ cap) (hk : k < n)
    (hif : (if cap = k + 1 then (some ⟨b, off, none⟩ : Option Addr) else some ⟨b, off + (k + 1), none⟩) = some ⟨b, off2, none⟩)
    (H1 : Hid (∀ u ∈ D, u.oneCell' = true))
    (HN2 : Hid (∀ w', Below w.heap.size w w' → ∀ j u, (D.drop (k + 1))[j]? = some u → w'.cell? ((⟨b, off2, none⟩ : Addr).add j) = some u))
    (Hc : Hid (∀ (i : Nat) (u : Value), D[i]? = some u → w.cell? ⟨b, off + i, none⟩ = some u)) :
    Calls Try.prog 45 #[.slice (some ⟨b, off, none⟩) n cap, .int .i64 k] w fun e w' => ∃ v, e = .returned v ∧ w'.ownsRow w.heap.size 36 1 v (n - 1) (D.take k ++ D.drop (k + 1)) ∧ Below w.heap.size w w' := by
  obtain ⟨i0, hi, hz0, hz1, hz2⟩ := info_parts info36
  have hk0 : (0 : Int) ≤ (k : Int) := by omega
  have hk1 : (k : Int) ≤ (n : Int) := by omega
  have hk2 : (k : Int) ≤ (cap : Int) := by omega
  have hk3 : (0 : Int) ≤ (k : Int) + 1 := by omega
  have hk4 : (k : Int) + 1 ≤ (n : Int) := by omega
  have hk5 : (n : Int) ≤ (cap : Int) := by omega
  have hw1 : IntKind.i64.wrap ((k : Int) + 1) = (k : Int) + 1 := IntWalk.i64_in _ (by omega)
  have hw2 : ((k : Int) + 1).toNat = k + 1 := by omega
  have HN1 : Hid (∀ w', Below w.heap.size w w' → ∀ j u, (D.take k)[j]? = some u → w'.cell? ((⟨b, off, none⟩ : Addr).add j) = some u) := by
    intro w' hb j u hu
    have hj : j < k := by have := (List.getElem?_eq_some_iff.1 hu).1; rw [List.length_take] at this; omega
    rw [List.getElem?_take_of_lt hj] at hu
    rw [add_at]
    exact cell_old hb (Hc.out j u hu)
  have HU1 : Hid (∀ u ∈ D.take k, u.oneCell' = true) := fun u hu => H1.out u (List.mem_of_mem_take hu)
  have HU2 : Hid (∀ u ∈ D.drop (k + 1), u.oneCell' = true) := fun u hu => H1.out u (List.mem_of_mem_drop hu)
  have HL1 : Hid ((D.take k).length = k * 1) := by show _ = _; rw [List.length_take, ← Hn.out]; omega
  have HL2 : Hid ((D.drop (k + 1)).length = (n - (k + 1)) * 1) := by show _ = _; rw [List.length_drop, ← Hn.out]; omega
  have HB0 : Hid (∀ o, Below w.heap.size w (w.alloc o).drew) := fun o => ((Below.refl _ _).alloc (Nat.le_refl _) _).drew
  have HO0 : Hid ((w.alloc (.cells #[] 36)).drew.ownsRow w.heap.size 36 1 (.slice (some ⟨w.heap.size, 0, none⟩) 0 0) 0 []) := (World.ownsRow_lit w #[] 0 (Nat.le_refl _) (by unfold maxLen; omega) rfl).drew
  go_enter Try.func45, Try.ntmps45
  go_wp2_with fail
  go_region_held3 (fun w' => Below w.heap.size w w')
    (first | exact (Below.refl _ _).drew | exact (HB0.out _) | assumption | go_keep)
    (first
      | (refine step_append_mine _ (by rfl) _ _ _ (by rfl) w.heap.size 36 i0 _ 1 24 Try.underlying22 hi hz0 hz1 hz2 rfl (by omega) _ 0 [] (by rfl) HO0.out ⟨b, off, none⟩ k _ (D.take k) (by rfl) HL1.out (HN1.out _ (HB0.out _)) HU1.out (by unfold maxLen; omega) (by omega) (by simp) ?_
         intro v1 w1 own1 gr1
         have hb1 : Below w.heap.size w w1 := (HB0.out _).grown gr1 (by simp) (by intro b hb; cases hb; exact Nat.le_refl _))
      | (refine step_append_mine _ (by rfl) _ _ _ (by rfl) w.heap.size 36 i0 _ 1 24 Try.underlying22 hi hz0 hz1 hz2 rfl (by omega) _ _ _ (by rfl) own1 ⟨b, off2, none⟩ (n - (k + 1)) _ (D.drop (k + 1)) (by rfl) HL2.out (HN2.out _ hb1) HU2.out (by unfold maxLen; omega) (by omega) hb1.size ?_
         intro v2 w2 own2 gr2
         have hb2 : Below w.heap.size w w2 := hb1.grown gr2 hb1.size (fun b hb => (own1.lt b hb).1))
      | fail)
  go_wp2_with fail
  go_ret
  have hl : n - 1 = 0 + k + (n - (k + 1)) := by omega
  exact ⟨_, rfl, by rw [hl]; simpa using own2, hb2⟩

theorem wiLess_any (ao : Option Addr) (cap : Nat) (L : List (List Int)) (n k : Nat) (w : World) (Hn : Hid (n = L.length)) (hn : n ≤ 12) (hcap : n ≤ cap) (hk : k < n) (Hc : Hid (RowsAt w ao L)) :
    Calls Try.prog 45 #[.slice ao n cap, .int .i64 k] w fun e w' => ∃ a c, e = .returned (.slice a (n - 1) c) ∧ RowsAt w' a (less L k) ∧ Below w.heap.size w w' := by
  have hkL : k < L.length := by have := Hn.out; omega
  obtain ⟨b, off, D, rfl, hD, hc⟩ := Hc.out.hd (by omega)
  have hDn : n = D.length := by rw [hD.1]; exact Hn.out
  have key : ∃ off2, (if cap = k + 1 then (some ⟨b, off, none⟩ : Option Addr) else some ⟨b, off + (k + 1), none⟩) = some ⟨b, off2, none⟩ ∧ ∀ w', Below w.heap.size w w' → ∀ j u, (D.drop (k + 1))[j]? = some u → w'.cell? ((⟨b, off2, none⟩ : Addr).add j) = some u := by
    by_cases hc1 : cap = k + 1
    · refine ⟨off, by rw [if_pos hc1], fun w' _ j u hu => ?_⟩
      rw [List.drop_eq_nil_of_le (by omega)] at hu
      simp at hu
    · refine ⟨off + (k + 1), by rw [if_neg hc1], fun w' hb j u hu => ?_⟩
      rw [List.getElem?_drop] at hu
      rw [add_at, Nat.add_assoc]
      exact cell_old hb (hc _ u hu)
  obtain ⟨off2, hif, hN2⟩ := key
  refine (wiLess_at b off off2 cap D n k w hDn (by omega) hcap hk hif hD.one hN2 hc).mono ?_
  rintro e w' ⟨v, rfl, own, hb⟩
  obtain ⟨a, c, rfl, hr⟩ := ((hD.kept hb).less hkL).rows (by rw [less_len hkL, ← Hn.out]) own
  exact ⟨a, c, rfl, hr, hb⟩
theorem rows_own3 {w : World} {base : Nat} {ao : Option Addr} {n cap : Nat} {X : List Value} {L : List (List Int)} (h : OwnSS w base (.slice ao n cap) X L) : RowsAt w ao L ∧ n ≤ cap := by
  obtain ⟨ao', cap', e, hr⟩ := h.rows
  cases e
  exact ⟨hr, own_cap h.1⟩

end Go.Proofs.Ytoigafjocckepaa
