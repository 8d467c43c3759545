/- Broken wires that fit: the pure part. -/
import Derived.Test.YtoigafjocckepaaLu0
import Derived.Test.YtoigafjocckepaaOw
import Derived.Test.YtoigafjocckepaaAs
namespace Go.Proofs.Ytoigafjocckepaa
open Go.ChangeShapes Go.WideShapes Go.ChangeAt Go.RowKit
set_option linter.unusedVariables false

/-- The cells of the partners found. -/
def ptX (X : List Value) (P : List Nat) : List Value := P.map fun i => X.getD i (.bool false)

/-- One value more. -/
theorem push_val {P : Program} (w : World) {ops : Array Oper} {rest : List Oper} {o : Oper} {a : Act} {Q : Exit → Act → World → Prop} (hgd : o.guard = none) (s x : Operand) (t : TypeId)
    (ho : o.op = .call { callee := .builtin .append, args := #[s, x], argTypes := #[t, t] })
    (base : Nat) (i : TypeInfo) (ht : P.underlying t = some (.slice 36)) (hi : P.info? 36 = some i) (hz : i.zero = some (.slice none 0 0))
    (hsize : i.size = 1) (hby : i.bytes = 24)
    (v : Value) (xs : List Value) (k : Nat) (hs : a.eval s = v) (hown : w.ownsRow base 36 1 v k xs) (hsml : k ≤ 1000000)
    (r : Value) (c : Nat) (ad : Nat) (hx : a.eval x = .slice (some ⟨ad, 0, none⟩) 1 c) (had : w.cell? ⟨ad, 0, none⟩ = some r) (h1 : r.oneCell' = true) (hbase : base ≤ w.heap.size)
    (h : ∀ g cap w', w'.ownsRow base 36 1 (.slice (some ⟨g, 0, none⟩) (k + 1) cap) (k + 1) (xs ++ [r]) → w.grownBy w' v.ownBlock → wpList P ops Q rest (a.put o.dst (.slice (some ⟨g, 0, none⟩) (k + 1) cap)) w') : wpList P ops Q (o :: rest) a w := by
  refine wpList_append_lies w hgd s x t ho base 36 i (.slice none 0 0) 1 24 ht hi hz hsize hby rfl (by decide) v k xs hs hown ⟨ad, 0, none⟩ 1 c [r] hx rfl ?_ ?_ (by omega) (by unfold maxLen; omega) (by omega) hbase w.heap.size rfl ?_
  · intro j u hu
    cases j with
    | zero => simp at hu; subst hu; exact had
    | succ j => simp at hu
  · intro u hu
    simp at hu
    subst hu
    exact h1
  · intro g cap w' hown' hgr _ _
    exact h g cap w' hown' hgr
/-- Broken wires fit the results. -/
def fit (L : List (List Int)) (s : ByteArray) (x : Nat) : Bool := (rtx (bws L) x L.length).toList == s.toList
/-- Those among the first n. -/
def idx (p : Nat → Bool) (n : Nat) : List Nat := (List.range n).filter p
theorem idx_succ (p : Nat → Bool) (n : Nat) : idx p (n + 1) = if p n = true then idx p n ++ [n] else idx p n := by
  unfold idx
  rw [List.range_succ, List.filter_append]
  by_cases h : p n = true
  · rw [if_pos h]; simp [h]
  · rw [if_neg h]; simp [h]
theorem idx_len (p : Nat → Bool) (n : Nat) : (idx p n).length ≤ n := by
  unfold idx
  have := List.length_filter_le p (List.range n)
  rw [List.length_range] at this; exact this
theorem idx_lt {p : Nat → Bool} {n i : Nat} (h : i ∈ idx p n) : i < n := List.mem_range.1 (List.mem_filter.1 h).1
theorem idx_pair (p : Nat → Bool) (n : Nat) : (idx p n).Pairwise (· < ·) := List.Pairwise.filter _ List.pairwise_lt_range
/-- What fits, of all lists of at most m wires. -/
def fp (L : List (List Int)) (s : ByteArray) (f m : Nat) (k : Nat) : Bool := fit L s (wa (la f m) k)
def fI (L : List (List Int)) (s : ByteArray) (f m : Nat) : List Nat := idx (fp L s f m) (la f m).length
def fitM (L : List (List Int)) (s : ByteArray) (f m : Nat) : List Nat := (fI L s f m).map (wa (la f m))
def fitL (L : List (List Int)) (s : ByteArray) (f m : Nat) : List (List Int) := (fI L s f m).map (row (wL f m))
theorem la_at {f : Nat} (hf : f ≤ 10) (m k : Nat) (hk : k < (wL f m).length) : wa (la f m) k = bw (row (wL f m) k) := by
  rw [la_wL hf]
  simp [wa, row, List.getD_eq_getElem?_getD, hk]
theorem la_lenw {f : Nat} (hf : f ≤ 10) (m : Nat) : (la f m).length = (wL f m).length := by rw [la_wL hf, List.length_map]
theorem wL_row {f : Nat} (m : Nat) {k : Nat} (hk : k < (wL f m).length) : risB (f : Int) (row (wL f m) k) = true := by
  rw [← row_get hk]; exact wL_ris m _ (List.getElem_mem hk)
theorem fitM_fitL {f : Nat} (hf : f ≤ 10) (L : List (List Int)) (s : ByteArray) (m : Nat) : fitM L s f m = (fitL L s f m).map bw := by
  unfold fitM fitL
  rw [List.map_map]
  apply List.map_congr_left
  intro k hk
  have h := idx_lt hk
  rw [la_lenw hf] at h
  exact la_at hf m k h
theorem fitM_len {f : Nat} (hf : f ≤ 10) (L : List (List Int)) (s : ByteArray) (m : Nat) (hm : m ≤ 10) : (fitM L s f m).length ≤ 11264 := by
  unfold fitM fI
  rw [List.length_map]
  have h1 := idx_len (fp L s f m) (la f m).length
  have h2 := la_len hf m hm
  omega

theorem OwnSS.select {w : World} {base B : Nat} {vA v : Value} {XA : List Value} {LA : List (List Int)} {P : List Nat} (hA : OwnSS w base vA XA LA) (hlt : SSlt vA XA B) (hbB : base ≤ B) (hv : w.ownsRow B 36 1 v P.length (ptX XA P)) (hP : P.Pairwise (· < ·)) (hPl : ∀ i, i ∈ P → i < LA.length) :
    OwnSS w base v (ptX XA P) (P.map (row LA)) := by
  have hXA := hA.2.1
  have at_ : ∀ (i : Nat) (x : Value), (ptX XA P)[i]? = some x → ∃ k, P[i]? = some k ∧ XA[k]? = some x ∧ k < LA.length := by
    intro i x hx
    unfold ptX at hx
    rw [List.getElem?_map] at hx
    cases hk : P[i]? with
    | none => rw [hk] at hx; simp at hx
    | some k =>
      rw [hk] at hx
      have hkP : k ∈ P := List.mem_of_getElem? hk
      have hkl := hPl k hkP
      refine ⟨k, rfl, ?_, hkl⟩
      have hkX : k < XA.length := by rw [hXA]; exact hkl
      have e : XA.getD k (.bool false) = XA[k] := by simp [List.getD_eq_getElem?_getD, hkX]
      simp only [Option.map_some, Option.some.injEq] at hx
      rw [List.getElem?_eq_getElem hkX, ← e, hx]
  refine ⟨by rw [List.length_map]; exact own_base hbB hv, by simp [ptX], fun i x l hx hl => ?_, fun i j x y b hij hx hy hb => ?_⟩
  · obtain ⟨k, hk, hxk, hkl⟩ := at_ i x hx
    rw [List.getElem?_map, hk] at hl
    simp only [Option.map_some, Option.some.injEq] at hl
    subst hl
    have h1 := hA.2.2.1 k x _ hxk (List.getElem?_eq_getElem hkl)
    rw [row_get hkl] at h1
    refine ⟨h1.1, fun b hb e => ?_⟩
    have h2 := (hv.lt b e).1
    have h3 := hlt b (.inr ⟨k, x, hxk, hb⟩)
    omega
  · obtain ⟨k, hk, hxk, hkl⟩ := at_ i x hx
    obtain ⟨k2, hk2, hyk, hkl2⟩ := at_ j y hy
    have hi := (List.getElem?_eq_some_iff.1 hk)
    have hj := (List.getElem?_eq_some_iff.1 hk2)
    have hlt2 : k < k2 := by
      have := List.pairwise_iff_getElem.1 hP i j hi.1 hj.1 hij
      rw [hi.2, hj.2] at this
      exact this
    exact hA.2.2.2 k k2 x y b hlt2 hxk hyk hb

end Go.Proofs.Ytoigafjocckepaa
