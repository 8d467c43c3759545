/- Lists of lists of calls, one behind the other. -/
import Derived.Test.YtibjapfaljeclaaDoorInc
import Derived.Test.YtibjapfaljeclaaDoorOpen
namespace Go.Proofs.YtibjapfaljeclaaDoor
open Go.ChangeShapes Go.WideShapes Go.ChangeAt Go.RowKit
set_option linter.unusedVariables false

/-- The i-th of the lists. -/
def crow (L : List (List (Int × Int))) (i : Nat) : List (Int × Int) := L.getD i []

/-- Cells that hold slices, each of which reads as one of the lists. -/
def CSAt (w : World) (b off : Nat) (A : Nat → Option Addr) (C : Nat → Nat) (L : List (List (Int × Int))) (n : Nat) : Prop :=
  ∀ i, i < n → w.cell? ⟨b, off + i, none⟩ = some (.slice (A i) (crow L i).length (C i)) ∧ CallsAt w (A i) (crow L i)

theorem CSAt.kept {w w' : World} {b off : Nat} {A : Nat → Option Addr} {C : Nat → Nat} {L : List (List (Int × Int))} {n : Nat} (h : CSAt w b off A C L n) (hb : Below w.heap.size w w') : CSAt w' b off A C L n :=
  fun i hi => ⟨cell_old hb (h i hi).1, (h i hi).2.kept hb⟩

theorem own_base {w : World} {base b' : Nat} (hb : b' ≤ base) {e : TypeId} {size : Nat} {v : Value} {n : Nat} {xs : List Value} (h : w.ownsRow base e size v n xs) : w.ownsRow b' e size v n xs := by
  refine ⟨h.1, ?_⟩
  rcases h.2 with h2 | ⟨g, cap, cur, h1, h2, h3⟩
  · exact .inl h2
  · exact .inr ⟨g, cap, cur, h1, Nat.le_trans hb h2, h3⟩

theorem crow_get {L : List (List (Int × Int))} {i : Nat} (h : i < L.length) : L[i] = crow L i := by simp [crow, List.getD_eq_getElem?_getD, h]

/-- The slice at this address reads as these lists of calls. -/
def RowsAt (w : World) (ao : Option Addr) (L : List (List (Int × Int))) : Prop :=
  L = [] ∨ ∃ b off A C, ao = some ⟨b, off, none⟩ ∧ CSAt w b off A C L L.length ∧ ∀ i, i < L.length → (crow L i).length ≤ C i ∧ (A i = none → C i = 0)

theorem RowsAt.kept {w w' : World} {ao : Option Addr} {L : List (List (Int × Int))} (h : RowsAt w ao L) (hb : Below w.heap.size w w') : RowsAt w' ao L := by
  rcases h with h | ⟨b, off, A, C, h, hc, hcap⟩
  · exact .inl h
  · exact .inr ⟨b, off, A, C, h, hc.kept hb, hcap⟩

theorem crow_none {L : List (List (Int × Int))} {i : Nat} (h : L.length ≤ i) : crow L i = [] := by simp [crow, List.getD_eq_getElem?_getD, h]

def flat (L : List (List (Int × Int))) (k : Nat) : List (Int × Int) := (L.take k).flatten

theorem flat_zero (L : List (List (Int × Int))) : flat L 0 = [] := by simp [flat]

theorem flat_succ (L : List (List (Int × Int))) (k : Nat) (h : k < L.length) : flat L (k + 1) = flat L k ++ crow L k := by
  unfold flat
  rw [List.take_succ_eq_append_getElem h, crow_get h]
  simp

theorem flat_all (L : List (List (Int × Int))) : flat L L.length = L.flatten := by simp [flat]

theorem flat_len {L : List (List (Int × Int))} (h : ∀ i, (crow L i).length ≤ 60) : ∀ k, k ≤ L.length → (flat L k).length ≤ 60 * k
  | 0, _ => by simp [flat]
  | k + 1, hk => by
    have ih := flat_len h k (by omega)
    have := h k
    rw [flat_succ L k (by omega), List.length_append]
    omega

/-- A round is appended to what is owned. -/
theorem step_round {P : Program} (w : World) {ops : Array Oper} {rest : List Oper} {o : Oper} {a : Act} {Q : Exit → Act → World → Prop} (hgd : o.guard = none) (s x : Operand) (t : TypeId)
    (ho : o.op = .call { callee := .builtin .append, args := #[s, x], argTypes := #[t, t] })
    (base : Nat) (e : TypeId) (i : TypeInfo) (z : Value) (ht : P.underlying t = some (.slice e)) (hi : P.info? e = some i) (hz : i.zero = some z)
    (hsize : i.size = 2) (hby : i.bytes = 16) (hzs : z.cells.size = 2)
    (v : Value) (n : Nat) (xs : List (Int × Int)) (hs : a.eval s = v) (hown : w.ownsRow base e 2 v n (cs xs))
    (ao : Option Addr) (m c : Nat) (l : List (Int × Int)) (hx : a.eval x = .slice ao m c) (hm : m = l.length) (hc : CallsAt w ao l) (hnil : ao = none → c = 0)
    (hb1 : n + m ≤ 1000000) (hbase : base ≤ w.heap.size)
    (h : ∀ v' w', w'.ownsRow base e 2 v' (n + m) (cs (xs ++ l)) → Below base w w' → wpList P ops Q rest (a.put o.dst v') w') : wpList P ops Q (o :: rest) a w := by
  have hlow : ∀ k, v.ownBlock = some k → base ≤ k := fun k hk => (hown.lt k hk).1
  cases ao with
  | none =>
    have hc0 := hnil rfl
    subst hc0
    have hm0 : m = 0 := by
      rcases hc with h | ⟨b, off, h, _⟩
      · rw [hm, h]; rfl
      · cases h
    subst hm0
    have hl : l = [] := List.eq_nil_of_length_eq_zero hm.symm
    subst hl
    refine wpList_append_own_none hgd s x t ho base e i 2 ht hi v n (cs xs) hs hown hx ?_
    refine h v w ?_ (Below.refl _ _)
    simpa using hown
  | some ad =>
    have hnews : ∃ b off, ad = ⟨b, off, none⟩ ∨ l = [] := by
      rcases hc with h | ⟨b, off, h, _⟩
      · exact ⟨0, 0, .inr h⟩
      · exact ⟨b, off, .inl (by cases h; rfl)⟩
    refine wpList_append_own w hgd s x t ho base e i z 2 16 ht hi hz hsize hby hzs (by decide) v n (cs xs) hs hown ad m c (cs l) hx (by rw [cs_length, hm]) ?_ (cs_one l) (by unfold maxLen; omega) (by omega) hbase ?_
    · intro j u hj
      rcases hc with h | ⟨b, off, h, hcc⟩
      · subst h; simp [cs] at hj
      · cases h
        have hjl : j < l.length * 2 := by rw [← cs_length]; exact (List.getElem?_eq_some_iff.1 hj).1
        obtain ⟨q, hq⟩ : ∃ q, j = q * 2 ∨ j = q * 2 + 1 := ⟨j / 2, by omega⟩
        rw [add_at]
        rcases hq with rfl | rfl
        · rw [cs_even l q (by omega)] at hj
          rw [(hcc q (by omega)).1]
          exact hj
        · rw [cs_odd l q (by omega)] at hj
          rw [show off + (q * 2 + 1) = off + q * 2 + 1 by omega, (hcc q (by omega)).2]
          exact hj
    · intro v' w' h1 h2 _
      refine h v' w' (by rw [cs_append]; exact h1) ((Below.refl base w).grown h2 hbase hlow)
end Go.Proofs.YtibjapfaljeclaaDoor
