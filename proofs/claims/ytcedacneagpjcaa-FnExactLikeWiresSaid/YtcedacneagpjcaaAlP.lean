/- All groupings that begin with a list. -/
import Derived.Test.YtcedacneagpjcaaAl
namespace Go.Proofs.Ytcedacneagpjcaa
open Go.ChangeShapes Go.WideShapes Go.ChangeAt Go.RowKit
set_option linter.unusedVariables false


/-- All groupings that begin with a list, with so many wires more. -/
def allF (l : List Int) : Nat → List (List Int) | 0 => [l] | r + 1 => (ext l).flatMap fun x => allF x r

theorem allF_last : ∀ r l, allF l (r + 1) = (allF l r).flatMap ext
  | 0, l => by simp [allF]
  | r + 1, l => by
    show (ext l).flatMap (fun x => allF x (r + 1)) = ((ext l).flatMap fun x => allF x r).flatMap ext
    rw [List.flatMap_assoc]
    congr 1
    funext x
    exact allF_last r x

theorem allF_all : ∀ n, allF [] n = allG n
  | 0 => rfl
  | n + 1 => by rw [allF_last, allF_all n]; rfl

/-- The groupings whose next wire is in one of the first q groups. -/
def fF (l : List Int) (r q : Nat) : List (List Int) := (exTo l q).flatMap fun x => allF x r

theorem fF_succ (l : List Int) (r q : Nat) : fF l r (q + 1) = fF l r q ++ allF (l ++ [(q : Int)]) r := by
  unfold fF
  rw [exTo_succ, List.flatMap_append]; simp

theorem flat_len {α : Type} (f : α → List (List Int)) (B : Nat) : ∀ L : List α, (∀ x, x ∈ L → (f x).length ≤ B) → (L.flatMap f).length ≤ L.length * B
  | [], _ => by simp
  | a :: L, h => by
    have h1 := flat_len f B L (fun x hx => h x (by simp [hx]))
    have h2 := h a (by simp)
    rw [List.flatMap_cons, List.length_append, List.length_cons, Nat.add_mul]; omega

theorem flat_pos {α : Type} (f : α → List (List Int)) (L : List α) (h0 : 0 < L.length) (h : ∀ x, x ∈ L → 0 < (f x).length) : 0 < (L.flatMap f).length := by
  cases L with
  | nil => simp at h0
  | cons a L =>
    rw [List.flatMap_cons, List.length_append]
    have := h a (by simp)
    omega

theorem exTo_mem {l x : List Int} {q : Nat} (h : x ∈ exTo l q) : x.length = l.length + 1 := by
  unfold exTo at h
  rw [List.mem_map] at h
  obtain ⟨j, _, rfl⟩ := h
  simp

theorem allF_len : ∀ r l, l.length + r ≤ 7 → (allF l r).length ≤ 8 ^ r ∧ 0 < (allF l r).length
  | 0, l => fun _ => by simp [allF]
  | r + 1, l => fun h => by
    have h1 := ngN_le l
    have hm : ∀ x, x ∈ exTo l (ngN l + 1) → x.length = l.length + 1 := fun x hx => exTo_mem hx
    constructor
    · have h2 := flat_len (fun x => allF x r) (8 ^ r) (exTo l (ngN l + 1)) (fun x hx => (allF_len r x (by rw [hm x hx]; omega)).1)
      rw [exTo_len] at h2
      show ((exTo l (ngN l + 1)).flatMap fun x => allF x r).length ≤ _
      have h3 : (ngN l + 1) * 8 ^ r ≤ 8 * 8 ^ r := Nat.mul_le_mul_right _ (by omega)
      rw [Nat.pow_succ]; omega
    · exact flat_pos _ _ (by show 0 < (exTo l (ngN l + 1)).length; rw [exTo_len]; omega) (fun x hx => (allF_len r x (by rw [hm x hx]; omega)).2)

theorem fF_len (l : List Int) (r q : Nat) (hq : q ≤ 8) (h : l.length + r + 1 ≤ 7) : (fF l r q).length ≤ 8 * 8 ^ r := by
  have h2 := flat_len (fun x => allF x r) (8 ^ r) (exTo l q) (fun x hx => (allF_len r x (by rw [exTo_mem hx]; omega)).1)
  rw [exTo_len] at h2
  have h3 : q * 8 ^ r ≤ 8 * 8 ^ r := Nat.mul_le_mul_right _ hq
  exact Nat.le_trans h2 h3

theorem pow8 : ∀ r, r ≤ 7 → 8 ^ r ≤ 2097152
  | 0, _ => by decide
  | 1, _ => by decide
  | 2, _ => by decide
  | 3, _ => by decide
  | 4, _ => by decide
  | 5, _ => by decide
  | 6, _ => by decide
  | 7, _ => by decide
  | r + 8, h => by omega

/-- One list of lists behind another one. -/
theorem OwnSS.concat {w w' : World} {base b2 : Nat} {v v2 v' : Value} {X X2 : List Value} {L L2 : List (List Int)} {H : Nat}
    (h : OwnSS w base v X L) (h2 : OwnSS w b2 v2 X2 L2) (hb : base ≤ b2) (hlt : SSlt v X b2)
    (hgr : w.grownBy w' v.ownBlock) (hown : w'.ownsRow base 22 1 v' (L.length + L2.length) (X ++ X2)) (hat : v'.ownBlock = v.ownBlock ∨ v'.ownBlock = some H) (hH : w.heap.size ≤ H) :
    OwnSS w' base v' (X ++ X2) (L ++ L2) := by
  have hXL := h.2.1
  have hXL2 := h2.2.1
  have ge2 : ∀ (i : Nat) (y : Value) (b : Nat), X2[i]? = some y → y.ownBlock = some b → b2 ≤ b ∧ b < w.heap.size := fun i y b hy hb => by
    have hi := (List.getElem?_eq_some_iff.1 hy).1
    exact (h2.2.2.1 i y _ hy (List.getElem?_eq_getElem (by rw [← hXL2]; exact hi))).1.lt b hb
  refine ⟨by rw [List.length_append]; exact hown, by simp [hXL, hXL2], ?_, ?_⟩
  · intro i y m hy hm
    by_cases hi : i < X.length
    · rw [List.getElem?_append_left hi] at hy
      rw [List.getElem?_append_left (by omega)] at hm
      obtain ⟨h3, h4⟩ := h.2.2.1 i y m hy hm
      refine ⟨h3.kept hgr ?_, fun b hb => ?_⟩
      · cases hq : y.ownBlock with
        | none => exact .inl rfl
        | some b => exact .inr (fun e => h4 b hq e.symm)
      · rcases hat with e | e
        · rw [e]; exact h4 b hb
        · rw [e]; intro hc; cases hc; have := (h3.lt _ hb).2; omega
    · rw [List.getElem?_append_right (by omega)] at hy
      rw [List.getElem?_append_right (by omega), ← hXL] at hm
      obtain ⟨h3, h4⟩ := h2.2.2.1 _ y m hy hm
      refine ⟨own_base hb (h3.kept hgr ?_), fun b hb => ?_⟩
      · cases hq : y.ownBlock with
        | none => exact .inl rfl
        | some b => exact .inr (fun e => by have h5 := (ge2 _ y b hy hq).1; have h6 := hlt b (.inl e.symm); omega)
      · have h5 := ge2 _ y b hy hb
        rcases hat with e | e
        · rw [e]; intro hc; have h6 := hlt b (.inl hc); omega
        · rw [e]; intro hc; cases hc; omega
  · intro i j y z b hij hy hz hb
    by_cases hj : j < X.length
    · rw [List.getElem?_append_left (by omega)] at hy
      rw [List.getElem?_append_left hj] at hz
      exact h.2.2.2 i j y z b hij hy hz hb
    · rw [List.getElem?_append_right (by omega)] at hz
      by_cases hi : i < X.length
      · rw [List.getElem?_append_left hi] at hy
        intro e
        have h5 := (ge2 _ z b hz e).1
        have h6 := hlt b (.inr ⟨i, y, hy, hb⟩)
        omega
      · rw [List.getElem?_append_right (by omega)] at hy
        exact h2.2.2.2 _ _ y z b (by omega) hy hz hb

/-- Many lists more. -/
theorem push_rows {P : Program} (w : World) {ops : Array Oper} {rest : List Oper} {o : Oper} {a : Act} {Q : Exit → Act → World → Prop} (hgd : o.guard = none) (s x : Operand) (t : TypeId)
    (ho : o.op = .call { callee := .builtin .append, args := #[s, x], argTypes := #[t, t] })
    (base : Nat) (i : TypeInfo) (ht : P.underlying t = some (.slice 22)) (hi : P.info? 22 = some i) (hz : i.zero = some (.slice none 0 0))
    (hsize : i.size = 1) (hby : i.bytes = 24)
    (v : Value) (X : List Value) (L : List (List Int)) (k : Nat) (hk : L.length = k) (hs : a.eval s = v) (hown : OwnSS w base v X L) (hsml : k ≤ 100000000)
    (b2 g2 c : Nat) (X2 : List Value) (L2 : List (List Int)) (m : Nat) (hm : L2.length = m) (h2 : OwnSS w b2 (.slice (some ⟨g2, 0, none⟩) m c) X2 L2) (hb : base ≤ b2) (hlt : SSlt v X b2) (hm0 : 0 < m) (hsm2 : m ≤ 100000000)
    (hx : a.eval x = .slice (some ⟨g2, 0, none⟩) m c) (hbase : base ≤ w.heap.size)
    (h : ∀ v' w', OwnSS w' base v' (X ++ X2) (L ++ L2) → w.grownBy w' v.ownBlock → wpList P ops Q rest (a.put o.dst v') w') : wpList P ops Q (o :: rest) a w := by
  subst hm
  have hX2 := h2.2.1
  refine wpList_append_lies w hgd s x t ho base 22 i (.slice none 0 0) 1 24 ht hi hz hsize hby rfl (by decide) v k X hs (by rw [← hk]; exact hown.1) ⟨g2, 0, none⟩ L2.length c X2 hx (by omega) ?_ ?_ hm0 (by unfold maxLen; omega) (by omega) hbase w.heap.size rfl ?_
  · intro j u hu
    have hj := (List.getElem?_eq_some_iff.1 hu).1
    have hc := h2.1.cellAt j (by omega)
    rw [hu] at hc
    rw [show (⟨g2, 0, none⟩ : Addr).add j = ⟨g2, j, none⟩ by unfold Addr.add; split <;> simp_all]
    exact hc
  · intro u hu
    obtain ⟨j, hj, e⟩ := List.getElem_of_mem hu
    have hu2 : X2[j]? = some u := by rw [List.getElem?_eq_getElem hj, e]
    obtain ⟨h3, _⟩ := h2.2.2.1 j u _ hu2 (List.getElem?_eq_getElem (by rw [← hX2]; exact hj))
    obtain ⟨ao, cap, rfl, _⟩ := nums_shape h3 rfl
    rfl
  · intro g cap w' hown' hgr hat _
    refine h _ w' (OwnSS.concat (v' := .slice (some ⟨g, 0, none⟩) (k + L2.length) cap) (H := w.heap.size) hown h2 hb hlt hgr (by rw [hk]; exact hown') ?_ (Nat.le_refl _)) hgr
    rcases hat with e | e
    · exact .inl e.symm
    · exact .inr (by rw [e]; rfl)

end Go.Proofs.Ytcedacneagpjcaa
