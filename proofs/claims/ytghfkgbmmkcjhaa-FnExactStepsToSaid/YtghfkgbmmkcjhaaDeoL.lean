/- Ordering sends: pieces. -/
import Derived.Test.YtghfkgbmmkcjhaaIm
namespace Go.Proofs.Ytghfkgbmmkcjhaa
open Go.ChangeShapes Go.WideShapes Go.ChangeAt Go.RowKit
set_option linter.unusedVariables false

theorem add_at (b off j : Nat) : (⟨b, off, none⟩ : Addr).add j = ⟨b, off + j, none⟩ := by
  unfold Addr.add
  split <;> simp_all

theorem step_append_mine {P : Program} (w : World) {ops : Array Oper} {o : Oper} {a : Act} {K : Act → World → Prop} {Q : Exit → Act → World → Prop} {E : Prop} (hgd : o.guard = none) (s x : Operand) (t : TypeId)
    (ho : o.op = .call { callee := .builtin .append, args := #[s, x], argTypes := #[t, t] })
    (base : Nat) (e : TypeId) (i : TypeInfo) (z : Value) (size bytes : Nat) (ht : P.underlying t = some (.slice e)) (hi : P.info? e = some i) (hz : i.zero = some z)
    (hsize : i.size = size) (hby : i.bytes = bytes) (hzs : z.cells.size = size) (hsz : 0 < size)
    (v : Value) (n : Nat) (xs : List Value) (hs : a.eval s = v) (hown : w.ownsRow base e size v n xs)
    (ad : Addr) (m c : Nat) (news : List Value) (hx : a.eval x = .slice (some ad) m c) (hl : news.length = m * size) (hnews : ∀ j u, news[j]? = some u → w.cell? (ad.add j) = some u) (h1 : ∀ u ∈ news, u.oneCell' = true)
    (h63 : n + m ≤ maxLen) (hbytes : (n + m) * bytes ≤ 140737488355328) (hbase : base ≤ w.heap.size)
    (h : ∀ v' w', w'.ownsRow base e size v' (n + m) (xs ++ news) → w.grownBy w' v.ownBlock → K (a.put o.dst v') w') :
    if Region.wanted o (yielded ops a.tmps) = true then Oper.wp P o a w K Q else E := by
  have hw : Region.wanted o (yielded ops a.tmps) = true := by simp [Region.wanted, hgd]
  rw [if_pos hw]
  exact wp_append_own w s x t ho base e i z size bytes ht hi hz hsize hby hzs hsz v n xs hs hown ad m c news hx hl hnews h1 h63 hbytes hbase fun v' w' h2 h3 _ => h v' w' h2 h3

theorem step_append_nil {P : Program} (w : World) {ops : Array Oper} {o : Oper} {a : Act} {K : Act → World → Prop} {Q : Exit → Act → World → Prop} {E : Prop} (hgd : o.guard = none) (s x : Operand) (t : TypeId)
    (ho : o.op = .call { callee := .builtin .append, args := #[s, x], argTypes := #[t, t] })
    (base : Nat) (e : TypeId) (i : TypeInfo) (size : Nat) (ht : P.underlying t = some (.slice e)) (hi : P.info? e = some i)
    (v : Value) (n : Nat) (xs : List Value) (hs : a.eval s = v) (hown : w.ownsRow base e size v n xs) (hx : a.eval x = .slice none 0 0)
    (h : K (a.put o.dst v) w) :
    if Region.wanted o (yielded ops a.tmps) = true then Oper.wp P o a w K Q else E := by
  have hw : Region.wanted o (yielded ops a.tmps) = true := by simp [Region.wanted, hgd]
  rw [if_pos hw]
  have hrun := run_append_owned_none (P := P) (w := w) base t o.type e i size ht hi v n xs hown
  unfold Oper.wp
  simp [execOp, ho, resolve, invoke, builtin, hs, hx, hrun, Result.andThen]
  exact h

theorem news_far {w w' : World} {g b : Nat} {us : List Value} (hg : w.grownBy w' (some g)) (hne : b ≠ g) (h : ∀ (j : Nat) u, us[j]? = some u → w.cell? ((⟨b, 0, none⟩ : Addr).add j) = some u) : ∀ (j : Nat) u, us[j]? = some u → w'.cell? ((⟨b, 0, none⟩ : Addr).add j) = some u := by
  intro j u hu
  have h1 := h j u hu
  rw [add_at] at h1 ⊢
  have hlt := World.block_lt_of_cell? w _ h1
  rw [hg.cell_far _ hlt (by simpa using hne)]
  exact h1

theorem keepT {w3 w' : World} {B : Nat} {u v z : Value} (h0 : w3.cell? ⟨B, 0, none⟩ = some u) (h1 : w3.cell? ⟨B, 1, none⟩ = some v) (h2 : w3.cell? ⟨B, 2, none⟩ = some z) (hb : Below w3.heap.size w3 w') : w'.cell? ⟨B, 0, none⟩ = some u ∧ w'.cell? ⟨B, 1, none⟩ = some v ∧ w'.cell? ⟨B, 2, none⟩ = some z ∧ Hid (Below w3.heap.size w3 w') :=
  ⟨cell_old hb h0, cell_old hb h1, cell_old hb h2, Lib.hid hb⟩
theorem news_take {e : TypeId} {w w' : World} {base g m cap : Nat} {K : List Snd} (h : w.ownsRow base e 3 (.slice (some ⟨g, 0, none⟩) m cap) m (ss K)) (hm : m = K.length) (hb : Below w.heap.size w w') (k : Nat) : ∀ j u, (ss (K.take k))[j]? = some u → w'.cell? ((⟨g, 0, none⟩ : Addr).add j) = some u := by
  intro j u hu
  have hj := (List.getElem?_eq_some_iff.1 hu).1
  have e : ss K = ss (K.take k) ++ ss (K.drop k) := by rw [← ss_append, List.take_append_drop]
  have hl : (ss (K.take k)).length ≤ m * 3 := by rw [ss_length, List.length_take, hm]; omega
  have hc := h.cellAt j (by omega)
  rw [e, List.getElem?_append_left hj, hu] at hc
  rw [add_at, Nat.zero_add]
  exact cell_old hb hc
theorem news_drop {e : TypeId} {w w' : World} {base g m cap : Nat} {K : List Snd} (h : w.ownsRow base e 3 (.slice (some ⟨g, 0, none⟩) m cap) m (ss K)) (hm : m = K.length) (hb : Below w.heap.size w w') (k : Nat) (hk : k ≤ m) : ∀ j u, (ss (K.drop k))[j]? = some u → w'.cell? ((⟨g, k * 3, none⟩ : Addr).add j) = some u := by
  intro j u hu
  have hj := (List.getElem?_eq_some_iff.1 hu).1
  have e : ss K = ss (K.take k) ++ ss (K.drop k) := by rw [← ss_append, List.take_append_drop]
  have hl : (ss (K.take k)).length = k * 3 := by rw [ss_length, List.length_take]; omega
  rw [ss_length, List.length_drop] at hj
  have hc := h.cellAt (k * 3 + j) (by omega)
  rw [e, List.getElem?_append_right (by omega), hl, Nat.add_sub_cancel_left, hu] at hc
  rw [add_at]
  exact cell_old hb hc
theorem ltS_le1 {c a : Snd} (h : c.at < a.at) : ltS c a = true := by simp only [ltS, decide_eq_true_eq]; omega
theorem ltS_le2 {c a : Snd} (h : c.at = a.at) (h2 : c.fr < a.fr) : ltS c a = true := by simp only [ltS, decide_eq_true_eq]; omega
theorem ltS_no {c a : Snd} (h : ¬ c.at < a.at) (h2 : ¬ (c.at = a.at ∧ c.fr < a.fr)) : ltS c a = false := by simp only [ltS, decide_eq_false_iff_not]; omega
theorem posS_yes {K : List Snd} {c : Snd} {q : Nat} (h : ltS c (lsn K q) = true) : posS K c (q + 1) = posS K c q := by
  show (if ltS c (lsn K q) = true then posS K c q else q + 1) = _
  rw [h]; rfl
theorem posS_no {K : List Snd} {c : Snd} {q : Nat} (h : ltS c (lsn K q) = false) : posS K c (q + 1) = q + 1 := by
  show (if ltS c (lsn K q) = true then posS K c q else q + 1) = _
  rw [h]; rfl

end Go.Proofs.Ytghfkgbmmkcjhaa
