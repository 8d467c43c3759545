/- Clues without one of them. -/
import Derived.Test.YtmgmkgjefplfdaaWc
import Derived.Test.YtmgmkgjefplfdaaPzQ
namespace Go.Proofs.Ytmgmkgjefplfdaa
open Go.ChangeShapes Go.WideShapes Go.ChangeAt Go.RowKit
set_option linter.unusedVariables false


def less (l : List Clu) (k : Nat) : List Clu := l.take k ++ l.drop (k + 1)
theorem less_len {l : List Clu} {k : Nat} (h : k < l.length) : (less l k).length = l.length - 1 := by simp [less]; omega
theorem less_all {l : List Clu} {p : Clu → Bool} (h : l.all p = true) (k : Nat) : (less l k).all p = true := by
  rw [List.all_eq_true] at h ⊢
  intro q hq
  rcases List.mem_append.1 hq with hq | hq
  · exact h q (List.mem_of_mem_take hq)
  · exact h q (List.mem_of_mem_drop hq)
theorem clues_news {w : World} {b off : Nat} {m : List Clu} (h : ∀ i, i < m.length → Sat4 w b off m i) :
    ∀ j u, (ks m)[j]? = some u → w.cell? ((⟨b, off, none⟩ : Addr).add j) = some u := by
  intro j u hu
  have hadd : (⟨b, off, none⟩ : Addr).add j = ⟨b, off + j, none⟩ := by unfold Addr.add; split <;> simp_all
  rw [hadd]
  have hj : j < (ks m).length := (List.getElem?_eq_some_iff.1 hu).1
  rw [ks_length] at hj
  obtain ⟨i, hi⟩ : ∃ i, j = i * 4 ∨ j = i * 4 + 1 ∨ j = i * 4 + 2 ∨ j = i * 4 + 3 := ⟨j / 4, by omega⟩
  rcases hi with rfl | rfl | rfl | rfl
  · rw [ks_0 _ i (by omega)] at hu
    rw [(h i (by omega)).1]; exact hu
  · rw [ks_1 _ i (by omega)] at hu
    rw [← Nat.add_assoc, (h i (by omega)).2.1]; exact hu
  · rw [ks_2 _ i (by omega)] at hu
    rw [← Nat.add_assoc, (h i (by omega)).2.2.1]; exact hu
  · rw [ks_3 _ i (by omega)] at hu
    rw [← Nat.add_assoc, (h i (by omega)).2.2.2]; exact hu
theorem Sat4.drop {w : World} {b off : Nat} {l : List Clu} {k i : Nat} (h : Sat4 w b off l (k + i)) : Sat4 w b (off + k * 4) (l.drop k) i := by
  have e0 : k0 (l.drop k) i = k0 l (k + i) := by simp [k0, List.getD_eq_getElem?_getD]
  have e1 : k1 (l.drop k) i = k1 l (k + i) := by simp [k1, List.getD_eq_getElem?_getD]
  have e2 : k2 (l.drop k) i = k2 l (k + i) := by simp [k2, List.getD_eq_getElem?_getD]
  have e3 : k3 (l.drop k) i = k3 l (k + i) := by simp [k3, List.getD_eq_getElem?_getD]
  unfold Sat4 at h ⊢
  rw [e0, e1, e2, e3, show off + k * 4 + i * 4 = off + (k + i) * 4 by omega]
  exact h
theorem Sat4.take {w : World} {b off : Nat} {l : List Clu} {k i : Nat} (h : Sat4 w b off l i) (hi : i < k) : Sat4 w b off (l.take k) i := by
  have e0 : k0 (l.take k) i = k0 l i := by simp [k0, List.getD_eq_getElem?_getD, hi]
  have e1 : k1 (l.take k) i = k1 l i := by simp [k1, List.getD_eq_getElem?_getD, hi]
  have e2 : k2 (l.take k) i = k2 l i := by simp [k2, List.getD_eq_getElem?_getD, hi]
  have e3 : k3 (l.take k) i = k3 l i := by simp [k3, List.getD_eq_getElem?_getD, hi]
  unfold Sat4 at h ⊢
  rw [e0, e1, e2, e3]
  exact h
theorem step_append_mine {P : Program} (w : World) {ops : Array Oper} {o : Oper} {a : Act} {K : Act → World → Prop} {Q : Exit → Act → World → Prop} {E : Prop} (hgd : o.guard = none) (s x : Operand) (t : TypeId)
    (ho : o.op = .call { callee := .builtin .append, args := #[s, x], argTypes := #[t, t] })
    (base : Nat) (e : TypeId) (i : TypeInfo) (z : Value) (size bytes : Nat) (ht : P.underlying t = some (.slice e)) (hi : P.info? e = some i) (hz : i.zero = some z)
    (hsize : i.size = size) (hby : i.bytes = bytes) (hzs : z.cells.size = size) (hsz : 0 < size)
    (v : Value) (n : Nat) (xs : List Value) (hs : a.eval s = v) (hown : w.ownsRow base e size v n xs)
    (ad : Addr) (m c : Nat) (news : List Value) (hx : a.eval x = .slice (some ad) m c) (hl : news.length = m * size) (hnews : ∀ j u, news[j]? = some u → w.cell? (ad.add j) = some u) (h1 : ∀ u ∈ news, u.oneCell' = true)
    (h63 : n + m ≤ maxLen) (hbytes : (n + m) * bytes ≤ 140737488355328) (hbase : base ≤ w.heap.size)
    (h : ∀ v' w', w'.ownsRow base e size v' (n + m) (xs ++ news) → w.grownBy w' v.ownBlock → K (a.put o.dst v') w') :
    if Region.wanted o (yielded ops a.tmps) = true then Oper.wp P o a w K Q else E := by
  have hw : Region.wanted o (yielded ops a.tmps) = true := by simp [Region.wanted, hgd]
  rw [if_pos hw]
  exact wp_append_own w s x t ho base e i z size bytes ht hi hz hsize hby hzs hsz v n xs hs hown ad m c news hx hl hnews h1 h63 hbytes hbase fun v' w' h2 h3 _ => h v' w' h2 h3

theorem clues_sat {w : World} {b N : Nat} {l : List Clu} (h : CluesAt w (some ⟨b, 0, none⟩) l) (hn : N = l.length) : ∀ i, i < N → Sat4 w b 0 l i := by
  subst hn
  rcases h with h | ⟨b', off, e, hs⟩
  · subst h; intro i hi; simp at hi
  · cases e; exact hs
/-- Where 'clues[k+1:]' lies. -/
theorem tail_at (b off cap n k : Nat) (hcap : n ≤ cap) (hk : k < n) : ∃ off2, (if cap = k + 1 then (some ⟨b, off, none⟩ : Option Addr) else some ⟨b, off + (k + 1) * 4, none⟩) = some ⟨b, off2, none⟩ ∧ (n - (k + 1) = 0 ∨ off2 = off + (k + 1) * 4) := by
  by_cases hc1 : cap = k + 1
  · exact ⟨off, by rw [if_pos hc1], .inl (by omega)⟩
  · exact ⟨off + (k + 1) * 4, by rw [if_neg hc1], .inr rfl⟩
theorem tail_cells {w : World} {b off off2 n k : Nat} {l : List Clu} (hn : n = l.length) (hoff : n - (k + 1) = 0 ∨ off2 = off + (k + 1) * 4) (h : ∀ i, i < n → Sat4 w b off l i) : ∀ i, i < (l.drop (k + 1)).length → Sat4 w b off2 (l.drop (k + 1)) i := by
  intro i hi
  rw [List.length_drop] at hi
  rcases hoff with h0 | rfl
  · omega
  · exact (h (k + 1 + i) (by omega)).drop

end Go.Proofs.Ytmgmkgjefplfdaa
