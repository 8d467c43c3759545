/- Claims without one of them. -/
import Derived.Test.YtaangjidkkpogaaFc
namespace Go.Proofs.Ytaangjidkkpogaa
open Go.ChangeShapes Go.WideShapes Go.ChangeAt Go.RowKit
set_option linter.unusedVariables false


theorem infoCL : (Try.prog.info? 47).map (fun i => (i.zero, i.size, i.bytes)) = some (some (.agg #[.int .i64 0, .int .i64 0, .bool false]), 3, 24) := by kernel_rfl
def less (l : List Snd) (k : Nat) : List Snd := l.take k ++ l.drop (k + 1)
theorem less_len {l : List Snd} {k : Nat} (h : k < l.length) : (less l k).length = l.length - 1 := by simp [less]; omega
theorem less_cl {f : Int} {l : List Snd} (h : clB f l = true) (k : Nat) : clB f (less l k) = true := by
  obtain ⟨h1, h2, h3⟩ := cl_parts h
  rw [List.all_eq_true] at h3
  have h4 : (less l k).all (cl1 f) = true := by
    rw [List.all_eq_true]
    intro q hq
    rcases List.mem_append.1 hq with hq | hq
    · exact h3 q (List.mem_of_mem_take hq)
    · exact h3 q (List.mem_of_mem_drop hq)
  simp only [clB, frB, h4, Bool.and_true, Bool.and_eq_true, decide_eq_true_eq]
  exact ⟨h1, by simp [less]; omega⟩
theorem less_fit (l : List Snd) (k : Nat) (h : k < l.length) (c : List Bool) : fit l c = (fit (less l k) c && sayB c l[k].1 l[k].2.1 l[k].2.2) := by
  have e : l = l.take k ++ l[k] :: l.drop (k + 1) := by rw [← List.drop_eq_getElem_cons h, List.take_append_drop]
  have e2 : fit l c = fit (l.take k ++ l[k] :: l.drop (k + 1)) c := by rw [← e]
  rw [e2]
  unfold fit less
  rw [List.all_append, List.all_append, List.all_cons]
  cases (l.take k).all (fun q => sayB c q.1 q.2.1 q.2.2) <;> cases sayB c l[k].1 l[k].2.1 l[k].2.2 <;> cases (l.drop (k + 1)).all (fun q => sayB c q.1 q.2.1 q.2.2) <;> rfl
/-- The same casts fit if as many do. -/
theorem less_same {f : Int} {l : List Snd} (h : clB f l = true) {k : Nat} (hk : k < l.length) (he : (fitB f (less l k)).length = (fitB f l).length) : fitB f (less l k) = fitB f l := by
  rw [fitB_yes h, fitB_yes (less_cl h k)] at he ⊢
  have hf : (allC f.toNat).filter (fit l) = ((allC f.toNat).filter (fit (less l k))).filter (fun c => sayB c l[k].1 l[k].2.1 l[k].2.2) := by
    rw [List.filter_filter]
    congr 1
    funext c
    rw [less_fit l k hk c, Bool.and_comm]
  rw [hf] at he ⊢
  exact (List.Sublist.eq_of_length (List.filter_sublist) he.symm).symm
/-- The claims that aren't needed. -/
def ndK (f : Int) (l : List Snd) : Nat → List Int
  | 0 => []
  | k + 1 => if (fitB f (less l k)).length = (fitB f l).length then ndK f l k ++ [(k : Int)] else ndK f l k
theorem ndK_len (f : Int) (l : List Snd) : ∀ k, (ndK f l k).length ≤ k
  | 0 => Nat.le_refl _
  | k + 1 => by have := ndK_len f l k; unfold ndK; split <;> simp <;> omega
def ncR (f : Int) (l : List Snd) : List Int := if clB f l then ndK f l l.length else []
theorem ncR_len (f : Int) (l : List Snd) : (ncR f l).length ≤ 1000 := by
  unfold ncR
  split
  · rename_i h; have := ndK_len f l l.length; have := (cl_parts h).2.1; omega
  · simp
theorem sends_news {w : World} {b off : Nat} {m : List Snd} (h : ∀ i, i < m.length → Sat3 w b off m i) :
    ∀ j u, (ss m)[j]? = some u → w.cell? ((⟨b, off, none⟩ : Addr).add j) = some u := by
  intro j u hu
  have hadd : (⟨b, off, none⟩ : Addr).add j = ⟨b, off + j, none⟩ := by unfold Addr.add; split <;> simp_all
  rw [hadd]
  have hj : j < (ss m).length := (List.getElem?_eq_some_iff.1 hu).1
  rw [ss_length] at hj
  obtain ⟨i, hi⟩ : ∃ i, j = i * 3 ∨ j = i * 3 + 1 ∨ j = i * 3 + 2 := ⟨j / 3, by omega⟩
  rcases hi with rfl | rfl | rfl
  · rw [ss_0 _ i (by omega)] at hu
    rw [(h i (by omega)).1]; exact hu
  · rw [ss_1 _ i (by omega)] at hu
    rw [← Nat.add_assoc, (h i (by omega)).2.1]; exact hu
  · rw [ss_2 _ i (by omega)] at hu
    rw [← Nat.add_assoc, (h i (by omega)).2.2]; exact hu
theorem Sat3.drop {w : World} {b off : Nat} {l : List Snd} {k i : Nat} (h : Sat3 w b off l (k + i)) : Sat3 w b (off + k * 3) (l.drop k) i := by
  have e1 : sf (l.drop k) i = sf l (k + i) := by simp [sf, List.getD_eq_getElem?_getD]
  have e2 : st (l.drop k) i = st l (k + i) := by simp [st, List.getD_eq_getElem?_getD]
  have e3 : sm (l.drop k) i = sm l (k + i) := by simp [sm, List.getD_eq_getElem?_getD]
  unfold Sat3 at h ⊢
  rw [e1, e2, e3, show off + k * 3 + i * 3 = off + (k + i) * 3 by omega]
  exact h
theorem step_append_mine {P : Program} (w : World) {ops : Array Oper} {o : Oper} {a : Act} {K : Act → World → Prop} {Q : Exit → Act → World → Prop} {E : Prop} (hgd : o.guard = none) (s x : Operand) (t : TypeId)
    (ho : o.op = .call { callee := .builtin .append, args := #[s, x], argTypes := #[t, t] })
    (base : Nat) (e : TypeId) (i : TypeInfo) (z : Value) (size bytes : Nat) (ht : P.underlying t = some (.slice e)) (hi : P.info? e = some i) (hz : i.zero = some z)
    (hsize : i.size = size) (hby : i.bytes = bytes) (hzs : z.cells.size = size) (hsz : 0 < size)
    (v : Value) (n : Nat) (xs : List Value) (hs : a.eval s = v) (hown : w.ownsRow base e size v n xs)
    (ad : Addr) (m c : Nat) (news : List Value) (hx : a.eval x = .slice (some ad) m c) (hl : news.length = m * size) (hnews : ∀ j u, news[j]? = some u → w.cell? (ad.add j) = some u) (h1 : ∀ u ∈ news, u.oneCell' = true)
    (h63 : n + m ≤ maxLen) (hbytes : (n + m) * bytes ≤ 140737488355328) (hbase : base ≤ w.heap.size)
    (h : ∀ v' w', w'.ownsRow base e size v' (n + m) (xs ++ news) → w.grownBy w' v.ownBlock → K (a.put o.dst v') w') :
    if Region.wanted o (yielded ops a.tmps) = true then Oper.wp P o a w K Q else E := by
  have hw : Region.wanted o (yielded ops a.tmps) = true := by simp [Region.wanted, hgd]
  rw [if_pos hw]
  exact wp_append_own w s x t ho base e i z size bytes ht hi hz hsize hby hzs hsz v n xs hs hown ad m c news hx hl hnews h1 h63 hbytes hbase fun v' w' h2 h3 _ => h v' w' h2 h3
/-- Where 'claims[k+1:]' lies. -/
theorem tail_at (b off cap n k : Nat) (hcap : n ≤ cap) (hk : k < n) : ∃ off2, (if cap = k + 1 then (some ⟨b, off, none⟩ : Option Addr) else some ⟨b, off + (k + 1) * 3, none⟩) = some ⟨b, off2, none⟩ ∧ (n - (k + 1) = 0 ∨ off2 = off + (k + 1) * 3) := by
  by_cases hc1 : cap = k + 1
  · exact ⟨off, by rw [if_pos hc1], .inl (by omega)⟩
  · exact ⟨off + (k + 1) * 3, by rw [if_neg hc1], .inr rfl⟩
theorem tail_cells {w : World} {b off off2 n k : Nat} {l : List Snd} (hn : n = l.length) (hoff : n - (k + 1) = 0 ∨ off2 = off + (k + 1) * 3) (h : ∀ i, i < n → Sat3 w b off l i) : ∀ i, i < (l.drop (k + 1)).length → Sat3 w b off2 (l.drop (k + 1)) i := by
  intro i hi
  rw [List.length_drop] at hi
  rcases hoff with h0 | rfl
  · omega
  · exact (h (k + 1 + i) (by omega)).drop

end Go.Proofs.Ytaangjidkkpogaa
