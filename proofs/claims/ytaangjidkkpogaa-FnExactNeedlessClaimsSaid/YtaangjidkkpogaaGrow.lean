/- Texts appended. -/
import Derived.Test.YtaangjidkkpogaaFit
namespace Go.Proofs.Ytaangjidkkpogaa
open Go.ChangeShapes Go.WideShapes Go.ChangeAt Go.RowKit
set_option linter.unusedVariables false


theorem infoCT : (Try.prog.info? 60).map (fun i => (i.zero, i.size, i.bytes)) = some (some (.string ⟨#[]⟩), 1, 16) := by kernel_rfl
theorem info9 : (Try.prog.info? 9).map (fun i => (i.zero, i.size, i.bytes)) = some (some (.string ⟨#[]⟩), 1, 16) := by kernel_rfl
/-- Texts appended. -/
theorem push_strs {P : Program} (w : World) {ops : Array Oper} {rest : List Oper} {o : Oper} {a : Act} {Q : Exit → Act → World → Prop} (hgd : o.guard = none) (s x : Operand) (t e : TypeId)
    (ho : o.op = .call { callee := .builtin .append, args := #[s, x], argTypes := #[t, t] })
    (base : Nat) (i : TypeInfo) (ht : P.underlying t = some (.slice e)) (hi : P.info? e = some i) (hz : i.zero = some (.string ⟨#[]⟩))
    (hsize : i.size = 1) (hby : i.bytes = 16)
    (v : Value) (l : List ByteArray) (k : Nat) (hs : a.eval s = v) (hown : w.ownsRow base e 1 v k (ts l)) (hsml : k ≤ 1000000)
    (r : List ByteArray) (m : Nat) (hm : r.length = m) (hm0 : 0 < m) (hm2 : m ≤ 1000) (c : Nat) (ad : Nat) (hx : a.eval x = .slice (some ⟨ad, 0, none⟩) m c) (had : ∀ j, j < m → w.cell? ⟨ad, j, none⟩ = some (.string (ta r j))) (hbase : base ≤ w.heap.size)
    (h : ∀ g cap w', w'.ownsRow base e 1 (.slice (some ⟨g, 0, none⟩) (k + m) cap) (k + m) (ts (l ++ r)) → w.grownBy w' v.ownBlock → (v.ownBlock = some g ∨ g = w.heap.size) → wpList P ops Q rest (a.put o.dst (.slice (some ⟨g, 0, none⟩) (k + m) cap)) w') : wpList P ops Q (o :: rest) a w := by
  refine wpList_append_lies w hgd s x t ho base e i (.string ⟨#[]⟩) 1 16 ht hi hz hsize hby rfl (by decide) v k (ts l) hs hown ⟨ad, 0, none⟩ m c (ts r) hx (by rw [ts_length]; omega) ?_ (ts_one r) hm0 (by unfold maxLen; omega) (by omega) hbase w.heap.size rfl ?_
  · intro j u hu
    by_cases hj : j < m
    · rw [ts_get r j (by omega)] at hu
      simp only [Option.some.injEq] at hu
      subst hu
      have := had j hj
      rw [show (⟨ad, 0, none⟩ : Addr).add j = ⟨ad, j, none⟩ from by unfold Addr.add; split <;> simp_all]
      exact this
    · rw [List.getElem?_eq_none (by rw [ts_length]; omega)] at hu
      cases hu
  · intro g cap w' hown' hgr hat _
    exact h g cap w' (by rw [ts_append]; exact hown') hgr hat
theorem own_base {w : World} {base base' : Nat} {e : TypeId} {size : Nat} {v : Value} {n : Nat} {xs : List Value} (h : w.ownsRow base e size v n xs) (hb : base' ≤ base) : w.ownsRow base' e size v n xs := by
  refine ⟨h.1, ?_⟩
  rcases h.2 with h2 | ⟨g, cap, cur, h1, h3, h4⟩
  · exact .inl h2
  · exact .inr ⟨g, cap, cur, h1, Nat.le_trans hb h3, h4⟩
def dbl (L : List (List Bool)) : List (List Bool) := L.flatMap fun c => [c ++ [true], c ++ [false]]
theorem dbl_take (L : List (List Bool)) (k : Nat) (h : k < L.length) : dbl (L.take (k + 1)) = dbl (L.take k) ++ [L[k] ++ [true], L[k] ++ [false]] := by
  unfold dbl
  rw [List.take_succ_eq_append_getElem h, List.flatMap_append]
  rfl
theorem dbl_len (L : List (List Bool)) : (dbl L).length = 2 * L.length := by
  induction L with
  | nil => rfl
  | cons a L ih => unfold dbl at ih ⊢; rw [List.flatMap_cons, List.length_append, ih]; simp; omega

end Go.Proofs.Ytaangjidkkpogaa
