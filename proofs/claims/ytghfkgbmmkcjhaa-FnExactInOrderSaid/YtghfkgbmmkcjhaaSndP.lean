/- One send more. -/
import Derived.Test.YtghfkgbmmkcjhaaSnd
import Derived.Test.YtghfkgbmmkcjhaaUp
namespace Go.Proofs.Ytghfkgbmmkcjhaa
open Go.ChangeShapes Go.WideShapes Go.ChangeAt Go.RowKit
set_option linter.unusedVariables false


theorem ss_append_one (l : List Snd) (x : Snd) : ss (l ++ [x]) = ss l ++ [.int .i64 x.1, .int .i64 x.2.1, .int .i64 x.2.2] := by simp [ss]
/-- One send more. -/
theorem push_send {P : Program} (w : World) {ops : Array Oper} {rest : List Oper} {o : Oper} {a : Act} {Q : Exit → Act → World → Prop} (hgd : o.guard = none) (s x : Operand) (t : TypeId)
    (ho : o.op = .call { callee := .builtin .append, args := #[s, x], argTypes := #[t, t] })
    (base : Nat) (e : TypeId) (i : TypeInfo) (ht : P.underlying t = some (.slice e)) (hi : P.info? e = some i) (hz : i.zero = some (.agg #[.int .i64 0, .int .i64 0, .int .i64 0]))
    (hsize : i.size = 3) (hby : i.bytes = 24)
    (v : Value) (l : List Snd) (k : Nat) (hs : a.eval s = v) (hown : w.ownsRow base e 3 v k (ss l)) (hsml : k ≤ 1000000)
    (r : Snd) (c : Nat) (ad : Nat) (hx : a.eval x = .slice (some ⟨ad, 0, none⟩) 1 c) (had : w.heap[ad]? = some (.cells #[.int .i64 r.1, .int .i64 r.2.1, .int .i64 r.2.2] e (0, 0))) (hbase : base ≤ w.heap.size)
    (h : ∀ g cap w', w'.ownsRow base e 3 (.slice (some ⟨g, 0, none⟩) (k + 1) cap) (k + 1) (ss (l ++ [r])) → w.grownBy w' v.ownBlock → (v.ownBlock = some g ∨ g = w.heap.size) → wpList P ops Q rest (a.put o.dst (.slice (some ⟨g, 0, none⟩) (k + 1) cap)) w') : wpList P ops Q (o :: rest) a w := by
  refine wpList_append_lies w hgd s x t ho base e i (.agg #[.int .i64 0, .int .i64 0, .int .i64 0]) 3 24 ht hi hz hsize hby rfl (by decide) v k (ss l) hs hown ⟨ad, 0, none⟩ 1 c [.int .i64 r.1, .int .i64 r.2.1, .int .i64 r.2.2] hx rfl ?_ ?_ (by omega) (by unfold maxLen; omega) (by omega) hbase w.heap.size rfl ?_
  · intro j u hu
    exact World.news_of_block had j u (by simpa using hu)
  · intro u hu
    simp at hu
    rcases hu with rfl | rfl | rfl <;> rfl
  · intro g cap w' hown' hgr hat _
    exact h g cap w' (by rw [ss_append_one]; exact hown') hgr hat

end Go.Proofs.Ytghfkgbmmkcjhaa
