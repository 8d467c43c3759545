/- Results of tests: the pure part. -/
import Derived.Test.YtoigafjocckepaaBmW
import Derived.Laws.Cover4
namespace Go.Proofs.Ytoigafjocckepaa
open Go.ChangeShapes Go.WideShapes Go.ChangeAt Go.RowKit Go.WideShapes
set_option linter.unusedVariables false


/-- Lists of wires in memory. -/
def ws (M : List Nat) : List Value := M.map fun (n : Nat) => .int .u16 (n : Int)
def wa (M : List Nat) (i : Nat) : Nat := M.getD i 0
theorem ws_length (M : List Nat) : (ws M).length = M.length := by simp [ws]
theorem ws_get (M : List Nat) (i : Nat) (h : i < M.length) : (ws M)[i]? = some (.int .u16 ((wa M i : Nat) : Int)) := by
  simp [ws, wa, List.getD_eq_getElem?_getD, h]
theorem ws_append_one (M : List Nat) (x : Nat) : ws (M ++ [x]) = ws M ++ [.int .u16 (x : Int)] := by simp [ws]
theorem wa_get (M : List Nat) (i : Nat) (h : i < M.length) : M[i] = wa M i := by simp [wa, List.getD_eq_getElem?_getD, h]
/-- The slice at this address reads as these lists of wires. -/
def WLAt (w : World) (ao : Option Addr) (M : List Nat) : Prop :=
  M = [] ∨ ∃ b off, ao = some ⟨b, off, none⟩ ∧ ∀ i, i < M.length → w.cell? ⟨b, off + i, none⟩ = some (.int .u16 ((wa M i : Nat) : Int))
theorem WLAt.kept {w w' : World} {ao : Option Addr} {M : List Nat} (h : WLAt w ao M) (hb : Below w.heap.size w w') : WLAt w' ao M := by
  rcases h with h | ⟨b, off, h, hc⟩
  · exact .inl h
  · exact .inr ⟨b, off, h, fun i hi => cell_old hb (hc i hi)⟩
theorem wl_at {w : World} {base n : Nat} {v : Value} {M : List Nat} (h : w.ownsRow base 52 1 v n (ws M)) (hn : n = M.length) : ∃ ao cap, v = .slice ao n cap ∧ WLAt w ao M := by
  rcases h.2 with ⟨hv, h0⟩ | ⟨g, cap, cur, rfl, _, _, _⟩
  · exact ⟨none, 0, by rw [hv, h0], .inl (List.eq_nil_of_length_eq_zero (by omega))⟩
  · refine ⟨_, cap, rfl, .inr ⟨g, 0, rfl, fun i hi => ?_⟩⟩
    rw [Nat.zero_add, h.cellAt i (by omega), ws_get M i hi]

/-- The lists of tests as bits. -/
def bws (L : List (List Int)) : List Nat := L.map bw
theorem bws_length (L : List (List Int)) : (bws L).length = L.length := by simp [bws]
theorem bws_at (L : List (List Int)) (i : Nat) (h : i < L.length) : wa (bws L) i = bw (row L i) := by
  simp [wa, bws, row, List.getD_eq_getElem?_getD, h]
theorem bws_lt {f : Int} {L : List (List Int)} (h : wiB f L = true) (i : Nat) : wa (bws L) i < 1024 := by
  by_cases hi : i < L.length
  · rw [bws_at L i hi]; exact bw_lt (wi_parts h).1.2 (wi_row h hi).1
  · simp [wa, bws, List.getD_eq_getElem?_getD, hi]

/-- The results of the first k tests. -/
def rtx (M : List Nat) (b : Nat) : Nat → ByteArray
  | 0 => ⟨#[]⟩
  | k + 1 => rtx M b k ++ (if mtB (wa M k) b then ⟨#[49]⟩ else ⟨#[48]⟩)
theorem rtx_size (M : List Nat) (b : Nat) : ∀ k, (rtx M b k).size = k
  | 0 => rfl
  | k + 1 => by simp only [rtx, ByteArray.size_append, rtx_size M b k]; split <;> rfl
def rz (M : List Nat) (b : Nat) (k : Nat) : List Int := (List.range k).map fun i => if mtB (wa M i) b then 49 else 48
theorem rz_length (M : List Nat) (b k : Nat) : (rz M b k).length = k := by simp [rz]
theorem rz_succ (M : List Nat) (b k : Nat) : rz M b (k + 1) = rz M b k ++ [if mtB (wa M k) b then 49 else 48] := by simp [rz, List.range_succ]
theorem enc48 : Utf8.encode 48 = ⟨#[48]⟩ := by decide +kernel
theorem enc49 : Utf8.encode 49 = ⟨#[49]⟩ := by decide +kernel
theorem rz_bytes (M : List Nat) (b : Nat) : ∀ k, runesBytes (rz M b k) = rtx M b k
  | 0 => rfl
  | k + 1 => by
    rw [rz_succ, runesBytes, List.foldl_append]
    have := rz_bytes M b k
    unfold runesBytes at this
    rw [this]
    simp only [List.foldl_cons, List.foldl_nil, rtx]
    split
    · rw [enc49]
    · rw [enc48]
/-- Runes in memory. -/
def rs32 (l : List Int) : List Value := l.map fun x => .int .i32 x
/-- The runes while they are told. -/
def rzp (M : List Nat) (b n k : Nat) : List Int := rz M b k ++ List.replicate (n - k) 0
theorem rzp_length (M : List Nat) (b n k : Nat) (h : k ≤ n) : (rzp M b n k).length = n := by simp [rzp, rz_length]; omega
theorem rzp_set (M : List Nat) (b n k : Nat) (h : k < n) : (rzp M b n k).set k (if mtB (wa M k) b then 49 else 48) = rzp M b n (k + 1) := by
  unfold rzp
  rw [rz_succ, List.set_append_right _ _ (by rw [rz_length]; omega), rz_length, Nat.sub_self, show n - k = (n - (k + 1)) + 1 by omega, List.replicate_succ]
  simp
theorem rs32_set (l : List Int) (k : Nat) (x : Int) : (rs32 l).set k (.int .i32 x) = rs32 (l.set k x) := by simp [rs32, List.map_set]
theorem zero_runes (n : Nat) : (madeCells #[.int .i32 0] (n * 1)).toList = rs32 (List.replicate n 0) := by
  rw [Nat.mul_one, toList_madeCells_one]; simp [rs32]
theorem rs32_get (l : List Int) (i : Nat) (h : i < l.length) : (rs32 l)[i]? = some (.int .i32 (l.getD i 0)) := by
  simp [rs32, List.getD_eq_getElem?_getD, h]
theorem infoWL : (Try.prog.info? 52).map (fun i => (i.zero, i.size, i.bytes)) = some (some (.agg #[.int .u16 0]), 1, 2) := by kernel_rfl
theorem infoR : (Try.prog.info? 21).map (fun i => (i.zero, i.size, i.bytes)) = some (some (.int .i32 0), 1, 4) := by kernel_rfl

set_option maxRecDepth 100000 in
theorem eqWL (x y : Int) (w : World) : (Op.equalIn 10000 52 (.agg #[.int .u16 x]) (.agg #[.int .u16 y])).run Try.prog w = .ok (x == y) w := by
  have u3 := Try.underlying50
  have a3 := Try.isAgg50
  have z3 := Try.sizeOf50
  have hS : Try.prog.underlying 52 = some (.struct (Try.prog.fieldsOf 52)) := by kernel_rfl
  have hp : Try.prog.stoodInHeld 52 = false := by kernel_rfl
  rw [show (10000 : Nat) = 9999 + 1 from rfl, run_equalIn_agg w 9999 52 _ _ hS hp]
  simp only [Program.fieldsOf, Try.underlying52]
  go_simp
  by_cases h : x = y <;> simp [h]

/-- One list of wires more. -/
theorem push_wl {P : Program} (w : World) {ops : Array Oper} {rest : List Oper} {o : Oper} {a : Act} {Q : Exit → Act → World → Prop} (hgd : o.guard = none) (s x : Operand) (t : TypeId)
    (ho : o.op = .call { callee := .builtin .append, args := #[s, x], argTypes := #[t, t] })
    (base : Nat) (i : TypeInfo) (ht : P.underlying t = some (.slice 52)) (hi : P.info? 52 = some i) (hz : i.zero = some (.agg #[.int .u16 0]))
    (hsize : i.size = 1) (hby : i.bytes = 2)
    (v : Value) (l : List Nat) (k : Nat) (hs : a.eval s = v) (hown : w.ownsRow base 52 1 v k (ws l)) (hsml : k ≤ 1000000)
    (r : Nat) (c : Nat) (ad : Nat) (hx : a.eval x = .slice (some ⟨ad, 0, none⟩) 1 c) (had : w.cell? ⟨ad, 0, none⟩ = some (.int .u16 (r : Int))) (hbase : base ≤ w.heap.size)
    (h : ∀ g cap w', w'.ownsRow base 52 1 (.slice (some ⟨g, 0, none⟩) (k + 1) cap) (k + 1) (ws (l ++ [r])) → w.grownBy w' v.ownBlock → (v.ownBlock = some g ∨ g = w.heap.size) → wpList P ops Q rest (a.put o.dst (.slice (some ⟨g, 0, none⟩) (k + 1) cap)) w') : wpList P ops Q (o :: rest) a w := by
  refine wpList_append_lies w hgd s x t ho base 52 i (.agg #[.int .u16 0]) 1 2 ht hi hz hsize hby rfl (by decide) v k (ws l) hs hown ⟨ad, 0, none⟩ 1 c [.int .u16 (r : Int)] hx rfl ?_ ?_ (by omega) (by unfold maxLen; omega) (by omega) hbase w.heap.size rfl ?_
  · intro j u hu
    cases j with
    | zero => simp at hu; subst hu; exact had
    | succ j => simp at hu
  · intro u hu
    simp at hu
    subst hu
    rfl
  · intro g cap w' hown' hgr hat _
    exact h g cap w' (by rw [ws_append_one]; exact hown') hgr hat

end Go.Proofs.Ytoigafjocckepaa
