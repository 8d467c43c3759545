/- Up to how many broken wires tests tell: the pure part. -/
import Derived.Test.YtoigafjocckepaaLv
import Derived.Test.YtoigafjocckepaaRs1
import Derived.Test.YtoigafjocckepaaLi
import Derived.Lib.Tables
import Derived.Maps.Own
import Derived.Maps.OwnOps
import Derived.Maps.OwnSet
import Derived.Maps.Ext
import Derived.Maps.Keyed
import Derived.DeepKeys4
import Derived.StringKeys
namespace Go.Proofs.Ytoigafjocckepaa
open Go.ChangeShapes Go.WideShapes Go.ChangeAt Go.RowKit Go.Maps
set_option linter.unusedVariables false


/-- How many wires are in a list. -/
def pc (n : Nat) : Nat := ((List.range 10).filter fun i => n.testBit i).length

theorem fold2 : (⟨(List.append (List.append ([0, 1, 1, 2, 1, 2, 2, 3, 1, 2, 2, 3, 2, 3, 3, 4, 1, 2, 2, 3, 2, 3, 3, 4, 2, 3, 3, 4, 3, 4, 4, 5, 1, 2, 2, 3, 2, 3, 3, 4, 2, 3, 3, 4, 3, 4, 4, 5, 2, 3, 3, 4, 3, 4, 4, 5, 3, 4, 4, 5, 4, 5, 5, 6] : List UInt8) [1, 2, 2, 3, 2, 3, 3, 4, 2, 3, 3, 4, 3, 4, 4, 5, 2, 3, 3, 4, 3, 4, 4, 5, 3, 4, 4, 5, 4, 5, 5, 6, 2, 3, 3, 4, 3, 4, 4, 5, 3, 4, 4, 5, 4, 5, 5, 6, 3, 4, 4, 5, 4, 5, 5, 6, 4, 5, 5, 6, 5, 6, 6, 7]) (List.append [1, 2, 2, 3, 2, 3, 3, 4, 2, 3, 3, 4, 3, 4, 4, 5, 2, 3, 3, 4, 3, 4, 4, 5, 3, 4, 4, 5, 4, 5, 5, 6, 2, 3, 3, 4, 3, 4, 4, 5, 3, 4, 4, 5, 4, 5, 5, 6, 3, 4, 4, 5, 4, 5, 5, 6, 4, 5, 5, 6, 5, 6, 6, 7] [2, 3, 3, 4, 3, 4, 4, 5, 3, 4, 4, 5, 4, 5, 5, 6, 3, 4, 4, 5, 4, 5, 5, 6, 4, 5, 5, 6, 5, 6, 6, 7, 3, 4, 4, 5, 4, 5, 5, 6, 4, 5, 5, 6, 5, 6, 6, 7, 4, 5, 5, 6, 5, 6, 6, 7, 5, 6, 6, 7, 6, 7, 7, 8])).toArray⟩ : ByteArray) = Lib.pop8tab := by kernel_rfl

theorem pc_tab : ∀ n : Fin 1024, (Lib.pop8 ((n.val / 256 : Nat) : Int) + Lib.pop8 ((n.val &&& 255 : Nat) : Int)) = (pc n.val : Int) ∧ 0 ≤ Lib.pop8 ((n.val / 256 : Nat) : Int) ∧ 0 ≤ Lib.pop8 ((n.val &&& 255 : Nat) : Int) ∧ pc n.val ≤ 10 := by decide +kernel
theorem pc_le {n : Nat} (h : n < 1024) : pc n ≤ 10 := (pc_tab ⟨n, h⟩).2.2.2
theorem pc_more : ∀ n : Fin 1024, ∀ x : Fin 10, e16 n.val ≤ x.val → pc (n.val ||| 2 ^ x.val) = pc n.val + 1 := by decide +kernel

theorem bits_and_nat (x y : Nat) (hx : x < 1024) (hy : y < 1024) : bits BinOp.and IntKind.u16 x y = ((x &&& y : Nat) : Int) := by
  have hx2 : x &&& y < 2 ^ 10 := Nat.and_lt_two_pow (n := 10) _ hy
  have h1 : (BitVec.ofInt 16 (x : Int)).toNat = x := by
    rw [BitVec.ofInt_natCast, BitVec.toNat_ofNat]; exact Nat.mod_eq_of_lt (by omega)
  have h2 : (BitVec.ofInt 16 (y : Int)).toNat = y := by
    rw [BitVec.ofInt_natCast, BitVec.toNat_ofNat]; exact Nat.mod_eq_of_lt (by omega)
  show IntKind.u16.wrap ((BitVec.ofInt 16 (x : Int) &&& BitVec.ofInt 16 (y : Int)).toNat : Int) = _
  rw [BitVec.toNat_and, h1, h2, IntKind.wrap_u16]
  omega
theorem belowN {B : Nat} {w w' : World} (h : Below B w w') (n : Nat) : Below B w (w'.drewN n) := ⟨h.os, h.tape, h.output, h.size, h.block⟩

set_option maxRecDepth 100000 in
theorem OnesCount16_any (x : Nat) (w : World) (hx : x < 1024) :
    Calls Try.prog 74 #[.int .u16 x] w fun e w' => e = .returned (.int .i64 (pc x)) ∧ Below w.heap.size w w' := by
  have hp := pc_tab ⟨x, hx⟩
  have e1 : bits BinOp.and IntKind.u16 (x : Int) 255 = ((x &&& 255 : Nat) : Int) := bits_and_nat x 255 hx (by decide)
  have e2 : ((x / 256 : Nat) : Int) = (x : Int) / 256 := by omega
  have a0 : (0 : Int) ≤ (x : Int) / 256 := by omega
  have a1 : (x : Int) / 256 ≤ 255 := by omega
  have hn : x &&& 255 ≤ 255 := Nat.and_le_right
  have b0 : 0 ≤ bits BinOp.and IntKind.u16 (x : Int) 255 := by rw [e1]; omega
  have b1 : bits BinOp.and IntKind.u16 (x : Int) 255 ≤ 255 := by rw [e1]; omega
  simp only [e2] at hp
  have c0 : 0 ≤ Lib.pop8 ((x : Int) / 256) := hp.2.1
  have c1 : 0 ≤ Lib.pop8 (bits BinOp.and IntKind.u16 (x : Int) 255) := by rw [e1]; exact hp.2.2.1
  have HS : Hid (Lib.pop8 ((x : Int) / 256) + Lib.pop8 (bits BinOp.and IntKind.u16 (x : Int) 255) = (pc x : Int)) := by show _ = _; rw [e1]; exact hp.1
  have c2 : Lib.pop8 ((x : Int) / 256) + Lib.pop8 (bits BinOp.and IntKind.u16 (x : Int) 255) ≤ 10 := by rw [HS.out]; have := hp.2.2.2; omega
  clear hp e1 e2 hn
  go_enter Try.func74, Try.ntmps74
  go_wp2_with fail
  simp only [fold2]
  go_quiet (fail)
  go_wp2_with fail

  go_ret
  exact ⟨ret_int HS.out, belowN (Below.refl _ _) _⟩

theorem count_any (n : Nat) (hn : n < 1024) (w : World) :
    Calls Try.prog 63 #[wv n] w fun e w' => e = .returned (.int .i64 ((pc n : Nat) : Int)) ∧ Below w.heap.size w w' := by
  go_enter Try.func63, Try.ntmps63
  go_wp2_with fail
  refine (OnesCount16_any n _ hn).mono ?_
  rintro e w2 ⟨rfl, hb2⟩
  have Hb := Lib.hid (((Below.refl w.heap.size w).alloc (Nat.le_refl _) (.cells #[.int .u16 (n : Int)] 52)).trans (hb2.mono (by simp)))
  clear hb2
  go_wp2_with fail
  go_ret
  exact ⟨rfl, Hb.out⟩

/-- Up to how many broken wires are told: the first list with results seen has one too many. -/
def gtW (M : List Nat) (n : Nat) (d : Int) : List (List UInt8) → List Nat → Int
  | _, [] => d
  | S, x :: r => if (rtx M x n).data.toList ∈ S then (pc x : Int) - 1 else gtW M n d (S ++ [(rtx M x n).data.toList]) r
/-- No two lists have the same results. -/
def tlW (M : List Nat) (n : Nat) : List (List UInt8) → List Nat → Bool
  | _, [] => true
  | S, x :: r => if (rtx M x n).data.toList ∈ S then false else tlW M n (S ++ [(rtx M x n).data.toList]) r
theorem gt_tail (M : List Nat) (n : Nat) (d : Int) (m : Nat) (hd : (m : Int) ≤ d) : ∀ (A : List Nat), (∀ x, x ∈ A → m < pc x) → ∀ S, (m : Int) ≤ gtW M n d S A
  | [], _, _ => hd
  | x :: r, h, S => by
    unfold gtW
    split
    · have := h x (by simp); omega
    · exact gt_tail M n d m hd r (fun y hy => h y (by simp [hy])) _
theorem gt_tl (M : List Nat) (n : Nat) (d : Int) (m : Nat) (hd : (m : Int) ≤ d) (B : List Nat) (hB : ∀ x, x ∈ B → m < pc x) : ∀ (A : List Nat), (∀ x, x ∈ A → pc x ≤ m) → ∀ S, decide ((m : Int) ≤ gtW M n d S (A ++ B)) = tlW M n S A
  | [], _, S => by
    simp only [List.nil_append, tlW, decide_eq_true_eq]
    exact gt_tail M n d m hd B hB S
  | x :: r, h, S => by
    rw [List.cons_append]
    unfold gtW tlW
    by_cases hin : (rtx M x n).data.toList ∈ S
    · rw [if_pos hin, if_pos hin]
      have := h x (by simp)
      simp; omega
    · rw [if_neg hin, if_neg hin]
      exact gt_tl M n d m hd B hB r (fun y hy => h y (by simp [hy])) _
theorem lm_pc {f : Nat} (hf : f ≤ 10) : ∀ j, ∀ x, x ∈ lm f j → pc x = j
  | 0 => fun x hx => by
    simp only [lm, List.mem_singleton] at hx
    subst hx; decide +kernel
  | j + 1 => fun x hx => by
    simp only [lm, List.mem_flatMap] at hx
    obtain ⟨y, hy, hx⟩ := hx
    have h1 := lm_pc hf j y hy
    have h2 := lm_lt hf j y hy
    simp only [lgr, List.mem_map, List.mem_range'_1] at hx
    obtain ⟨i, hi, rfl⟩ := hx
    have h3 := pc_more ⟨y, h2⟩ ⟨i, by omega⟩ hi.1
    simp only at h3
    rw [h3, h1]
theorem la_pc {f : Nat} (hf : f ≤ 10) : ∀ m, ∀ x, x ∈ la f m → pc x ≤ m
  | 0 => fun x hx => by
    simp only [la, List.mem_singleton] at hx
    subst hx; decide +kernel
  | m + 1 => fun x hx => by
    simp only [la, List.mem_append] at hx
    rcases hx with h | h
    · have := la_pc hf m x h; omega
    · have := lm_pc hf (m + 1) x h; omega
theorem la_more {f : Nat} (hf : f ≤ 10) (m : Nat) : ∀ j, ∃ B, la f (m + j) = la f m ++ B ∧ ∀ x, x ∈ B → m < pc x
  | 0 => ⟨[], by simp, by simp⟩
  | j + 1 => by
    obtain ⟨B, h1, h2⟩ := la_more hf m j
    refine ⟨B ++ lm f (m + j + 1), ?_, fun x hx => ?_⟩
    · show la f (m + j) ++ lm f (m + j + 1) = _
      rw [h1, List.append_assoc]
    · rw [List.mem_append] at hx
      rcases hx with h | h
      · exact h2 x h
      · have := lm_pc hf _ x h; omega
/-- Up to how many broken wires tests tell. -/
def gt (f : Nat) (L : List (List Int)) : Int := gtW (bws L) L.length f [] (la f f)
theorem gt_tells {f m : Nat} (hf : f ≤ 10) (hm : m ≤ f) (M : List Nat) (n : Nat) : decide ((m : Int) ≤ gtW M n f [] (la f f)) = tlW M n [] (la f m) := by
  obtain ⟨B, h1, h2⟩ := la_more hf m (f - m)
  rw [show m + (f - m) = f by omega] at h1
  rw [h1]
  exact gt_tl M n f m (by omega) B h2 (la f m) (la_pc hf m) []
theorem la_pos (f : Nat) : ∀ m, 0 < (la f m).length
  | 0 => by simp [la]
  | m + 1 => by have := la_pos f m; simp only [la, List.length_append]; omega

theorem map_later {w w' : World} {K : TypeId} {B k : Nat} {D : DataW Unit} (h : w.ownsMap Try.prog K (plainElem Try.prog 4) B k D) (hb : Below w.heap.size w w') (hB : B < w.heap.size) : w'.ownsMap Try.prog K (plainElem Try.prog 4) B k D := by
  obtain ⟨es, clock, hb2, F, hs, hD⟩ := h
  exact ⟨es, clock, (hb.block B hB).trans hb2, F, hs, hD⟩
theorem law_str : Keyed Try.prog 9 := string_keyed Try.underlying9
/-- These texts are the keys with true. -/
def SeenS (D : DataW Unit) (S : List (List UInt8)) : Prop :=
  Maps.IsMap D ∧ ∀ s : ByteArray, s.size ≤ maxLen → D.atKey (.string s.data.toList) (.lit (.bool false)) = .lit (.bool (decide (s.data.toList ∈ S)))
theorem SeenS.nil : SeenS (.map []) [] := ⟨⟨_, rfl⟩, fun s _ => by
  have h : Maps.has (.map [] : DataW Unit) (.string s.data.toList) = false := by generalize (Lit.string s.data.toList) = q; rfl
  rw [Maps.atKey_of_not_has h]; simp⟩
theorem SeenS.put {D : DataW Unit} {S : List (List UInt8)} (h : SeenS D S) {s : ByteArray} (hs : s.size ≤ maxLen) : SeenS (D.put (.string s.data.toList) (.lit (.bool true))) (S ++ [s.data.toList]) := by
  have hk : WideAt.IsKeyLit (.string s.data.toList) := law_str.key (WideMaps.keyOf_string_mk Try.underlying9 hs)
  refine ⟨h.1.put _ _, fun t ht => ?_⟩
  by_cases e : (Lit.string t.data.toList) = .string s.data.toList
  · rw [e, Maps.atKey_put_same h.1 hk]
    injection e with e
    rw [e]
    simp
  · rw [Maps.atKey_put_other e, h.2 t ht]
    have hne : ¬ t.data.toList = s.data.toList := fun h => e (by rw [h])
    simp only [List.mem_append, List.mem_singleton, hne, or_false]
theorem bool_inv {P : Program} {e : TypeId} (he : P.underlying e = some .bool) {v : Value} {z : DataW Unit × List MemPlace} (h : plainElem P e v = some z) : ∃ x, v = .bool x ∧ z = (.lit (.bool x), []) := by
  unfold plainElem at h
  rw [he] at h
  cases v <;> simp at h
  subst h
  exact ⟨_, rfl, rfl⟩
theorem look_str {w : World} {b n : Nat} {D : DataW Unit} {S : List (List UInt8)} (h : w.ownsMap Try.prog 9 (plainElem Try.prog 4) b n D) (hs : SeenS D S) {s : ByteArray} (hz : s.size ≤ maxLen) :
    (Instr.lookup 76 (.map (some b)) (.string s) false).run Try.prog w = .ok (.bool (decide (s.data.toList ∈ S))) w := by
  obtain ⟨v, ps, hrun, hv⟩ := World.ownsMap.lookup (z := .bool false) (zd := .lit (.bool false)) (zp := []) h law_str Try.underlying76 (Try.zeroValue4 w) (plainElem_bool Try.underlying4 false) (WideMaps.keyOf_string_mk Try.underlying9 hz)
  rw [hs.2 s hz] at hv
  obtain ⟨u, rfl, hu⟩ := bool_inv Try.underlying4 hv
  simp only [Prod.mk.injEq, DataW.lit.injEq, Lit.bool.injEq] at hu
  rw [hrun, hu.1]
theorem wpList_lookup_str (w : World) {ops : Array Oper} {rest : List Oper} {o : Oper} {a : Act} {Q : Exit → Act → World → Prop}
    (hg : o.guard = none) (m x : Operand) (hop : o.op = Op.lookup 76 m x false) (b n : Nat) (D : DataW Unit) (S : List (List UInt8)) (hm : a.eval m = .map (some b)) (h : w.ownsMap Try.prog 9 (plainElem Try.prog 4) b n D) (hs : SeenS D S) (s : ByteArray) (hx : a.eval x = .string s) (hz : s.size ≤ maxLen)
    (hK : wpList Try.prog ops Q rest (a.put o.dst (.bool (decide (s.data.toList ∈ S)))) w) : wpList Try.prog ops Q (o :: rest) a w := by
  refine wpList_plain hg fun K' hK' => ?_
  have hrun := look_str h hs hz
  unfold Oper.wp
  simp [execOp, hop, hm, hx, hrun, Result.andThen]
  exact hK' _ _ hK

end Go.Proofs.Ytoigafjocckepaa
