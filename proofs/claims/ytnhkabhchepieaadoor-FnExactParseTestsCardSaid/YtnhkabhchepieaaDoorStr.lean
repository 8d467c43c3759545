/- Texts with signs between them. -/
import Derived.Test.YtnhkabhchepieaaDoorNumT
import Derived.Test.YtnhkabhchepieaaDoorShelf
import Derived.Test.YtnhkabhchepieaaDoorInts
import Derived.Test.YtnhkabhchepieaaDoorRows2
import Derived.Lib.Join
import Derived.Laws.OwnMore
namespace Go.Proofs.YtnhkabhchepieaaDoor
open Go.ChangeShapes Go.WideShapes Go.ChangeAt Go.RowKit
set_option linter.unusedVariables false


/-- Pieces with a sign between them. -/
def jn (sep : UInt8) (P : List (List UInt8)) : Nat → List UInt8
  | 0 => []
  | k + 1 => (if k = 0 then jn sep P k else jn sep P k ++ [sep]) ++ P.getD k []
theorem jn_join (sep : UInt8) (P : List (List UInt8)) : ∀ k, k ≤ P.length → jn sep P k = Lib.join (P.take k) [sep]
  | 0, _ => by simp [jn, Lib.join_nil]
  | k + 1, h => by
    have ih := jn_join sep P k (by omega)
    have hk : P.take (k + 1) = P.take k ++ [P.getD k []] := by rw [List.take_succ_eq_append_getElem (by omega), List.getD_eq_getElem?_getD, List.getElem?_eq_getElem (by omega)]; rfl
    rw [hk]
    by_cases h0 : k = 0
    · subst h0
      simp [jn, Lib.join_one]
    · have hne : P.take k ≠ [] := by
        intro e
        have := congrArg List.length e
        rw [List.length_take, List.length_nil] at this
        omega
      obtain ⟨x, r, hx⟩ : ∃ x r, P.take k = x :: r := by
        cases hh : P.take k with
        | nil => exact absurd hh hne
        | cons x r => exact ⟨x, r, rfl⟩
      rw [hx] at ih ⊢
      rw [jn, if_neg h0, ih, List.cons_append, Lib.join_cons, Lib.join_cons]
      simp [Lib.joinTail]
theorem jn_all (sep : UInt8) (P : List (List UInt8)) : jn sep P P.length = Lib.join P [sep] := by rw [jn_join sep P _ (Nat.le_refl _), List.take_length]
theorem getD_le {P : List (List UInt8)} {B : Nat} (h : ∀ p, p ∈ P → p.length ≤ B) (k : Nat) : (P.getD k []).length ≤ B := by
  rw [List.getD_eq_getElem?_getD]
  cases hk : P[k]? with
  | none => simp
  | some p => exact h p (List.mem_of_getElem? hk)
theorem jn_le (sep : UInt8) {P : List (List UInt8)} {B : Nat} (h : ∀ p, p ∈ P → p.length ≤ B) : ∀ k, (jn sep P k).length ≤ (B + 1) * k
  | 0 => by simp [jn]
  | k + 1 => by
    have ih := jn_le sep h k
    have h2 := getD_le h k
    have e : (B + 1) * (k + 1) = (B + 1) * k + (B + 1) := Nat.mul_succ _ _
    unfold jn
    split <;> simp only [List.length_append, List.length_singleton] <;> omega

theorem info9 : (Tryd.prog.info? 9).map (fun i => (i.zero, i.size, i.bytes)) = some (some (.string ⟨#[]⟩), 1, 16) := by kernel_rfl
/-- The first texts; the rest is empty. -/
def stp (P : List (List UInt8)) (k : Nat) : List Value := ((P.take k).map fun p => Value.string ⟨p.toArray⟩) ++ List.replicate (P.length - k) (.string ⟨#[]⟩)
theorem stp_zero (P : List (List UInt8)) : stp P 0 = List.replicate P.length (.string ⟨#[]⟩) := by simp [stp]
theorem stp_all (P : List (List UInt8)) : stp P P.length = P.map fun p => Value.string ⟨p.toArray⟩ := by simp [stp]
theorem stp_set (P : List (List UInt8)) (k : Nat) (h : k < P.length) : (stp P k).set k (.string ⟨(P.getD k []).toArray⟩) = stp P (k + 1) := by
  unfold stp
  rw [List.set_append_right _ _ (by simp; omega)]
  have e1 : ((P.take k).map fun p => Value.string ⟨p.toArray⟩).length = k := by simp; omega
  have e2 : P.getD k [] = P[k] := by rw [List.getD_eq_getElem?_getD, List.getElem?_eq_getElem h]; rfl
  rw [e1, e2, Nat.sub_self, show P.length - k = (P.length - (k + 1)) + 1 by omega, List.replicate_succ, List.set_cons_zero, List.take_succ_eq_append_getElem h, List.map_append]
  simp
theorem zero_strings (n : Nat) : (madeCells #[.string ⟨#[]⟩] n).toList = List.replicate n (.string ⟨#[]⟩) := by rw [toList_madeCells_one]

theorem itoa_nt (x : Int) (w : World) (h0 : 0 ≤ x) (h1 : x < 100) : Calls Tryd.prog 52 #[.int .i64 x] w fun e w' => e = .returned (.string ⟨(nt x).toArray⟩) ∧ w' = w := by
  have h := itoa_small x.toNat (by omega) w
  rw [nt_dec x h0 h1, Int.toNat_of_nonneg h0] at h
  exact h
theorem join_row (w : World) (base g n : Nat) (P : List (List UInt8)) (sep : UInt8) (hn : n = P.length) (hn2 : n ≤ 1000) (ho : w.ownsRow base 9 1 (.slice (some ⟨g, 0, none⟩) n n) n (stp P n)) (hl : (Lib.join P [sep]).length ≤ 100000) :
    Calls Tryd.prog 35 #[.slice (some ⟨g, 0, none⟩) n n, .string ⟨#[sep]⟩] w fun e w' => e = .returned (.string ⟨(Lib.join P [sep]).toArray⟩) ∧ Below w.heap.size w w' := by
  subst hn
  have hm : (P.map fun p => (⟨p.toArray⟩ : ByteArray)).map (·.data.toList) = P := by
    rw [List.map_map]
    have : ((fun s : ByteArray => s.data.toList) ∘ fun p : List UInt8 => (⟨p.toArray⟩ : ByteArray)) = id := by funext p; rfl
    rw [this, List.map_id]
  have hml : (P.map fun p => (⟨p.toArray⟩ : ByteArray)).length = P.length := by simp
  rw [stp_all] at ho
  have hcells : ∀ (j : Nat) x, (P.map fun p => (⟨p.toArray⟩ : ByteArray))[j]? = some x → w.cell? ⟨g, 0 + j, none⟩ = some (.string x) := fun j x hx => by
    have hx2 : (P.map fun p => Value.string ⟨p.toArray⟩)[j]? = some (.string x) := by
      simp only [List.getElem?_map, Option.map_eq_some_iff] at hx ⊢
      obtain ⟨p, h1, h2⟩ := hx
      exact ⟨p, h1, by rw [h2]⟩
    have hj : j < (P.map fun p => Value.string ⟨p.toArray⟩).length := (List.getElem?_eq_some_iff.1 hx2).1
    have h3 := ho.cellAt j (by simpa using hj)
    rw [hx2] at h3
    rw [Nat.zero_add]
    exact h3
  have hJ := join_any g 0 P.length (P.map fun p => (⟨p.toArray⟩ : ByteArray)) ⟨#[sep]⟩ w hcells (ho.lt g rfl).2 (by rw [hml]; omega) (by rw [hml]; exact Nat.le_refl _) (by rw [hm]; show (Lib.join P [sep]).length ≤ _; omega)
  rw [hml, hm] at hJ
  exact hJ

end Go.Proofs.YtnhkabhchepieaaDoor
