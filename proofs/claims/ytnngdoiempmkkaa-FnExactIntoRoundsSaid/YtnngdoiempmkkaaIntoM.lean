/- The calls, put into rounds one after the other: what the model and the program reckon. -/
import Derived.Test.YtnngdoiempmkkaaPut2
import Derived.Test.YtnngdoiempmkkaaPair
import Derived.Test.YtnngdoiempmkkaaCGood
import Derived.Test.YtnngdoiempmkkaaDblS
namespace Go.Proofs.Ytnngdoiempmkkaa
open Go.ChangeShapes Go.WideShapes Go.ChangeAt Go.RowKit
set_option linter.unusedVariables false


/-- Where each friend is free from on, and the rounds so far. -/
abbrev RSt := (Nat → Nat) × List (List (Int × Int))
def updN (s : Nat → Nat) (i v : Nat) : Nat → Nat := fun j => if j = i then v else s j
def plc (s : RSt) (c : Int × Int) : Nat := max (s.1 c.1.toNat) (s.1 c.2.toNat)
def pad (U : List (List (Int × Int))) (k : Nat) : List (List (Int × Int)) := if k = U.length then U ++ [[]] else U
def put1 (U : List (List (Int × Int))) (k : Nat) (c : Int × Int) : List (List (Int × Int)) := (pad U k).set k (crow (pad U k) k ++ [c])
def stR (s : RSt) (c : Int × Int) : RSt := (updN (updN s.1 c.1.toNat (plc s c + 1)) c.2.toNat (plc s c + 1), put1 s.2 (plc s c) c)
/-- The calls, put into rounds one after the other. -/
def inR (l : List (Int × Int)) : RSt := l.foldl stR (fun _ => 0, [])
theorem inR_succ (l : List (Int × Int)) (k : Nat) (h : k < l.length) : inR (l.take (k + 1)) = stR (inR (l.take k)) (ca l k, cb l k) := by
  rw [List.take_succ_eq_append_getElem h, ca_cb l k h]
  simp [inR, List.foldl_append]
/-- The place of the k-th call. -/
def pl (l : List (Int × Int)) (k : Nat) : Nat := plc (inR (l.take k)) (ca l k, cb l k)
def okTo (l : List (Int × Int)) (k : Nat) : Prop := ∀ i, i < k → pl l i < 20
def okR (l : List (Int × Int)) : Bool := (List.range l.length).all fun i => decide (pl l i < 20)
theorem okR_iff (l : List (Int × Int)) : okR l = true ↔ okTo l l.length := by simp [okR, okTo]
theorem okR_not {l : List (Int × Int)} {k : Nat} (h : k < l.length) (h2 : ¬ pl l k < 20) : okR l = false := by
  rw [Bool.eq_false_iff]
  intro e
  exact h2 ((okR_iff l).1 e k h)
theorem pad_length {U : List (List (Int × Int))} {k : Nat} (h : k ≤ U.length) : k < (pad U k).length := by
  unfold pad; split
  · simp; omega
  · omega
theorem pad_le (U : List (List (Int × Int))) (k : Nat) : U.length ≤ (pad U k).length := by
  unfold pad; split <;> simp
theorem pad_most {U : List (List (Int × Int))} {k : Nat} (h : k ≤ U.length) : (pad U k).length ≤ max U.length (k + 1) := by
  unfold pad; split
  · simp; omega
  · omega
theorem crow_pad (U : List (List (Int × Int))) (k i : Nat) : crow (pad U k) i = crow U i := by
  unfold pad crow; split
  · simp only [List.getD_eq_getElem?_getD]
    by_cases h : i < U.length
    · rw [List.getElem?_append_left h]
    · rw [List.getElem?_append_right (by omega), List.getElem?_eq_none (by omega : U.length ≤ i)]
      by_cases h2 : i - U.length = 0
      · simp [h2]
      · rw [List.getElem?_eq_none (by simp; omega)]
  · rfl
theorem put1_length (U : List (List (Int × Int))) (k : Nat) (c : Int × Int) : (put1 U k c).length = (pad U k).length := by simp [put1]
theorem crow_put1 (U : List (List (Int × Int))) (k i : Nat) (c : Int × Int) (h : k ≤ U.length) : (crow (put1 U k c) i).length ≤ (crow U i).length + 1 := by
  unfold put1
  by_cases hik : i = k
  · subst hik
    have e : crow ((pad U i).set i (crow (pad U i) i ++ [c])) i = crow (pad U i) i ++ [c] := by
      simp [crow, List.getD_eq_getElem?_getD, List.getElem?_set_self (pad_length h)]
    rw [e, crow_pad]; simp
  · have e : crow ((pad U k).set k (crow (pad U k) k ++ [c])) i = crow (pad U k) i := by
      simp [crow, List.getD_eq_getElem?_getD, List.getElem?_set_ne (Ne.symm hik)]
    rw [e, crow_pad]; omega
/-- What always holds: nobody is free later than behind the last round, and no round has more calls than were told. -/
structure RInv (s : RSt) (m : Nat) : Prop where
  fr : ∀ i, s.1 i ≤ s.2.length
  rows : ∀ i, (crow s.2 i).length ≤ m
theorem RInv.place {s : RSt} {m : Nat} (h : RInv s m) (c : Int × Int) : plc s c ≤ s.2.length := by
  have h1 := h.fr c.1.toNat
  have h2 := h.fr c.2.toNat
  unfold plc; omega
theorem RInv.step {s : RSt} {m : Nat} (h : RInv s m) (c : Int × Int) : RInv (stR s c) (m + 1) := by
  have hp := h.place c
  refine ⟨fun i => ?_, fun i => ?_⟩
  · show updN (updN s.1 c.1.toNat (plc s c + 1)) c.2.toNat (plc s c + 1) i ≤ (put1 s.2 (plc s c) c).length
    rw [put1_length]
    have h1 := pad_length hp
    have h2 := pad_le s.2 (plc s c)
    have h3 := h.fr i
    unfold updN
    split
    · omega
    · split <;> omega
  · have h1 := crow_put1 s.2 (plc s c) i c hp
    have h2 := h.rows i
    show (crow (put1 s.2 (plc s c) c) i).length ≤ m + 1
    omega
theorem rinv (l : List (Int × Int)) : ∀ k, k ≤ l.length → RInv (inR (l.take k)) k
  | 0, _ => ⟨fun i => by simp [inR], fun i => by simp [inR, crow]⟩
  | k + 1, h => by
    rw [inR_succ l k (by omega)]
    exact (rinv l k (by omega)).step _
theorem len20 (l : List (Int × Int)) : ∀ k, k ≤ l.length → okTo l k → (inR (l.take k)).2.length ≤ 20
  | 0, _, _ => by simp [inR]
  | k + 1, h, hk => by
    rw [inR_succ l k (by omega)]
    have h1 := len20 l k (by omega) (fun i hi => hk i (by omega))
    have h2 := hk k (by omega)
    have h3 := pad_most ((rinv l k (by omega)).place (ca l k, cb l k))
    show (put1 _ _ _).length ≤ 20
    rw [put1_length]
    have : pl l k = plc (inR (l.take k)) (ca l k, cb l k) := rfl
    omega
theorem pl_le (l : List (Int × Int)) (k : Nat) (h : k < l.length) : pl l k ≤ (inR (l.take k)).2.length := (rinv l k (by omega)).place _
theorem map_pad (U : List (List (Int × Int))) (k : Nat) : (pad U k).map srt = if k = U.length then U.map srt ++ [[]] else U.map srt := by
  unfold pad; split
  · simp [srt_nil]
  · rfl
theorem map_put1 (U : List (List (Int × Int))) (k : Nat) (c : Int × Int) : (put1 U k c).map srt = ((pad U k).map srt).set k (putL (srt (crow (pad U k) k)) c) := by
  rw [srt_put]; unfold put1; rw [List.map_set]
theorem crow_map (U : List (List (Int × Int))) (k : Nat) : crow (U.map srt) k = srt (crow U k) := by
  unfold crow
  rw [List.getD_eq_getElem?_getD, List.getD_eq_getElem?_getD, List.getElem?_map]
  cases U[k]? <;> simp [srt_nil]
/-- The answer. -/
def intoB (f : Int) (l : List (Int × Int)) : Bool := gdB f l && okR l
def intoL (f : Int) (l : List (Int × Int)) : List (List (Int × Int)) := if intoB f l then (inR l).2.map srt else []

/-- So many numbers, in cells. -/
def fl (F : Nat) (s : Nat → Nat) : List Value := (List.range F).map fun i => .int .i64 (s i)
theorem fl_length (F : Nat) (s : Nat → Nat) : (fl F s).length = F := by simp [fl]
theorem fl_get (F : Nat) (s : Nat → Nat) (i : Nat) (h : i < F) : (fl F s)[i]? = some (.int .i64 (s i)) := by simp [fl, h]
theorem fl_set (F : Nat) (s : Nat → Nat) (i v : Nat) : (fl F s).set i (.int .i64 v) = fl F (updN s i v) := by
  apply List.ext_getElem?
  intro j
  by_cases hj : j < F
  · rw [fl_get F _ j hj]
    by_cases hij : i = j
    · subst hij; rw [List.getElem?_set_self (by rw [fl_length]; exact hj)]; simp [updN]
    · rw [List.getElem?_set_ne hij, fl_get F s j hj]; simp [updN, Ne.symm hij]
  · rw [List.getElem?_eq_none (by rw [List.length_set, fl_length]; omega), List.getElem?_eq_none (by rw [fl_length]; omega)]

end Go.Proofs.Ytnngdoiempmkkaa
