/- How many groupings there are: numbers. -/
import Derived.Test.YtoaobdeigangfaaGr
namespace Go.Proofs.Ytoaobdeigangfaa
open Go.ChangeShapes Go.WideShapes Go.ChangeAt Go.RowKit
set_option linter.unusedVariables false


theorem own_pos {w : World} {base n : Nat} {e : TypeId} {size : Nat} {v : Value} {xs : List Value} (h : w.ownsRow base e size v n xs) (h0 : 0 < n) : ∃ g cap, v = .slice (some ⟨g, 0, none⟩) n cap ∧ base ≤ g := by
  rcases h.2 with ⟨_, hh⟩ | ⟨g, cap, cur, rfl, hb, _⟩
  · omega
  · exact ⟨g, cap, rfl, hb⟩

theorem own_num {w : World} {base g n cap : Nat} {l : List Int} (h : w.ownsRow base 3 1 (.slice (some ⟨g, 0, none⟩) n cap) n (ns l)) (hn : n = l.length) (j : Nat) (hj : j < n) : w.cell? ⟨g, j, none⟩ = some (.int .i64 (na l j)) := by
  have h1 := h.cellAt j (by omega)
  rw [ns_get l j (by omega)] at h1
  exact h1


/-- How many groupings of so many wires into so many groups there are. -/
def st : Nat → Nat → Nat
  | 0, 0 => 1
  | 0, _ + 1 => 0
  | _ + 1, 0 => 0
  | n + 1, g + 1 => (g + 1) * st n (g + 1) + st n g

theorem st_le : ∀ n : Fin 13, ∀ g : Fin 14, st n.val g.val ≤ 5000000 := by decide +kernel

theorem st_over : ∀ n g, n < g → st n g = 0
  | 0, 0, h => by omega
  | 0, _ + 1, _ => rfl
  | n + 1, 0, h => by omega
  | n + 1, g + 1, h => by
    simp only [st]
    rw [st_over n (g + 1) (by omega), st_over n g (by omega)]; simp

/-- The sum of the first j. -/
def sumTo (f : Nat → Nat) : Nat → Nat | 0 => 0 | j + 1 => sumTo f j + f j

theorem sumTo_le (f : Nat → Nat) (B : Nat) : ∀ j, (∀ i, i < j → f i ≤ B) → sumTo f j ≤ B * j
  | 0, _ => by simp [sumTo]
  | j + 1, h => by
    have h1 := sumTo_le f B j (fun i hi => h i (by omega))
    have h2 := h j (by omega)
    simp only [sumTo, Nat.mul_add]; omega

theorem bell_eq : ∀ n : Fin 13, sumTo (st n.val) 13 = sumTo (st n.val) (n.val + 1) := by decide +kernel

/-- How many groupings of so many wires there are. -/
def bell (n : Int) : Int := if 1 ≤ n ∧ n ≤ 12 then (sumTo (st n.toNat) 13 : Nat) else 0

def wiB (n : Int) : Bool := decide (1 ≤ n ∧ n ≤ 12)

def updN (s : Nat → Nat) (i v : Nat) : Nat → Nat := fun j => if j = i then v else s j

def fl (n : Nat) (s : Nat → Nat) : List Value := (List.range n).map fun i => .int .i64 ((s i : Nat) : Int)

theorem fl_get (n : Nat) (s : Nat → Nat) (i : Nat) (h : i < n) : (fl n s)[i]? = some (.int .i64 (s i : Nat)) := by simp [fl, h]

theorem fl_set (n : Nat) (s : Nat → Nat) (i v : Nat) : (fl n s).set i (.int .i64 (v : Int)) = fl n (updN s i v) := by
  apply List.ext_getElem?
  intro j
  rw [List.getElem?_set]
  by_cases hij : i = j
  · subst hij
    by_cases h : i < n
    · rw [if_pos rfl, if_pos (by simpa [fl] using h), fl_get _ _ _ h]; simp [updN]
    · rw [if_pos rfl, if_neg (by simpa [fl] using h), List.getElem?_eq_none (by simp [fl]; omega)]
  · rw [if_neg hij]
    by_cases h : j < n
    · rw [fl_get _ _ _ h, fl_get _ _ _ h]; simp [updN, Ne.symm hij]
    · rw [List.getElem?_eq_none (by simp [fl]; omega), List.getElem?_eq_none (by simp [fl]; omega)]

/-- Thirteen numbers. -/
def BB (s : Nat → Nat) : Array Value := (fl 13 s).toArray

theorem BB_get (s : Nat → Nat) (i : Nat) (h : i < 13) : (BB s)[i]? = some (.int .i64 (s i : Nat)) := by
  unfold BB; rw [List.getElem?_toArray]; exact fl_get 13 s i h

theorem BB_set (s : Nat → Nat) (i v : Nat) : (BB s).setIfInBounds i (.int .i64 (v : Int)) = BB (updN s i v) := by
  unfold BB; rw [List.setIfInBounds_toArray, fl_set]

theorem BB_size (s : Nat → Nat) : (BB s).size = 13 := by simp [BB, fl]

theorem BB_zero : BB (fun _ => 0) = #[.int .i64 0, .int .i64 0, .int .i64 0, .int .i64 0, .int .i64 0, .int .i64 0, .int .i64 0, .int .i64 0, .int .i64 0, .int .i64 0, .int .i64 0, .int .i64 0, .int .i64 0] := rfl

theorem BB_ext {s r : Nat → Nat} (h : ∀ i, i < 13 → s i = r i) : BB s = BB r := by
  unfold BB fl
  congr 1
  refine List.map_congr_left fun i hi => ?_
  rw [h i (List.mem_range.1 hi)]

/-- Between two numbers of wires: the groups above j are told anew. -/
def md (n j : Nat) : Nat → Nat := fun i => if j < i then st (n + 1) i else st n i

theorem md_start (n : Nat) : ∀ i, i < 13 → md n 12 i = st n i := fun i hi => by unfold md; rw [if_neg (by omega)]

theorem md_step (n j i : Nat) : updN (md n (j + 1)) (j + 1) ((j + 1) * st n (j + 1) + st n j) i = md n j i := by
  unfold updN md
  by_cases h : i = j + 1
  · subst h; rw [if_pos rfl, if_pos (by omega)]; rfl
  · rw [if_neg h]
    by_cases h2 : j + 1 < i
    · rw [if_pos h2, if_pos (by omega)]
    · rw [if_neg h2, if_neg (by omega)]

theorem md_end (n i : Nat) : updN (md n 0) 0 0 i = st (n + 1) i := by
  unfold updN md
  by_cases h : i = 0
  · subst h; rw [if_pos rfl]; rfl
  · rw [if_neg h, if_pos (by omega)]

theorem idx_BB (s : Nat → Nat) (i : Nat) (h : i < 13) (w : World) : (Instr.index 46 (.agg (BB s)) (.int .i64 (i : Int))).run Try.prog w = .ok (.int .i64 (s i : Nat)) w := by
  have hg := BB_get s i h
  have hu := run_underlying (P := Try.prog) (w := w) Try.underlying46
  simp [Instr.index, hu, asIntOf, go_sem, hg]
  intro hh; omega

/-- The list of the model. -/
def stL (n : Nat) : List Int := (List.range (n + 1)).map fun g => ((st n g : Nat) : Int)

theorem stL_length (n : Nat) : (stL n).length = n + 1 := by simp [stL]
theorem stL_at (n g : Nat) (h : g < n + 1) : na (stL n) g = (st n g : Nat) := by simp [stL, na, List.getD_eq_getElem?_getD, h]

/-- What the model's next list has behind j groups. -/
def mj (n j i : Nat) : Nat := if i < j then st (n + 1) i else if i = j then (if j = 0 then 0 else st n (j - 1)) else 0

def mjL (n j : Nat) : List Int := (List.range (n + 2)).map fun i => ((mj n j i : Nat) : Int)

theorem mjL_length (n j : Nat) : (mjL n j).length = n + 2 := by simp [mjL]
theorem mjL_at (n j i : Nat) (h : i < n + 2) : na (mjL n j) i = (mj n j i : Nat) := by simp [mjL, na, List.getD_eq_getElem?_getD, h]
theorem mjL_zero (n : Nat) : mjL n 0 = List.replicate (n + 2) 0 := by
  apply List.ext_getElem?
  intro i
  by_cases h : i < n + 2
  · simp only [mjL, List.getElem?_map, List.getElem?_range h, Option.map_some, List.getElem?_replicate, if_pos h]
    unfold mj
    simp
  · rw [List.getElem?_eq_none (by rw [mjL_length]; omega), List.getElem?_eq_none (by simp; omega)]

theorem mjL_step (n j : Nat) (h : j < n + 1) : ((mjL n j).set j (((st (n + 1) j : Nat) : Int))).set (j + 1) (((st n j : Nat) : Int)) = mjL n (j + 1) := by
  apply List.ext_getElem?
  intro i
  by_cases hi : i < n + 2
  · rw [List.getElem?_set, List.getElem?_set]
    simp only [mjL, List.length_set, List.length_map, List.length_range, List.getElem?_map, List.getElem?_range hi, Option.map_some]
    unfold mj
    by_cases h1 : j + 1 = i
    · subst h1
      rw [if_pos rfl, if_pos hi, if_neg (by omega), if_pos rfl, if_neg (by omega)]; simp
    · rw [if_neg h1]
      by_cases h2 : j = i
      · subst h2
        rw [if_pos rfl, if_pos hi, if_pos (by omega)]
      · rw [if_neg h2]
        by_cases h3 : i < j
        · rw [if_pos h3, if_pos (by omega)]
        · rw [if_neg h3, if_neg (by omega), if_neg (by omega), if_neg (by omega)]
  · rw [List.getElem?_eq_none (by simp [mjL]; omega), List.getElem?_eq_none (by simp [mjL]; omega)]

theorem mjL_all (n : Nat) : mjL n (n + 1) = stL (n + 1) := by
  unfold mjL stL
  refine List.map_congr_left fun i hi => ?_
  have := List.mem_range.1 hi
  unfold mj
  by_cases h : i < n + 1
  · rw [if_pos h]
  · obtain rfl : i = n + 1 := by omega
    rw [if_neg h, if_pos rfl, if_neg (by omega)]
    simp only [st]
    rw [st_over n (n + 1) (by omega)]; simp

theorem mj_here (n j : Nat) : j * st n j + mj n j j = st (n + 1) j := by
  unfold mj
  rw [if_neg (by omega), if_pos rfl]
  cases j with
  | zero => simp [st]
  | succ j => simp [st]

theorem mj_next (n j : Nat) : mj n j (j + 1) = 0 := by
  unfold mj
  rw [if_neg (by omega), if_neg (by omega)]

end Go.Proofs.Ytoaobdeigangfaa
