/- Rows of forty numbers. -/
import Derived.Test.YtghfkgbmmkcjhaaArr
import Derived.Laws.CopyOwn
import Derived.ChangeKeysEq
namespace Go.Proofs.Ytghfkgbmmkcjhaa
open Go.ChangeShapes Go.WideShapes Go.ChangeAt Go.RowKit
set_option linter.unusedVariables false


/-- Forty numbers. -/
def AA (f : Int → Int) : Array Value := ((List.range 40).map fun (i : Nat) => Value.int .i64 (f i)).toArray
theorem AA_size (f : Int → Int) : (AA f).size = 40 := by simp [AA]
theorem AA_get (f : Int → Int) (i : Nat) (h : i < 40) : (AA f)[i]? = some (.int .i64 (f i)) := by unfold AA; simp [h]
theorem AA_one (f : Int → Int) : (AA f).all (·.oneCell') = true := by
  rw [Array.all_eq_true']
  intro x hx
  simp only [AA, List.mem_toArray, List.mem_map] at hx
  obtain ⟨i, _, rfl⟩ := hx
  rfl
theorem AA_congr {f g : Int → Int} (h : ∀ i : Nat, i < 40 → f i = g i) : AA f = AA g := by
  unfold AA
  congr 1
  exact List.map_congr_left fun v hv => by rw [h v (List.mem_range.1 hv)]
def updA (f : Int → Int) (i : Int) (v : Int) : Int → Int := fun x => if x = i then v else f x
theorem AA_set (f : Int → Int) (i : Nat) (v : Int) : (AA f).setIfInBounds i (.int .i64 v) = AA (updA f i v) := by
  unfold AA
  rw [List.setIfInBounds_toArray]
  congr 1
  apply List.ext_getElem?
  intro j
  by_cases hj : j < 40
  · by_cases hij : i = j
    · subst hij; rw [List.getElem?_set_self (by simpa using hj)]; simp [updA, hj]
    · rw [List.getElem?_set_ne hij]
      have : ¬ ((j : Int) = (i : Int)) := by omega
      simp [updA, hj, this]
  · rw [List.getElem?_eq_none (by rw [List.length_set]; simp; omega), List.getElem?_eq_none (by simp; omega)]
def ZA : Array Value := AA fun _ => 0
theorem ZA_eq : ZA = #[.int .i64 0, .int .i64 0, .int .i64 0, .int .i64 0, .int .i64 0, .int .i64 0, .int .i64 0, .int .i64 0, .int .i64 0, .int .i64 0, .int .i64 0, .int .i64 0, .int .i64 0, .int .i64 0, .int .i64 0, .int .i64 0, .int .i64 0, .int .i64 0, .int .i64 0, .int .i64 0, .int .i64 0, .int .i64 0, .int .i64 0, .int .i64 0, .int .i64 0, .int .i64 0, .int .i64 0, .int .i64 0, .int .i64 0, .int .i64 0, .int .i64 0, .int .i64 0, .int .i64 0, .int .i64 0, .int .i64 0, .int .i64 0, .int .i64 0, .int .i64 0, .int .i64 0, .int .i64 0] := rfl
theorem infoA : (Try.prog.info? 57).map (fun i => i.size) = some 40 := by kernel_rfl
theorem part3 (xs : Array Value) (k : Nat) (v : Value) (w : World) (h : xs[k]? = some v) : (Go.part 3 xs k).run Try.prog w = .ok v w := by
  unfold Go.part
  simp [Try.isAgg3, h]
theorem eq3 (d : Nat) (a b : Int) (w : World) : (Op.equalIn (d + 1) 3 (.int .i64 a) (.int .i64 b)).run Try.prog w = .ok (a == b) w := by
  simp [Op.equalIn, run_underlying Try.underlying3]
theorem eqIs (f g : Int → Int) (d : Nat) (w : World) : ∀ is : List Nat, (∀ i ∈ is, i < 40) → (Op.eqItems (d + 1) 3 1 (AA f) (AA g) is).run Try.prog w = .ok (is.all fun (i : Nat) => f i == g i) w
  | [], _ => rfl
  | i :: is, h => by
    have hi := h i (List.mem_cons_self ..)
    have ih := eqIs f g d w is (fun j hj => h j (List.mem_cons_of_mem _ hj))
    have p1 := part3 (AA f) (i * 1) _ w (by rw [Nat.mul_one]; exact AA_get f i hi)
    have p2 := part3 (AA g) (i * 1) _ w (by rw [Nat.mul_one]; exact AA_get g i hi)
    unfold Op.eqItems
    simp only [Sem.run_bind, p1, p2, eq3, Result.andThen_ok]
    cases he : f i == g i
    · simp [he]
    · rw [if_neg (by simp), ih, List.all_cons, he, Bool.true_and]
theorem cells3A : Try.prog.cellsOf 3 = 1 := by kernel_rfl
theorem eqAA (f g : Int → Int) (w : World) : (Op.equalIn 10000 57 (.agg (AA f)) (.agg (AA g))).run Try.prog w = .ok ((List.range 40).all fun (i : Nat) => f i == g i) w := by
  obtain ⟨i0, hi, _⟩ := info_parts info3
  rw [show (10000 : Nat) = 9999 + 1 from rfl, run_equalIn_array w 9999 (AA f) (AA g) Try.underlying57 hi, cells3A]
  exact eqIs f g 9998 w (List.range 40) (fun i hi => List.mem_range.1 hi)
theorem all40 (f g : Int → Int) : ((List.range 40).all fun (i : Nat) => f i == g i) = true ↔ ∀ x : Nat, x < 40 → f x = g x := by
  simp [List.all_eq_true]

end Go.Proofs.Ytghfkgbmmkcjhaa
