/- Is a network joined; the distance of two friends: the model. -/
import Derived.Test.YtibjapfaljeclaaDoorJoin
namespace Go.Proofs.YtibjapfaljeclaaDoor
open Go.ChangeShapes Go.WideShapes Go.ChangeAt Go.RowKit
set_option linter.unusedVariables false


theorem l1In_at (x lo hi : Int) (w : World) : Calls Tryd.prog 47 #[.int .i64 x, .int .i64 lo, .int .i64 hi] w fun e w' => e = .returned (.bool (decide (lo ≤ x ∧ x ≤ hi))) ∧ w = w' := by
  by_cases h1 : lo ≤ x
  · have hd1 : decide (lo ≤ x) = true := by simpa using h1
    by_cases h2 : x ≤ hi
    · have hd2 : decide (x ≤ hi) = true := by simpa using h2
      rw [show decide (lo ≤ x ∧ x ≤ hi) = true by simp [h1, h2]]
      go_enter Tryd.func47, Tryd.ntmps47
      go_wp2
      go_ret
      exact ⟨rfl, rfl⟩
    · have hd2 : decide (x ≤ hi) = false := by simpa using h2
      rw [show decide (lo ≤ x ∧ x ≤ hi) = false by simp [h1, h2]]
      clear h2
      go_enter Tryd.func47, Tryd.ntmps47
      go_wp2
      go_ret
      first | exact ⟨rfl, rfl⟩ | exact ⟨by simp; omega, rfl⟩
  · have hd1 : decide (lo ≤ x) = false := by simpa using h1
    rw [show decide (lo ≤ x ∧ x ≤ hi) = false by simp [h1]]
    clear h1
    go_enter Tryd.func47, Tryd.ntmps47
    go_wp2
    go_ret
    exact ⟨rfl, rfl⟩

theorem l1In_no (x lo hi : Int) (w : World) (h : ¬ (lo ≤ x ∧ x ≤ hi)) : Calls Tryd.prog 47 #[.int .i64 x, .int .i64 lo, .int .i64 hi] w fun e w' => e = .returned (.bool false) ∧ w = w' := by
  have := l1In_at x lo hi w
  rw [show decide (lo ≤ x ∧ x ≤ hi) = false by simp only [decide_eq_false_iff_not]; exact h] at this
  exact this

theorem l1In_yes (x lo hi : Int) (w : World) (h : lo ≤ x ∧ x ≤ hi) : Calls Tryd.prog 47 #[.int .i64 x, .int .i64 lo, .int .i64 hi] w fun e w' => e = .returned (.bool true) ∧ w = w' := by
  have := l1In_at x lo hi w
  rw [show decide (lo ≤ x ∧ x ≤ hi) = true by simp only [decide_eq_true_eq]; exact h] at this
  exact this

theorem neJoined_any (F : Nat) (ao : Option Addr) (cap : Nat) (l : List (Int × Int)) (n : Nat) (w : World) (Hn : Hid (n = l.length)) (hs : n ≤ 1048576) (Hg : Hid (gdB (F : Int) l = true)) (HA : Hid (CallsAt w ao l)) :
    Calls Tryd.prog 15 #[.int .i64 F, .slice ao n cap] w fun e w' => e = .returned (.bool (joinB F l)) ∧ Below w.heap.size w w' := by
  have hF := gd_fr Hg.out
  go_enter Tryd.func15, Tryd.ntmps15
  go_wp2_with fail
  refine (neFar_any F 0 ao cap l n w Hn hs HA (by omega) (by omega)).mono ?_
  rintro e w1 ⟨rfl, k, d, q, hk, hbi, own, hb⟩
  have Hd : Hid (seen (fvL F d) F (-1) = !joinB F l) := Lib.hid (seen_join (fun v hv => bfs_dst Hg.out (by omega) hbi hk v hv))
  have Hc : Hid (∀ i, i < F → w1.cell? ⟨w.heap.size, 0 + i, none⟩ = some (.int .i64 (na (fvL F d) i))) := Lib.hid (fun i hi => by rw [Nat.zero_add]; exact row_num own (fvL_length _ _).symm i hi)
  clear own hbi hk
  go_wp2_with fail
  refine (l1Has_pos w.heap.size 0 F (fvL F d) F (-1) w1 (by omega) Hc).mono ?_
  rintro e w2 ⟨rfl, rfl⟩
  rw [Hd.out]
  go_wp2_with fail
  go_ret
  exact ⟨ret_bool (by simp), hb⟩

def isjR (f : Int) (l : List (Int × Int)) : Bool := netB f l && joinB f.toNat l

theorem isj_at {F : Nat} {l : List (Int × Int)} (h : netB (F : Int) l = true) : isjR (F : Int) l = joinB F l := by rw [isjR, h, Int.toNat_natCast]; rfl

/-- There is a way from one of two friends to the other one. -/
def distB (f : Int) (l : List (Int × Int)) (a b : Int) : Bool := netB f l && (decide (0 ≤ a ∧ a < f) && (decide (0 ≤ b ∧ b < f) && dst l a.toNat b.toNat != 10))

def distR (f : Int) (l : List (Int × Int)) (a b : Int) : Int := if distB f l a b then ((dst l a.toNat b.toNat : Nat) : Int) else 0

theorem dist_both {f : Int} {l : List (Int × Int)} {a b : Int} (h : distB f l a b = false) : distB f l a b = false ∧ distR f l a b = 0 := ⟨h, by rw [distR, h]; rfl⟩

theorem dist_yes {f : Int} {l : List (Int × Int)} {a b : Nat} (h : distB f l a b = true) : distB f l a b = true ∧ distR f l a b = ((dst l a b : Nat) : Int) := ⟨h, by rw [distR, h]; rfl⟩

end Go.Proofs.YtibjapfaljeclaaDoor
