/- Letters there and back: what is owned in between. -/
import Derived.Test.YtolkfgjgnpjpkaaGood
namespace Go.Proofs.Ytolkfgjgnpjpkaa
open Go.ChangeShapes Go.WideShapes Go.ChangeAt Go.RowKit
set_option linter.unusedVariables false

theorem l1In_any (x lo hi : Int) (w : World) : Calls Try.prog 87 #[.int .i64 x, .int .i64 lo, .int .i64 hi] w fun e w' => e = .returned (.bool (decide (lo ≤ x ∧ x ≤ hi))) ∧ w = w' := by
  by_cases h1 : lo ≤ x
  · by_cases h2 : x ≤ hi
    · rw [show decide (lo ≤ x ∧ x ≤ hi) = true by simp [h1, h2]]
      go_enter Try.func87, Try.ntmps87
      go_wp2
      go_ret
      exact ⟨by first | rfl | (simp; done) | (simp; omega), rfl⟩
    · rw [show decide (lo ≤ x ∧ x ≤ hi) = false by simp [h2]]
      have hd : decide (x ≤ hi) = false := by simpa using h2
      go_enter Try.func87, Try.ntmps87
      go_wp2
      go_ret
      exact ⟨by first | rfl | (simp; done) | (simp; omega), rfl⟩
  · rw [show decide (lo ≤ x ∧ x ≤ hi) = false by simp [h1]]
    have hd : decide (lo ≤ x) = false := by simpa using h1
    go_enter Try.func87, Try.ntmps87
    go_wp2
    go_ret
    exact ⟨rfl, rfl⟩
def ot (k x : Nat) : Nat := ((List.range k).filter (· != x)).length
def thereL (k x : Nat) : List (Int × Int) := ((List.range k).filter (· != x)).map fun (o : Nat) => ((o : Int), (x : Int))
def hereL (k x : Nat) : List (Int × Int) := ((List.range k).filter (· != x)).map fun (o : Nat) => ((x : Int), (o : Int))
theorem thereL_length (k x : Nat) : (thereL k x).length = ot k x := by simp [thereL, ot]
theorem hereL_length (k x : Nat) : (hereL k x).length = ot k x := by simp [hereL, ot]
theorem ot_le (k x : Nat) : ot k x ≤ k := by have := List.length_filter_le (· != x) (List.range k); simpa [ot] using this
theorem fil_same (k : Nat) : (List.range (k + 1)).filter (· != k) = (List.range k).filter (· != k) := by simp [List.range_succ]
theorem fil_other (k x : Nat) (h : k ≠ x) : (List.range (k + 1)).filter (· != x) = (List.range k).filter (· != x) ++ [k] := by simp [List.range_succ, h]
theorem ot_succ (k x : Nat) (h : k ≠ x) : ot (k + 1) x = ot k x + 1 := by simp [ot, fil_other k x h]
theorem ot_mono (k x : Nat) : ot k x ≤ ot (k + 1) x := by
  by_cases h : k = x
  · subst h; simp [ot, fil_same]
  · rw [ot_succ k x h]; omega
theorem ot_pos {k x : Nat} (hx : x < k) (h : 2 ≤ k) : 0 < ot k x := by
  unfold ot
  by_cases h0 : x = 0
  · exact List.length_pos_of_mem (a := 1) (by simp; omega)
  · exact List.length_pos_of_mem (a := 0) (by simp; omega)

/-- Two rows of their own, there and back, to the k-th friend. -/
def Two (w : World) (base : Nat) (v u : Value) (k x : Nat) : Prop :=
  w.ownsRow base 62 2 v (ot k x) (cs (thereL k x)) ∧ w.ownsRow base 62 2 u (ot k x) (cs (hereL k x)) ∧ (u.ownBlock = none ∨ u.ownBlock ≠ v.ownBlock) ∧ (ot k x = 0 → v = .slice none 0 0 ∧ u = .slice none 0 0)
theorem Two.nil (w : World) (base x : Nat) : Two w base (.slice none 0 0) (.slice none 0 0) 0 x := ⟨World.ownsRow_nil _ _ _ _, World.ownsRow_nil _ _ _ _, .inl rfl, fun _ => ⟨rfl, rfl⟩⟩
theorem Two.none1 {w : World} {base : Nat} {v u : Value} {k x : Nat} (h : Two w base v u k x) (h0 : ot k x = 0) : v = .slice none 0 0 := (h.2.2.2 h0).1
theorem Two.none2 {w : World} {base : Nat} {v u : Value} {k x : Nat} (h : Two w base v u k x) (h0 : ot k x = 0) : u = .slice none 0 0 := (h.2.2.2 h0).2
theorem Two.same {w : World} {base : Nat} {v u : Value} {k : Nat} (h : Two w base v u k k) : Two w base v u (k + 1) k := by
  have e : ot (k + 1) k = ot k k := by simp [ot, fil_same]
  have e1 : thereL (k + 1) k = thereL k k := by simp [thereL, fil_same]
  have e2 : hereL (k + 1) k = hereL k k := by simp [hereL, fil_same]
  unfold Two
  rw [e, e1, e2]
  exact h
theorem own_zero {w : World} {base : Nat} {e : TypeId} {s : Nat} {v : Value} {xs : List Value} (h : w.ownsRow base e s v 0 xs) (hn : v.ownBlock = none) : v = .slice none 0 0 := by
  rcases h.2 with ⟨rfl, _⟩ | ⟨g, cap, cur, rfl, _⟩
  · rfl
  · cases hn
/-- Between the two appends of a round. -/
def Mid (w : World) (base : Nat) (v u : Value) (k x : Nat) : Prop :=
  w.ownsRow base 62 2 v (ot k x + 1) (cs (thereL k x) ++ [.int .i64 k, .int .i64 x]) ∧ w.ownsRow base 62 2 u (ot k x) (cs (hereL k x)) ∧ (u.ownBlock = none ∨ u.ownBlock ≠ v.ownBlock)
theorem Two.mid {w w2 : World} {base : Nat} {v u : Value} {k x g cap : Nat} {o : Obj} (h : Two w base v u k x) (hkx : k ≠ x) (hsz : base ≤ w.heap.size)
    (hown : w2.ownsRow base 62 2 (.slice (some ⟨g, 0, none⟩) (ot k x + 1) cap) (ot k x + 1) (cs (thereL k x) ++ [.int .i64 k, .int .i64 x])) (hgr : (w.alloc o).grownBy w2 v.ownBlock) (hat : v.ownBlock = some g ∨ g = w.heap.size + 1) :
    Mid w2 base (.slice (some ⟨g, 0, none⟩) (ot k x + 1) cap) u k x := by
  obtain ⟨h1, h2, hap, _⟩ := h
  refine ⟨hown, (h2.alloc o).kept hgr hap, ?_⟩
  cases hu : u.ownBlock with
  | none => exact .inl rfl
  | some b =>
    refine .inr fun e => ?_
    have e' : b = g := by simpa [Value.ownBlock] using e
    have hlt := (h2.lt b hu).2
    rcases hat with hat | hat
    · rcases hap with hap | hap
      · rw [hu] at hap; cases hap
      · exact hap (by rw [hu, hat, e'])
    · omega
theorem Two.fin {w w2 : World} {base : Nat} {v u : Value} {k x g cap : Nat} {o : Obj} (h : Mid w base v u k x) (hkx : k ≠ x) (hsz : base ≤ w.heap.size)
    (hown : w2.ownsRow base 62 2 (.slice (some ⟨g, 0, none⟩) (ot k x + 1) cap) (ot k x + 1) (cs (hereL k x) ++ [.int .i64 x, .int .i64 k])) (hgr : (w.alloc o).grownBy w2 u.ownBlock) (hat : u.ownBlock = some g ∨ g = w.heap.size + 1) :
    Two w2 base v (.slice (some ⟨g, 0, none⟩) (ot k x + 1) cap) (k + 1) x := by
  obtain ⟨h1, h2, hap⟩ := h
  have e1 : thereL (k + 1) x = thereL k x ++ [((k : Int), (x : Int))] := by simp [thereL, fil_other k x hkx]
  have e2 : hereL (k + 1) x = hereL k x ++ [((x : Int), (k : Int))] := by simp [hereL, fil_other k x hkx]
  have hap' : v.ownBlock = none ∨ v.ownBlock ≠ u.ownBlock := by
    rcases hap with hap | hap
    · cases hv : v.ownBlock with
      | none => exact .inl rfl
      | some b => exact .inr (by rw [hap]; simp)
    · exact .inr (Ne.symm hap)
  unfold Two
  rw [ot_succ k x hkx, e1, e2, cs_append, cs_append]
  refine ⟨(h1.alloc o).kept hgr hap', hown, .inr fun e => ?_, fun h => by omega⟩
  have e' : v.ownBlock = some g := by simpa [Value.ownBlock] using e.symm
  have hlt := (h1.lt g e').2
  rcases hat with hat | hat
  · rcases hap' with h | h
    · rw [h] at e'; cases e'
    · exact h (by rw [e', hat])
  · omega

def starB (f x : Int) : Bool := frB f && decide (0 ≤ x ∧ x < f)
def starR (f x : Int) : List (Int × Int) := if starB f x then thereL f.toNat x.toNat ++ hereL f.toNat x.toNat else []
theorem starR_length (f x : Int) : (starR f x).length ≤ 60 := by
  unfold starR
  cases h : starB f x
  · simp
  · simp only [starB, Bool.and_eq_true, decide_eq_true_eq] at h
    have hff : 1 ≤ f ∧ f ≤ 10 := by simpa [frB] using h.1
    have := ot_le f.toNat x.toNat
    simp [thereL_length, hereL_length]
    omega

end Go.Proofs.Ytolkfgjgnpjpkaa
