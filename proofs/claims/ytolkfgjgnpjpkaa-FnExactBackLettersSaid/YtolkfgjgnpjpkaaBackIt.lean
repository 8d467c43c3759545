/- slices.Backward over letters: its contract. -/
import Derived.Test.YtolkfgjgnpjpkaaBackS
import Derived.RangeFuncNested
import Derived.RangeFuncBound
import Derived.RangeFuncCalls
import Derived.RangeFuncLeaves
import Derived.RangeFuncBox
import Derived.Shelf.Abstract
import Derived.Shelf.RegionOpen
import Derived.OwnWalkIn
import Derived.TacticsInMore
import Derived.LoopNIn
import Derived.LoopIn
import Derived.Maps.AppendAt
namespace Go.Proofs.Ytolkfgjgnpjpkaa
open Go.ChangeShapes Go.WideShapes Go.ChangeAt Go.RowKit Go.Shelf
set_option linter.unusedVariables false


attribute [local go_sem] Oper.semAt_some

/-- What has come when k rounds are over. -/
def upt {α : Type} (f : Nat → α) (k : Nat) : List α := (List.range k).map f
theorem upt_succ {α : Type} (f : Nat → α) (k : Nat) : upt f (k + 1) = upt f k ++ [f k] := by simp [upt, List.range_succ]
theorem upt_length {α : Type} (f : Nat → α) (k : Nat) : (upt f k).length = k := by simp [upt]

/-- The k-th that comes: its index, the letter. -/
def bwd (l : List (Int × Int)) (n : Nat) (k : Nat) : Int × Int × Int := ((n : Int) - 1 - (k : Int), ca l (n - 1 - k), cb l (n - 1 - k))
def encB (x : Int × Int × Int) : Array Value := #[.int .i64 x.1, .agg #[.int .i64 x.2.1, .int .i64 x.2.2]]

/-- What a round keeps: whatever lay below n₀, and the block Bs. -/
def KpB (n₀ Bs : Nat) (W W' : World) : Prop := Below n₀ W W' ∧ W'.heap[Bs]? = W.heap[Bs]?
theorem KpB.refl (n₀ Bs : Nat) (W : World) : KpB n₀ Bs W W := ⟨Below.refl _ _, rfl⟩
theorem KpB.trans {n₀ Bs : Nat} {A B C : World} (h : KpB n₀ Bs A B) (h' : KpB n₀ Bs B C) : KpB n₀ Bs A C := ⟨h.1.trans h'.1, h'.2.trans h.2⟩
theorem KpB.box {n₀ Bs : Nat} {A B : World} (h : KpB n₀ Bs A B) {v : Value} (hc : A.cell? ⟨Bs, 0, none⟩ = some v) : B.cell? ⟨Bs, 0, none⟩ = some v := by
  rw [← hc]; simp only [World.cell?, h.2]

set_option maxRecDepth 100000 in
set_option maxHeartbeats 2000000 in
theorem bwd1_in (F : Fence) (m : Nat) (h8 : F.fn 106) (hro : F.round = none) (hm : 1 ≤ m) (lr Bs n₀ b off n cap : Nat) (l : List (Int × Int)) (hn : n ≤ 1048576) (hb : b < n₀) (J Jx : List (Int × Int × Int) → World → Prop)
    (hY : ∀ pre x W, J pre W → pre.length < n → YieldAt F (m - 1) Try.prog lr (encB x) W fun e W' =>
      (e = .returned (.bool true) ∧ J (pre ++ [x]) W' ∧ KpB n₀ Bs W W') ∨ (e = .returned (.bool false) ∧ Jx (pre ++ [x]) W'))
    (W : World) (hBs : W.cell? ⟨Bs, 0, none⟩ = some (.slice (some ⟨b, off, none⟩) n cap))
    (hc : ∀ j, j < n → W.cell? ⟨b, off + j * 2, none⟩ = some (.int .i64 (ca l j)) ∧ W.cell? ⟨b, off + j * 2 + 1, none⟩ = some (.int .i64 (cb l j))) (h0 : J [] W) :
    CallsIn F m Try.prog 106 #[.func (.yield lr) #[] #[], .pointer (some ⟨Bs, 0, none⟩)] W fun e W' => (∃ v, e = .returned v) ∧
      ((∃ ys, ys = upt (bwd l n) n ∧ J ys W') ∨ (∃ pre, (∃ k, k ≤ n ∧ pre = upt (bwd l n) k) ∧ Jx pre W')) := by
  refine callsIn_of_wp Try.func106 rfl h8 ?_ hro
  simp only [Try.ntmps106, List.size_toArray, List.length_cons, List.length_nil, Nat.reduceAdd, Nat.reduceSub, Array.replicate_succ, Array.replicate_zero, List.push_toArray, List.append_toArray, List.nil_append, List.cons_append]
  gi_wp2
  gi_loopw [3] (fun i wr => ∃ k : Nat, k ≤ n ∧ i = .int .i64 ((n : Int) - 1 - (k : Int)) ∧ J (upt (bwd l n) k) wr ∧ KpB n₀ Bs W wr)
    (fun i _ => (intOf i + 1).toNat)
  case atStart => exact ⟨0, Nat.zero_le _, by go_num, h0, KpB.refl _ _ _⟩
  case round =>
    obtain ⟨k, hk, rfl, hJs, hnx⟩ := hrel
    have hbs := hnx.box hBs
    by_cases hlt : k < n
    · obtain ⟨fn, tmps, assign, body, hy, hR⟩ := hY _ (bwd l n k) wr hJs (by rw [upt_length]; exact hlt)
      dsimp only [bwd, encB] at hy
      obtain ⟨j, hj⟩ : ∃ j : Nat, j = n - 1 - k := ⟨_, rfl⟩
      have hjn : j < n := by omega
      have hJ0 : (n : Int) - 1 - (k : Int) = (j : Int) := by omega
      rw [← hj, hJ0] at hy
      have Hup : upt (bwd l n) k ++ [bwd l n k] = upt (bwd l n) (k + 1) := (upt_succ _ _).symm
      rw [Hup] at hR
      rw [hJ0]
      have hz0 := (hnx.1.cell (p := ⟨b, off + j * 2, none⟩) hb).trans (hc j hjn).1
      have hz1 := (hnx.1.cell (p := ⟨b, off + j * 2 + 1, none⟩) hb).trans (hc j hjn).2
      clear hj
      gi_wp2
      refine hR.mono ?_
      rintro e W3 (⟨rfl, hJ3, hk3⟩ | ⟨rfl, hJx3⟩)
      · gi_wp2
        go_roundw
        case rel => exact ⟨k + 1, by omega, by go_num, hJ3, hnx.trans hk3⟩
        case measure => first | (simp [intOf]; done) | (simp [intOf]; omega)
      · gi_wp2
        refine bodyPost_ret (results_none rfl _ _ _) rfl ?_
        exact ⟨⟨_, rfl⟩, .inr ⟨_, ⟨k + 1, by omega, rfl⟩, hJx3⟩⟩
    · obtain rfl : k = n := by omega
      rw [show (k : Int) - 1 - (k : Int) = -1 by omega]
      gi_wp2
      go_end0
      exact ⟨⟨_, rfl⟩, .inl ⟨_, rfl, hJs⟩⟩

set_option maxRecDepth 100000 in
set_option maxHeartbeats 1000000 in
theorem bwd1_nil_in (F : Fence) (m : Nat) (h8 : F.fn 106) (hro : F.round = none) (lr Bs cap : Nat) (ao : Option Addr) (J : List (Int × Int × Int) → World → Prop) (W : World) (hBs : W.cell? ⟨Bs, 0, none⟩ = some (.slice ao 0 cap)) (h0 : J [] W) :
    CallsIn F m Try.prog 106 #[.func (.yield lr) #[] #[], .pointer (some ⟨Bs, 0, none⟩)] W fun e W' => (∃ v, e = .returned v) ∧ J [] W' := by
  refine callsIn_of_wp Try.func106 rfl h8 ?_ hro
  simp only [Try.ntmps106, List.size_toArray, List.length_cons, List.length_nil, Nat.reduceAdd, Nat.reduceSub, Array.replicate_succ, Array.replicate_zero, List.push_toArray, List.append_toArray, List.nil_append, List.cons_append]
  gi_wp2
  gi_loopw [3] (fun i wr => i = .int .i64 (-1) ∧ J [] wr) (fun _ _ => 0)
  case atStart => exact ⟨rfl, h0⟩
  case round =>
    obtain ⟨rfl, hJs⟩ := hrel
    gi_wp2
    go_end0
    exact ⟨⟨_, rfl⟩, hJs⟩

set_option maxHeartbeats 1000000 in
theorem backward_in (F : Fence) (m : Nat) (h6 : F.fn 85) (hro : F.round = none) (a : Option Addr) (len cap : Nat) (w : World) :
    CallsIn F m Try.prog 85 #[.slice a len cap] w fun e w' => e = .returned (.func (.func 106) #[] #[.pointer (some ⟨w.heap.size, 0, none⟩)]) ∧ w' = w.alloc (.cells #[.slice a len cap] 25) := by
  refine callsIn_of_wp Try.func85 rfl h6 ?_ hro
  simp only [Try.ntmps85, List.size_toArray, List.length_cons, List.length_nil, Nat.reduceAdd, Nat.reduceSub, Array.replicate_succ, Array.replicate_zero, List.push_toArray, List.append_toArray, List.nil_append, List.cons_append]
  gi_wp2
  go_ret
  exact ⟨rfl, rfl⟩

/-- slices.Backward(l) hands back what stops: (n - 1, l[n - 1]), .., (0, l[0]): all; or the first k of them. -/
theorem backward_stops (F : Fence) (m : Nat) (h8 : F.fn 106) (hro : F.round = none) (hm : 1 ≤ m) (Bs n₀ n cap : Nat) (ao : Option Addr) (l : List (Int × Int)) (hn : n ≤ 1048576) (hnl : n = l.length) (w : World) (hBs : Bs < w.heap.size) (hn₀ : n₀ ≤ w.heap.size)
    (hcB : w.cell? ⟨Bs, 0, none⟩ = some (.slice ao n cap)) (hI : ∀ b off, ao = some ⟨b, off, none⟩ → 0 < n → b < n₀) (hA : CallsAt w ao l) :
    SeqStopsK F m Try.prog 106 #[.pointer (some ⟨Bs, 0, none⟩)] encB (KpB n₀ Bs) (fun ys => ys = upt (bwd l n) n)
      (fun pre => ∃ k, k ≤ n ∧ pre = upt (bwd l n) k) n w := fun lr J Jx W hW _ _ hY h0 => by
  have hc' := (hW.cell (p := ⟨Bs, 0, none⟩) hBs).trans hcB
  have hA' := hA.kept hW
  rcases hA' with rfl | ⟨b, off, rfl, hc⟩
  · obtain rfl : n = 0 := by simpa using hnl
    exact (bwd1_nil_in F m h8 hro lr Bs cap ao J W hc' h0).mono fun e W' ⟨he, hj⟩ => ⟨he, .inl ⟨_, rfl, hj⟩⟩
  · by_cases h00 : n = 0
    · subst h00
      exact (bwd1_nil_in F m h8 hro lr Bs cap _ J W hc' h0).mono fun e W' ⟨he, hj⟩ => ⟨he, .inl ⟨_, rfl, hj⟩⟩
    · subst hnl
      exact bwd1_in F m h8 hro hm lr Bs n₀ b off l.length cap l hn (hI b off rfl (by omega)) J Jx hY W hc' hc h0

end Go.Proofs.Ytolkfgjgnpjpkaa
