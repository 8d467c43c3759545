/- Letters around: the program; both at every number. -/
import Derived.Test.YtolkfgjgnpjpkaaRing
import Derived.Test.YtolkfgjgnpjpkaaFewL
namespace Go.Proofs.Ytolkfgjgnpjpkaa
open Go.ChangeShapes Go.WideShapes Go.ChangeAt Go.RowKit


def rpart (F m k : Nat) : List (Int × Int) := ringL F k ++ List.replicate (m - k) (0, 0)
theorem rpart_set (F m k : Nat) (h : k < m) : (rpart F m k).set k ((k : Int).tmod F, ((k : Int) + 1).tmod F) = rpart F m (k + 1) := by
  unfold rpart
  rw [List.set_append_right _ _ (by simp [ringL_length]), ringL_length, Nat.sub_self, show m - k = (m - (k + 1)) + 1 by omega, List.replicate_succ, List.set_cons_zero, ringL_succ]
  simp

set_option maxRecDepth 20000 in
theorem implRing_yes (F : Nat) (w : World) (h1 : 1 ≤ F) (h2 : F ≤ 10) :
    Calls Try.prog 54 #[.int .i64 F] w fun e w' => ∃ v, e = .returned (.tuple #[v, .bool true]) ∧ w'.ownsRow w.heap.size 62 2 v (2 * (F - 1)) (cs (ringL F (2 * (F - 1)))) ∧ Below w.heap.size w w' := by
  obtain ⟨i0, hi, hz0, hz1, hz2⟩ := info_parts info62
  have Hz := Lib.hid (And.intro hz0 (And.intro hz1 hz2))
  clear hz0 hz1 hz2
  have Hfr : Hid (frB (F : Int) = true) := by show _ = _; simp [frB]; omega
  obtain ⟨n, hn⟩ : ∃ n, n = 2 * (F - 1) := ⟨_, rfl⟩
  have hm : Hid (fewL F = (n : Int)) := by show _ = _; rw [fewL, if_pos Hfr.out]; omega
  have hn18 : n ≤ 18 := by omega
  rw [← hn]
  have hF0 : ¬ F = 0 := by omega
  have hF2 : ¬ (F : Int) = 0 := by omega
  clear hn
  go_enter Try.func54, Try.ntmps54
  go_wp2_with fail
  refine (implFewL_any F w).mono ?_
  rintro e w' ⟨rfl, rfl⟩
  rw [Hfr.out, hm.out]
  go_wp2_with (refine wpList_make_full _ rfl _ _ 25 rfl w.heap.size 62 i0 (.agg #[.int .i64 0, .int .i64 0]) 2 Try.underlying25 hi Hz.out.1 Hz.out.2.1 .i64 .i64 _ _ n rfl rfl rfl rfl ?_ ?_ ?_ ?_)
  · rw [Hz.out.2.2]; omega
  · unfold maxLen; omega
  · exact Nat.le_refl _
  intro w2 hown hgr
  rw [zero_cells] at hown
  have Hown0 := Lib.hid hown
  have Hb2 := Lib.hid ((Below.refl w.heap.size w).grown hgr (Nat.le_refl _) (fun _ h => by cases h))
  clear hown hgr
  go_wp2_with fail
  go_loopw [19] (fun i wr => ∃ k : Nat, k ≤ n ∧ i = .int .i64 k ∧ wr.ownsRow w.heap.size 62 2 (.slice (some ⟨w.heap.size, 0, none⟩) n n) n (cs (rpart F n k)) ∧ Below w.heap.size w wr) (fun i _ => n - (intOf i).toNat)
  case atStart => exact ⟨0, Nat.zero_le _, rfl, by simpa [rpart, ringL] using Hown0.out, Hb2.out⟩
  case round =>
    obtain ⟨k, hk, rfl, hor, hbel⟩ := hrel
    by_cases hlt : k < n
    · have hsz := hbel.size
      have hgs := (hor.lt _ rfl).2
      obtain ⟨u0, z0⟩ := own_some hor (k * 2) (by omega)
      obtain ⟨u1, z1⟩ := own_some hor (k * 2 + 1) (by omega)
      have zf0 := hor.frozenAt (k * 2)
      have zf1 := hor.frozenAt (k * 2 + 1)
      have hor3 := own_set2 hor k ((k : Int).tmod F) (((k : Int) + 1).tmod F)
      rw [rpart_set F n k hlt] at hor3
      have Hor3 := Lib.hid hor3
      have hb3 := (hbel.setCell (p := ⟨w.heap.size, k * 2, none⟩) (Nat.le_refl _) (.int .i64 ((k : Int).tmod F))).setCell (p := ⟨w.heap.size, k * 2 + 1, none⟩) (Nat.le_refl _) (.int .i64 (((k : Int) + 1).tmod F))
      have hw1 : IntKind.i64.wrap ((k : Int) + 1) = (k : Int) + 1 := IntWalk.i64_in _ (by omega)
      have hk0 : (0 : Int) ≤ (k : Int) := by omega
      have hk1 : (k : Int) < (n : Int) := by omega
      clear hor3 hor
      go_wp2_with fail
      go_still_tail 11, (by kernel_rfl)
      change wpList _ _ _ _ _ wr.drew
      go_wp2_with fail
      go_roundw
      case rel => exact ⟨k + 1, by omega, by go_num, Hor3.out.drew, hb3.drew⟩
      case measure => simp [intOf]; omega
    · obtain rfl : k = n := by omega
      have e : rpart F k k = ringL F k := by simp [rpart]
      rw [e] at hor
      have Hor := Lib.hid hor
      clear hor e hlt hk
      go_wp2_with fail
      go_ret2
      exact ⟨_, rfl, Hor.out, hbel⟩

theorem specRing_no (f : Int) (w : World) (hf : frB f = false) :
    Calls Try.prog 53 #[.int .i64 f] w fun e w' => ∃ v, e = .returned (.tuple #[v, .bool false]) ∧ w'.ownsRow w.heap.size 62 2 v 0 (cs []) ∧ Below w.heap.size w w' := by
  have Hf := Lib.hid hf
  clear hf
  have Hown1 := Lib.hid (World.ownsRow_nil w w.heap.size 62 2)
  go_enter Try.func53, Try.ntmps53
  go_wp2_with fail
  refine (caFriends_any f w).mono ?_
  rintro e w' ⟨rfl, rfl⟩
  rw [Hf.out]
  go_wp2_with fail
  go_ret2
  exact ⟨_, rfl, Hown1.out, Below.refl _ _⟩
theorem implRing_no (f : Int) (w : World) (hf : frB f = false) :
    Calls Try.prog 54 #[.int .i64 f] w fun e w' => ∃ v, e = .returned (.tuple #[v, .bool false]) ∧ w'.ownsRow w.heap.size 62 2 v 0 (cs []) ∧ Below w.heap.size w w' := by
  have Hf := Lib.hid hf
  clear hf
  have Hown1 := Lib.hid (World.ownsRow_nil w w.heap.size 62 2)
  go_enter Try.func54, Try.ntmps54
  go_wp2_with fail
  refine (implFewL_any f w).mono ?_
  rintro e w' ⟨rfl, rfl⟩
  rw [Hf.out]
  go_wp2_with fail
  go_ret2
  exact ⟨_, rfl, Hown1.out, Below.refl _ _⟩

def ringR (f : Int) : List (Int × Int) := if frB f then ringL f.toNat (2 * (f.toNat - 1)) else []
theorem ringR_length (f : Int) : (ringR f).length ≤ 60 := by
  unfold ringR
  cases hf : frB f
  · simp
  · have hff : 1 ≤ f ∧ f ≤ 10 := by simpa [frB] using hf
    simp [ringL_length]
    omega
theorem specRing_any (w : World) (f : Int) : Calls Try.prog 53 #[.int .i64 f] w fun e w' => ∃ v, e = .returned (.tuple #[v, .bool (frB f)]) ∧ w'.ownsRow w.heap.size 62 2 v (ringR f).length (cs (ringR f)) ∧ Below w.heap.size w w' := by
  cases hf : frB f
  · rw [show ringR f = [] by simp [ringR, hf]]
    exact specRing_no f w hf
  · have hff : 1 ≤ f ∧ f ≤ 10 := by simpa [frB] using hf
    obtain ⟨F, rfl⟩ : ∃ F : Nat, f = F := ⟨f.toNat, by omega⟩
    rw [show ringR F = ringL F (2 * (F - 1)) by simp [ringR, hf], ringL_length]
    exact specRing_yes F w (by omega) (by omega)
theorem implRing_any (w : World) (f : Int) : Calls Try.prog 54 #[.int .i64 f] w fun e w' => ∃ v, e = .returned (.tuple #[v, .bool (frB f)]) ∧ w'.ownsRow w.heap.size 62 2 v (ringR f).length (cs (ringR f)) ∧ Below w.heap.size w w' := by
  cases hf : frB f
  · rw [show ringR f = [] by simp [ringR, hf]]
    exact implRing_no f w hf
  · have hff : 1 ≤ f ∧ f ≤ 10 := by simpa [frB] using hf
    obtain ⟨F, rfl⟩ : ∃ F : Nat, f = F := ⟨f.toNat, by omega⟩
    rw [show ringR F = ringL F (2 * (F - 1)) by simp [ringR, hf], ringL_length]
    exact implRing_yes F w (by omega) (by omega)

end Go.Proofs.Ytolkfgjgnpjpkaa
