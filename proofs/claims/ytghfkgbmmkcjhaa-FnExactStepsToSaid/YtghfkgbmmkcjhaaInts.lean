/- Lists of numbers in memory. -/
import Derived.Test.YtghfkgbmmkcjhaaGen
namespace Go.Proofs.Ytghfkgbmmkcjhaa
open Go.ChangeShapes Go.WideShapes Go.ChangeAt Go.RowKit
set_option linter.unusedVariables false

theorem info3 : (Try.prog.info? 3).map (fun i => (i.zero, i.size, i.bytes)) = some (some (.int .i64 0), 1, 8) := by kernel_rfl

/-- The cells of a list of numbers. -/
def ns (l : List Int) : List Value := l.map (Value.int .i64)

def na (l : List Int) (i : Nat) : Int := l.getD i 0

theorem ns_length (l : List Int) : (ns l).length = l.length := by simp [ns]

theorem ns_append (l m : List Int) : ns (l ++ m) = ns l ++ ns m := by simp [ns]

theorem ns_get (l : List Int) (i : Nat) (h : i < l.length) : (ns l)[i]? = some (.int .i64 (na l i)) := by simp [ns, na, h]

theorem ns_set (l : List Int) (i : Nat) (a : Int) : (ns l).set i (.int .i64 a) = ns (l.set i a) := by simp [ns, List.map_set]

theorem ns_one (l : List Int) : ∀ u ∈ ns l, u.oneCell' = true := by
  intro u hu
  simp only [ns, List.mem_map] at hu
  obtain ⟨c, _, rfl⟩ := hu; rfl

theorem na_get (l : List Int) (i : Nat) (h : i < l.length) : l[i] = na l i := by simp [na, List.getD_eq_getElem?_getD, h]

/-- The slice at this address reads as these numbers. -/
def NumsAt (w : World) (ao : Option Addr) (l : List Int) : Prop :=
  l = [] ∨ ∃ b off, ao = some ⟨b, off, none⟩ ∧ ∀ i, i < l.length → w.cell? ⟨b, off + i, none⟩ = some (.int .i64 (na l i))

theorem NumsAt.kept {w w' : World} {ao : Option Addr} {l : List Int} (h : NumsAt w ao l) (hb : Below w.heap.size w w') : NumsAt w' ao l := by
  rcases h with h | ⟨b, off, h, hc⟩
  · exact .inl h
  · refine .inr ⟨b, off, h, fun i hi => ?_⟩
    exact (hb.cell (p := ⟨b, off + i, none⟩) (World.block_lt_of_cell? w _ (hc i hi))).trans (hc i hi)

theorem nums_at {w : World} {base g n cap : Nat} {l : List Int} (h : w.ownsRow base 3 1 (.slice (some ⟨g, 0, none⟩) n cap) n (ns l)) (hn : n = l.length) : NumsAt w (some ⟨g, 0, none⟩) l := by
  subst hn
  refine .inr ⟨g, 0, rfl, fun i hi => ?_⟩
  have h1 := h.cellAt i (by omega)
  rw [ns_get l i hi] at h1
  simp only [Nat.zero_add]
  exact h1

theorem nums_shape {w : World} {base n : Nat} {v : Value} {l : List Int} (h : w.ownsRow base 3 1 v n (ns l)) (hn : n = l.length) :
    ∃ ao cap, v = .slice ao n cap ∧ NumsAt w ao l := by
  rcases h.2 with ⟨rfl, h0⟩ | ⟨g, cap, cur, rfl, hb, hg, _⟩
  · refine ⟨none, 0, by rw [h0], .inl ?_⟩
    exact List.eq_nil_of_length_eq_zero (by omega)
  · exact ⟨some ⟨g, 0, none⟩, cap, rfl, nums_at h hn⟩

theorem zero_nums (n : Nat) : (madeCells #[.int .i64 0] (n * 1)).toList = ns (List.replicate n 0) := by
  rw [Nat.mul_one, toList_madeCells_one]
  simp [ns]

def npart (l : List Int) (k : Nat) : List Int := l.take k ++ List.replicate (l.length - k) 0

theorem npart_zero (l : List Int) : npart l 0 = List.replicate l.length 0 := by simp [npart]

theorem npart_all (l : List Int) : npart l l.length = l := by simp [npart]

theorem npart_set (l : List Int) (k : Nat) (h : k < l.length) : (npart l k).set k (na l k) = npart l (k + 1) := by
  rw [← na_get l k h]
  unfold npart
  rw [List.set_append_right _ _ (by simp; omega)]
  have : k - (l.take k).length = 0 := by simp; omega
  rw [this, show l.length - k = (l.length - (k + 1)) + 1 from by omega, List.replicate_succ, List.set_cons_zero, List.take_succ_eq_append_getElem h, List.append_assoc]
  rfl

theorem eqIntS_zero (ao bo : Option Addr) (ka kb : Nat) (w : World) :
    Calls Try.prog 35 #[.slice ao 0 ka, .slice bo 0 kb] w fun e w' => e = .returned (.bool true) ∧ Below w.heap.size w w' := by
  go_enter Try.func35, Try.ntmps35
  go_wp2_with fail
  go_rounds 1
  go_ret
  exact ⟨rfl, Below.refl _ _⟩

set_option maxRecDepth 100000 in
theorem eqIntS_pos (b off b' off' ka kb : Nat) (l : List Int) (n : Nat) (w : World) (hl : n ≤ 9223372036854775807)
    (Hc : Hid (∀ i, i < n → w.cell? ⟨b, off + i, none⟩ = some (.int .i64 (na l i))))
    (Hd : Hid (∀ i, i < n → w.cell? ⟨b', off' + i, none⟩ = some (.int .i64 (na l i)))) :
    Calls Try.prog 35 #[.slice (some ⟨b, off, none⟩) n ka, .slice (some ⟨b', off', none⟩) n kb] w fun e w' => e = .returned (.bool true) ∧ Below w.heap.size w w' := by
  have hnn : ((n : Int) != (n : Int)) = false := by simp
  go_enter Try.func35, Try.ntmps35
  go_wp2_with fail
  go_loopw [5] (fun i wr => ∃ k : Nat, k ≤ n ∧ i = .int .i64 k ∧ Below w.heap.size w wr) (fun i _ => n - (intOf i).toNat)
  case atStart => exact ⟨0, Nat.zero_le _, rfl, Below.refl _ _⟩
  case round =>
    obtain ⟨k, hk, rfl, hbel⟩ := hrel
    by_cases hlt : k < n
    · have h0 := hbel.cell (p := ⟨b, off + k, none⟩) (World.block_lt_of_cell? w _ (Hc.out k hlt))
      have h2 := hbel.cell (p := ⟨b', off' + k, none⟩) (World.block_lt_of_cell? w _ (Hd.out k hlt))
      rw [Hc.out k hlt] at h0
      rw [Hd.out k hlt] at h2
      have hee : (na l k != na l k) = false := by simp
      have hb0 : (0 : Int) ≤ k := by omega
      have hb1 : (k : Int) < n := by omega
      go_wp2_with fail
      go_quiet (fail)
      go_wp2_with fail
      go_roundw
      case rel => exact ⟨k + 1, by omega, by go_num, below_drewN hbel _⟩
      case measure => simp [intOf]; omega
    · go_wp2
      go_ret
      exact ⟨rfl, hbel⟩

theorem eqIntS_any (ao bo : Option Addr) (ka kb : Nat) (l : List Int) (n m : Nat) (w : World) (hn : n = l.length) (hm : m = l.length) (hl : n ≤ 9223372036854775807) (Hc : NumsAt w ao l) (Hd : NumsAt w bo l) :
    Calls Try.prog 35 #[.slice ao n ka, .slice bo m kb] w fun e w' => e = .returned (.bool true) ∧ Below w.heap.size w w' := by
  obtain rfl : n = m := hn.trans hm.symm
  by_cases h0 : n = 0
  · subst h0
    exact eqIntS_zero ao bo ka kb w
  · rcases Hc with h | ⟨b, off, rfl, hc⟩
    · subst h; exact absurd hn h0
    rcases Hd with h | ⟨b', off', rfl, hd⟩
    · subst h; exact absurd hn h0
    exact eqIntS_pos b off b' off' ka kb l n w hl (by rw [hn]; exact hc) (by rw [hn]; exact hd)

theorem eqIntS_own {b1 b2 : Nat} (v1 v2 : Value) (l : List Int) (n m : Nat) (w : World) (hn : n = l.length) (hm : m = l.length) (hl : n ≤ 9223372036854775807) (h1 : w.ownsRow b1 3 1 v1 n (ns l)) (h2 : w.ownsRow b2 3 1 v2 m (ns l)) :
    Calls Try.prog 35 #[v1, v2] w fun e w' => e = .returned (.bool true) ∧ Below w.heap.size w w' := by
  obtain ⟨ao, ka, rfl, hc⟩ := nums_shape h1 hn
  obtain ⟨bo, kb, rfl, hd⟩ := nums_shape h2 hm
  exact eqIntS_any ao bo ka kb l n m w hn hm hl hc hd

/-- Numbers written over by marks, from k on. -/
def nmarks (k : Int) (l : List Int) (j : Nat) : List Int := (List.range l.length).map fun i => if i < j then k + (i : Int) else na l i

theorem nmarks_length (k : Int) (l : List Int) (j : Nat) : (nmarks k l j).length = l.length := by simp [nmarks]

theorem nmarks_zero (k : Int) (l : List Int) : nmarks k l 0 = l := by
  apply List.ext_getElem?
  intro i
  by_cases h : i < l.length
  · simp [nmarks, h, ← na_get l i h]
  · simp [nmarks, h]

theorem nmarks_get (k : Int) (l : List Int) (j i : Nat) (h : i < l.length) : na (nmarks k l j) i = if i < j then k + (i : Int) else na l i := by
  simp [na, nmarks, List.getD_eq_getElem?_getD, h]

theorem nmarks_set (k : Int) (l : List Int) (j : Nat) (h : j < l.length) : (nmarks k l j).set j (k + (j : Int)) = nmarks k l (j + 1) := by
  apply List.ext_getElem?
  intro i
  rw [List.getElem?_set]
  by_cases hi : i < l.length
  · by_cases hij : j = i
    · subst hij
      simp [nmarks, hi]
    · rw [if_neg hij]
      simp only [nmarks, List.getElem?_map, List.getElem?_range hi, Option.map_some]
      by_cases hlt : i < j
      · simp [hlt, show i < j + 1 by omega]
      · simp [hlt, show ¬ i < j + 1 by omega]
  · by_cases hij : j = i
    · omega
    · rw [if_neg hij]; simp [nmarks, hi]

theorem markIntS_row (base g cap : Nat) (l : List Int) (n : Nat) (w : World) (c : Int) (hc0 : 0 ≤ c) (hc1 : c ≤ 4000000000) (Hn : Hid (n = l.length)) (hl : n ≤ 4611686018427387000) (Hown : Hid (w.ownsRow base 3 1 (.slice (some ⟨g, 0, none⟩) n cap) n (ns l))) :
    Calls Try.prog 36 #[.slice (some ⟨g, 0, none⟩) n cap, .int .i64 c] w fun e w' => e = .returned (.int .i64 (c + (n : Int))) ∧ w'.ownsRow base 3 1 (.slice (some ⟨g, 0, none⟩) n cap) n (ns (nmarks c l n)) ∧ w.grownBy w' (some g) := by
  go_enter Try.func36, Try.ntmps36
  go_wp2_with fail
  go_loopw [1, 5] (fun k i wr => ∃ j : Nat, j ≤ n ∧ i = .int .i64 j ∧ k = .int .i64 (c + (j : Int)) ∧ wr.ownsRow base 3 1 (.slice (some ⟨g, 0, none⟩) n cap) n (ns (nmarks c l j)) ∧ w.grownBy wr (some g)) (fun _ i _ => n - (intOf i).toNat)
  case atStart => exact ⟨0, Nat.zero_le _, rfl, by simp, by rw [nmarks_zero]; exact Hown.out, ⟨rfl, rfl, rfl, Nat.le_refl _, fun _ _ _ => rfl⟩⟩
  case round =>
    obtain ⟨j, hj, rfl, rfl, hor, hgr⟩ := hrel
    by_cases hlt : j < n
    · obtain ⟨u0, z0⟩ := own_some hor j (by omega)
      have zf0 := hor.frozenAt j
      have hor3 := (hor.stored j (.int .i64 (c + (j : Int)))).1
      rw [ns_set, nmarks_set c l j (by rw [← Hn.out]; exact hlt)] at hor3
      have Hor3 := Lib.hid hor3
      have Hgr := Lib.hid hgr
      clear hor3 hor hgr
      go_wp2_with fail
      go_roundw
      case rel => exact ⟨j + 1, by omega, by go_num, by go_num, Hor3.out, grown_set Hgr.out _ _⟩
      case measure => simp [intOf]; omega
    · obtain rfl : j = n := by omega
      have Hor := Lib.hid hor
      clear hor
      go_wp2
      go_ret
      exact ⟨rfl, Hor.out, hgr⟩

theorem heldIntS_pos (b off cap : Nat) (n : Nat) (w : World) (c : Int) (hc0 : 0 ≤ c) (hc1 : c ≤ 4000000000) (hl : n ≤ 4611686018427387000)
    (Hc : Hid (∀ i, i < n → w.cell? ⟨b, off + i, none⟩ = some (.int .i64 (c + (i : Int))))) :
    Calls Try.prog 37 #[.slice (some ⟨b, off, none⟩) n cap, .int .i64 c] w fun e w' => e = .returned (.int .i64 (c + (n : Int))) ∧ w = w' := by
  go_enter Try.func37, Try.ntmps37
  go_wp2_with fail
  go_loop [1, 5] (fun k i => ∃ j : Nat, j ≤ n ∧ i = .int .i64 j ∧ k = .int .i64 (c + (j : Int))) (fun _ i => n - (intOf i).toNat)
  case atStart => exact ⟨0, Nat.zero_le _, rfl, by simp⟩
  case round =>
    obtain ⟨j, hj, rfl, rfl⟩ := hrel
    by_cases hlt : j < n
    · have h0 := Hc.out j hlt
      have e0 : ((c + (j : Int)) != (c + (j : Int))) = false := by simp
      go_wp2_with fail
      go_round
      case rel => exact ⟨j + 1, by omega, by go_num, by go_num⟩
      case measure => simp [intOf]; omega
    · obtain rfl : j = n := by omega
      go_wp2
      go_ret
      exact ⟨rfl, rfl⟩

theorem markIntS_zero (ao : Option Addr) (cap : Nat) (w : World) (c : Int) :
    Calls Try.prog 36 #[.slice ao 0 cap, .int .i64 c] w fun e w' => e = .returned (.int .i64 c) ∧ w = w' := by
  go_enter Try.func36, Try.ntmps36
  go_wp2_with fail
  go_rounds 1
  go_ret
  exact ⟨rfl, rfl⟩

theorem heldIntS_zero (ao : Option Addr) (cap : Nat) (w : World) (c : Int) :
    Calls Try.prog 37 #[.slice ao 0 cap, .int .i64 c] w fun e w' => e = .returned (.int .i64 c) ∧ w = w' := by
  go_enter Try.func37, Try.ntmps37
  go_wp2_with fail
  go_rounds 1
  go_ret
  exact ⟨rfl, rfl⟩

theorem markIntS_any (base : Nat) (v : Value) (l : List Int) (n : Nat) (w : World) (c : Int) (hc0 : 0 ≤ c) (hc1 : c ≤ 4000000000) (hn : n = l.length) (hl : n ≤ 4611686018427387000) (hown : w.ownsRow base 3 1 v n (ns l)) :
    Calls Try.prog 36 #[v, .int .i64 c] w fun e w' => e = .returned (.int .i64 (c + (n : Int))) ∧ w'.ownsRow base 3 1 v n (ns (nmarks c l n)) ∧ w.grownBy w' v.ownBlock := by
  have h2 := hown.2
  rcases h2 with ⟨rfl, rfl⟩ | ⟨g, cap, cur, rfl, hb, hg, _⟩
  · have : l = [] := List.eq_nil_of_length_eq_zero hn.symm
    subst this
    refine (markIntS_zero none 0 w c).mono ?_
    rintro e w' ⟨rfl, rfl⟩
    exact ⟨by simp, hown, ⟨rfl, rfl, rfl, Nat.le_refl _, fun _ _ _ => rfl⟩⟩
  · exact markIntS_row base g cap l n w c hc0 hc1 hn hl hown

theorem heldIntS_any (base : Nat) (v : Value) (l : List Int) (n : Nat) (w : World) (c : Int) (hc0 : 0 ≤ c) (hc1 : c ≤ 4000000000) (hn : n = l.length) (hl : n ≤ 4611686018427387000) (hown : w.ownsRow base 3 1 v n (ns (nmarks c l n))) :
    Calls Try.prog 37 #[v, .int .i64 c] w fun e w' => e = .returned (.int .i64 (c + (n : Int))) ∧ w = w' := by
  have h2 := hown.2
  rcases h2 with ⟨rfl, rfl⟩ | ⟨g, cap, cur, rfl, hb, hg, _⟩
  · refine (heldIntS_zero none 0 w c).mono ?_
    rintro e w' ⟨rfl, rfl⟩
    exact ⟨by simp, rfl⟩
  · refine heldIntS_pos g 0 cap n w c hc0 hc1 hl (fun i hi => ?_)
    have h1 := hown.cellAt i (by omega)
    rw [ns_get _ i (by rw [nmarks_length, ← hn]; exact hi), nmarks_get c l n i (by rw [← hn]; exact hi), if_pos hi] at h1
    simpa using h1

end Go.Proofs.Ytghfkgbmmkcjhaa
