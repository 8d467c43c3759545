/- The least minute: the pure part; the model. -/
import Derived.Test.YtghfkgbmmkcjhaaIA
namespace Go.Proofs.Ytghfkgbmmkcjhaa
open Go.ChangeShapes Go.WideShapes Go.ChangeAt Go.RowKit
set_option linter.unusedVariables false


theorem least_ex (Q : Nat → Prop) (h : ∃ t, Q t) : ∃ t, Q t ∧ ∀ j, j < t → ¬ Q j := by
  obtain ⟨t, ht⟩ := h
  induction t using Nat.strongRecOn with
  | _ t ih =>
    by_cases hx : ∃ j, j < t ∧ Q j
    · obtain ⟨j, hj, hq⟩ := hx
      exact ih j hj hq
    · exact ⟨t, ht, fun j hj hq => hx ⟨j, hj, hq⟩⟩
/-- The least minute at which so many can know the news. -/
noncomputable def mf (d p : Nat) : Nat := Classical.epsilon fun t => p ≤ inf d t ∧ ∀ j, j < t → ¬ p ≤ inf d j
theorem mf_spec (d p : Nat) (h1 : 1 ≤ d) : p ≤ inf d (mf d p) ∧ ∀ j, j < mf d p → ¬ p ≤ inf d j := by
  have h : ∃ t, p ≤ inf d t ∧ ∀ j, j < t → ¬ p ≤ inf d j := least_ex _ ⟨p + d, by have := inf_ge h1 (p + d) (by omega); omega⟩
  exact Classical.epsilon_spec h
theorem mf_eq {d p t : Nat} (h1 : 1 ≤ d) (h : p ≤ inf d t) (hj : ∀ j, j < t → ¬ p ≤ inf d j) : mf d p = t := by
  obtain ⟨a, b⟩ := mf_spec d p h1
  rcases Nat.lt_trichotomy (mf d p) t with hl | hl | hl
  · exact absurd a (hj _ hl)
  · exact hl
  · exact absurd h (b _ hl)
theorem mf_far {d p t : Nat} (h1 : 1 ≤ d) (h10 : d ≤ 10) (hp : p ≤ 1000000) (hj : ∀ j, j < t → ¬ p ≤ inf d j) : t ≤ 1000010 := by
  by_cases h0 : t ≤ 20
  · omega
  · have a := hj (t - 1) (by omega)
    have b := inf_ge h1 (t - 1) (by omega)
    omega
theorem mf_le {d p t : Nat} (h1 : 1 ≤ d) (h : p ≤ inf d t) : mf d p ≤ t := by
  obtain ⟨a, b⟩ := mf_spec d p h1
  by_cases hl : mf d p ≤ t
  · exact hl
  · exact absurd h (b t (by omega))
/-- No number up to this minute is too large. -/
theorem mf_bd {d p t : Nat} (h1 : 1 ≤ d) (hp : p ≤ 1000000) (hj : ∀ j, j < t → ¬ p ≤ inf d j) : ∀ j, j ≤ t → inf d j ≤ 2000000 := by
  intro j hjt
  by_cases h0 : j < d
  · rw [inf_lo h0]; omega
  · rw [inf_hi h1 (by omega)]
    have a := hj (j - 1) (by omega)
    have b := hj (j - d) (by omega)
    omega
def mfB (d p : Int) : Bool := deB d && mnB p
noncomputable def mfR (d p : Int) : Int := if mfB d p then (mf d.toNat p.toNat : Int) else 0
set_option maxHeartbeats 1600000 in
set_option maxRecDepth 20000 in
theorem deMinutes_any (w : World) (d p : Nat) (h1 : 1 ≤ d) (h10 : d ≤ 10) (hp1 : 1 ≤ p) (hp : p ≤ 1000000) :
    Calls Try.prog 57 #[.int .i64 (d : Int), .int .i64 (p : Int)] w fun e w' => e = .returned (.int .i64 (mf d p : Int)) ∧ Below w.heap.size w w' := by
  obtain ⟨i0, hi, hz0, hz1, hz2⟩ := info_parts info3
  go_enter Try.func57, Try.ntmps57
  go_wp2_with fail
  go_loopw [5, 6] (fun v i wr => ∃ (m : Nat), i = .int .i64 m ∧ Hid (∀ j, j < m → ¬ p ≤ inf d j) ∧ wr.ownsRow w.heap.size 3 1 v m (ns (iL d m)) ∧ Below w.heap.size w wr) (fun _ i _ => 1000020 - (intOf i).toNat)
  case atStart => exact ⟨0, rfl, (fun j hj => absurd hj (by omega)), World.ownsRow_nil _ _ _ _, Below.refl _ _⟩
  case round =>
    obtain ⟨m, rfl, hall, hor, hbel⟩ := hrel
    have hfar := mf_far h1 h10 hp hall.out
    have hbd := mf_bd h1 hp hall.out
    by_cases hlt : p ≤ inf d m
    · by_cases hd : m < d
      · have hge : decide ((m : Int) ≥ (d : Int)) = false := by simp only [decide_eq_false_iff_not]; omega
        have hnp : decide ((1 : Int) ≥ (p : Int)) = true := by rw [inf_lo hd] at hlt; simp only [decide_eq_true_eq]; omega
        have hres := Lib.hid (mf_eq h1 hlt hall.out)
        have Hor := Lib.hid hor
        clear hor hall hlt hbd
        go_wp2_with fail
        go_ret
        exact ⟨by rw [hres.out]; rfl, hbel⟩
      · have hge : decide ((m : Int) ≥ (d : Int)) = true := by simp only [decide_eq_true_eq]; omega
        have hres := Lib.hid (mf_eq h1 hlt hall.out)
        obtain ⟨q, rfl⟩ : ∃ q, m = q + 1 := ⟨m - 1, by omega⟩
        have hsum := inf_hi h1 (t := q + 1) (by omega)
        rw [Nat.add_sub_cancel] at hsum
        obtain ⟨g0, cap0, rfl⟩ := own_apos hor (by omega)
        have c0 := hor.cellAt q (by omega)
        rw [ns_get _ q (by rw [iL_length]; omega), iL_get d (q + 1) q (by omega)] at c0
        have c1 := hor.cellAt (q + 1 - d) (by omega)
        rw [ns_get _ _ (by rw [iL_length]; omega), iL_get d (q + 1) _ (by omega)] at c1
        have hq1 : ((q + 1 : Nat) : Int) - 1 = (q : Int) := by omega
        have hqd : ((q + 1 : Nat) : Int) - (d : Int) = ((q + 1 - d : Nat) : Int) := by omega
        have hp0 : (0 : Int) ≤ (q : Int) := by omega
        have hp1 : (q : Int) < ((q + 1 : Nat) : Int) := by omega
        have hp2 : (0 : Int) ≤ ((q + 1 - d : Nat) : Int) := by omega
        have hp3 : ((q + 1 - d : Nat) : Int) < ((q + 1 : Nat) : Int) := by omega
        have b0 := hbd q (by omega)
        have b1 := hbd (q + 1 - d) (by omega)
        have es : ((inf d (q + 1) : Nat) : Int) = (inf d q : Int) + (inf d (q + 1 - d) : Int) := by rw [hsum]; push_cast; rfl
        obtain ⟨A, hA⟩ : ∃ A, inf d q = A := ⟨_, rfl⟩
        obtain ⟨B, hB⟩ : ∃ B, inf d (q + 1 - d) = B := ⟨_, rfl⟩
        rw [hA] at c0 b0 es
        rw [hB] at c1 b1 es
        have hsw : IntKind.i64.wrap ((A : Int) + (B : Int)) = (A : Int) + (B : Int) := IntWalk.i64_in _ (by omega)
        have hnp : decide ((A : Int) + (B : Int) ≥ (p : Int)) = true := by simp only [decide_eq_true_eq]; omega
        have Hor := Lib.hid hor
        clear hor hall hlt hsum es hA hB hbd
        go_wp2_with fail
        go_region
        all_goals
          go_wp2_with fail
          go_ret
          exact ⟨by rw [hres.out]; rfl, hbel.drew⟩
    · have Hall : Hid (∀ j, j < m + 1 → ¬ p ≤ inf d j) := fun j hj => by
        by_cases hjt : j = m
        · subst hjt; exact hlt
        · exact hall.out j (by omega)
      have hs := hbel.size
      clear hall
      by_cases hd : m < d
      · have hge : decide ((m : Int) ≥ (d : Int)) = false := by simp only [decide_eq_false_iff_not]; omega
        have HI := Lib.hid (inf_lo hd)
        have hnp : decide ((1 : Int) ≥ (p : Int)) = false := by rw [inf_lo hd] at hlt; simp only [decide_eq_false_iff_not]; omega
        clear hlt
        have Hor := Lib.hid hor
        have Hbel := Lib.hid hbel
        clear hor hbel hbd
        have Hor2 := Lib.hid (Hor.out.alloc (.cells #[.int .i64 1] 3))
        have HC1 : Hid ((wr.alloc (.cells #[.int .i64 1] 3)).cell? ⟨wr.heap.size, 0, none⟩ = some (.int .i64 1)) := by
          show _ = _
          rw [cell_of_row _ _ _ _ _ _ (heap_alloc_new wr (.cells #[.int .i64 1] 3))]; rfl
        go_wp2_with (at_builtin; refine push_num _ rfl _ _ 36 rfl w.heap.size i0 Try.underlying36 hi hz0 hz1 hz2 _ _ m rfl Hor2.out (by omega) 1 _ _ rfl HC1.out (by simp <;> omega) ?_)
        intro g cap w2 own2 gr2 _
        have bel2 : Below w.heap.size w w2 := (Hbel.out.alloc hs _).grown gr2 (by simp; omega) (fun k hk => (Hor2.out.lt k hk).1)
        have own3 : w2.ownsRow w.heap.size 3 1 (.slice (some ⟨g, 0, none⟩) (m + 1) cap) (m + 1) (ns (iL d (m + 1))) := by rw [iL_succ, HI.out]; exact own2
        have Own3 := Lib.hid own3
        have Bel2 := Lib.hid bel2
        clear own2 gr2 own3 bel2
        go_wp2_with fail
        go_roundw
        case rel => exact ⟨m + 1, by go_num, Hall, Own3.out, Bel2.out⟩
        case measure => simp [intOf]; omega
      · have hge : decide ((m : Int) ≥ (d : Int)) = true := by simp only [decide_eq_true_eq]; omega
        obtain ⟨q, rfl⟩ : ∃ q, m = q + 1 := ⟨m - 1, by omega⟩
        have hsum := inf_hi h1 (t := q + 1) (by omega)
        rw [Nat.add_sub_cancel] at hsum
        obtain ⟨g0, cap0, rfl⟩ := own_apos hor (by omega)
        have c0 := hor.cellAt q (by omega)
        rw [ns_get _ q (by rw [iL_length]; omega), iL_get d (q + 1) q (by omega)] at c0
        have c1 := hor.cellAt (q + 1 - d) (by omega)
        rw [ns_get _ _ (by rw [iL_length]; omega), iL_get d (q + 1) _ (by omega)] at c1
        have hq1 : ((q + 1 : Nat) : Int) - 1 = (q : Int) := by omega
        have hqd : ((q + 1 : Nat) : Int) - (d : Int) = ((q + 1 - d : Nat) : Int) := by omega
        have hp0 : (0 : Int) ≤ (q : Int) := by omega
        have hp1 : (q : Int) < ((q + 1 : Nat) : Int) := by omega
        have hp2 : (0 : Int) ≤ ((q + 1 - d : Nat) : Int) := by omega
        have hp3 : ((q + 1 - d : Nat) : Int) < ((q + 1 : Nat) : Int) := by omega
        have b0 := hbd q (by omega)
        have b1 := hbd (q + 1 - d) (by omega)
        have es : ((inf d (q + 1) : Nat) : Int) = (inf d q : Int) + (inf d (q + 1 - d) : Int) := by rw [hsum]; push_cast; rfl
        obtain ⟨A, hA⟩ : ∃ A, inf d q = A := ⟨_, rfl⟩
        obtain ⟨B, hB⟩ : ∃ B, inf d (q + 1 - d) = B := ⟨_, rfl⟩
        rw [hA] at c0 b0 es
        rw [hB] at c1 b1 es
        have hsw : IntKind.i64.wrap ((A : Int) + (B : Int)) = (A : Int) + (B : Int) := IntWalk.i64_in _ (by omega)
        have hnp : decide ((A : Int) + (B : Int) ≥ (p : Int)) = false := by simp only [decide_eq_false_iff_not]; omega
        have HI := Lib.hid es
        clear hlt
        have Hor := Lib.hid hor
        have Hbel := Lib.hid hbel
        clear hor hbel hsum es hA hB hbd
        have Hor2 := Lib.hid (Hor.out.drew.alloc (.cells #[.int .i64 ((A : Int) + (B : Int))] 3))
        have HC1 : Hid ((wr.drew.alloc (.cells #[.int .i64 ((A : Int) + (B : Int))] 3)).cell? ⟨wr.heap.size, 0, none⟩ = some (.int .i64 ((A : Int) + (B : Int)))) := by
          show _ = _
          rw [show wr.heap.size = wr.drew.heap.size by simp, cell_of_row _ _ _ _ _ _ (heap_alloc_new wr.drew (.cells #[.int .i64 ((A : Int) + (B : Int))] 3))]; rfl
        go_wp2_with fail
        go_region
        all_goals
          go_wp2_with (at_builtin; refine push_num _ rfl _ _ 36 rfl w.heap.size i0 Try.underlying36 hi hz0 hz1 hz2 _ _ (q + 1) rfl Hor2.out (by omega) ((A : Int) + (B : Int)) _ _ rfl HC1.out (by simp <;> omega) ?_)
          intro g cap w2 own2 gr2 _
          have bel2 : Below w.heap.size w w2 := (Hbel.out.drew.alloc (by simp; omega) _).grown gr2 (by simp; omega) (fun k hk => (Hor2.out.lt k hk).1)
          have own3 : w2.ownsRow w.heap.size 3 1 (.slice (some ⟨g, 0, none⟩) (q + 1 + 1) cap) (q + 1 + 1) (ns (iL d (q + 1 + 1))) := by rw [iL_succ, HI.out]; exact own2
          have Own3 := Lib.hid own3
          have Bel2 := Lib.hid bel2
          clear own2 gr2 own3 bel2
          go_wp2_with fail
          go_roundw
          case rel => exact ⟨q + 1 + 1, by go_num, Hall, Own3.out, Bel2.out⟩
          case measure => simp [intOf]; omega

end Go.Proofs.Ytghfkgbmmkcjhaa
