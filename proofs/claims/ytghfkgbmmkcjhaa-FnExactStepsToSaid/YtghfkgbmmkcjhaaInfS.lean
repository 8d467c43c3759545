/- How many know the news: the model. -/
import Derived.Test.YtghfkgbmmkcjhaaInf
namespace Go.Proofs.Ytghfkgbmmkcjhaa
open Go.ChangeShapes Go.WideShapes Go.ChangeAt Go.RowKit
set_option linter.unusedVariables false


theorem ns_append_one (l : List Int) (x : Int) : ns (l ++ [x]) = ns l ++ [.int .i64 x] := by simp [ns]

/-- One number more. -/
theorem push_num {P : Program} (w : World) {ops : Array Oper} {rest : List Oper} {o : Oper} {a : Act} {Q : Exit → Act → World → Prop} (hgd : o.guard = none) (s x : Operand) (t : TypeId)
    (ho : o.op = .call { callee := .builtin .append, args := #[s, x], argTypes := #[t, t] })
    (base : Nat) (i : TypeInfo) (ht : P.underlying t = some (.slice 3)) (hi : P.info? 3 = some i) (hz : i.zero = some (.int .i64 0))
    (hsize : i.size = 1) (hby : i.bytes = 8)
    (v : Value) (l : List Int) (k : Nat) (hs : a.eval s = v) (hown : w.ownsRow base 3 1 v k (ns l)) (hsml : k ≤ 100000000)
    (r : Int) (c : Nat) (ad : Nat) (hx : a.eval x = .slice (some ⟨ad, 0, none⟩) 1 c) (had : w.cell? ⟨ad, 0, none⟩ = some (.int .i64 r)) (hbase : base ≤ w.heap.size)
    (h : ∀ g cap w', w'.ownsRow base 3 1 (.slice (some ⟨g, 0, none⟩) (k + 1) cap) (k + 1) (ns (l ++ [r])) → w.grownBy w' v.ownBlock → (v.ownBlock = some g ∨ g = w.heap.size) → wpList P ops Q rest (a.put o.dst (.slice (some ⟨g, 0, none⟩) (k + 1) cap)) w') : wpList P ops Q (o :: rest) a w := by
  refine wpList_append_lies w hgd s x t ho base 3 i (.int .i64 0) 1 8 ht hi hz hsize hby rfl (by decide) v k (ns l) hs hown ⟨ad, 0, none⟩ 1 c [.int .i64 r] hx rfl ?_ ?_ (by omega) (by unfold maxLen; omega) (by omega) hbase w.heap.size rfl ?_
  · intro j u hu
    cases j with
    | zero => simp at hu; subst hu; exact had
    | succ j => simp at hu
  · intro u hu
    simp at hu
    subst hu
    rfl
  · intro g cap w' hown' hgr hat _
    exact h g cap w' (by rw [ns_append_one]; exact hown') hgr hat

set_option maxHeartbeats 1600000 in
set_option maxRecDepth 20000 in
/-- deInformed, as long as nothing is too large. -/
theorem deInformed_any (w : World) (d M : Nat) (h1 : 1 ≤ d) (h10 : d ≤ 10) (hM : M ≤ 60) :
    Calls Try.prog 52 #[.int .i64 (d : Int), .int .i64 (M : Int)] w fun e w' => ∃ g cap, e = .returned (.slice (some ⟨g, 0, none⟩) (M + 1) cap) ∧ w'.ownsRow w.heap.size 3 1 (.slice (some ⟨g, 0, none⟩) (M + 1) cap) (M + 1) (ns (iL d (M + 1))) ∧ Below w.heap.size w w' := by
  obtain ⟨i0, hi, hz0, hz1, hz2⟩ := info_parts info3
  have HB : Hid (∀ j, j ≤ M → inf d j ≤ 2305843009213693952) := fun j hj => Nat.le_trans (inf_pow h1 j) (pow61 (by omega))
  go_enter Try.func52, Try.ntmps52
  go_wp2_with fail
  go_loopw [5, 6] (fun v i wr => ∃ (m : Nat), m ≤ M + 1 ∧ i = .int .i64 m ∧ wr.ownsRow w.heap.size 3 1 v m (ns (iL d m)) ∧ Below w.heap.size w wr) (fun _ i _ => M + 1 - (intOf i).toNat)
  case atStart => exact ⟨0, by omega, rfl, World.ownsRow_nil _ _ _ _, Below.refl _ _⟩
  case round =>
    obtain ⟨m, hm, rfl, hor, hbel⟩ := hrel
    by_cases hlt : m ≤ M
    · have hle : decide ((m : Int) ≤ (M : Int)) = true := by simp only [decide_eq_true_eq]; omega
      have hs := hbel.size
      by_cases hd : m < d
      · have hge : decide ((m : Int) ≥ (d : Int)) = false := by simp only [decide_eq_false_iff_not]; omega
        have HI := Lib.hid (inf_lo hd)
        have Hor := Lib.hid hor
        have Hbel := Lib.hid hbel
        clear hor hbel
        have Hor2 := Lib.hid (Hor.out.alloc (.cells #[.int .i64 1] 3))
        have HC1 : Hid ((wr.alloc (.cells #[.int .i64 1] 3)).cell? ⟨wr.heap.size, 0, none⟩ = some (.int .i64 1)) := by
          show _ = _
          rw [cell_of_row _ _ _ _ _ _ (heap_alloc_new wr (.cells #[.int .i64 1] 3))]; rfl
        go_wp2_with (at_builtin; refine push_num _ rfl _ _ 36 rfl w.heap.size i0 Try.underlying36 hi hz0 hz1 hz2 _ _ m rfl Hor2.out (by omega) 1 _ _ rfl HC1.out (by simp; omega) ?_)
        intro g cap w2 own2 gr2 _
        have bel2 : Below w.heap.size w w2 := (Hbel.out.alloc hs _).grown gr2 (by simp; omega) (fun k hk => (Hor2.out.lt k hk).1)
        have own3 : w2.ownsRow w.heap.size 3 1 (.slice (some ⟨g, 0, none⟩) (m + 1) cap) (m + 1) (ns (iL d (m + 1))) := by rw [iL_succ, HI.out]; exact own2
        have Own3 := Lib.hid own3
        have Bel2 := Lib.hid bel2
        clear own2 gr2 own3 bel2
        go_wp2_with fail
        go_roundw
        case rel => exact ⟨m + 1, by omega, by go_num, Own3.out, Bel2.out⟩
        case measure => simp [intOf]; omega
      · have hge : decide ((m : Int) ≥ (d : Int)) = true := by simp only [decide_eq_true_eq]; omega
        obtain ⟨q, rfl⟩ : ∃ q, m = q + 1 := ⟨m - 1, by omega⟩
        have hsum := inf_hi h1 (t := q + 1) (by omega)
        rw [Nat.add_sub_cancel] at hsum
        obtain ⟨g0, cap0, rfl⟩ := own_apos hor (by omega)
        have c0 := hor.cellAt q (by omega)
        rw [ns_get _ q (by rw [iL_length]; omega), iL_get d (q + 1) q (by omega)] at c0
        have c1 := hor.cellAt (q + 1 - d) (by omega)
        rw [ns_get _ _ (by rw [iL_length]; omega), iL_get d (q + 1) _ (by omega)] at c1
        have hq1 : ((q + 1 : Nat) : Int) - 1 = (q : Int) := by omega
        have hqd : ((q + 1 : Nat) : Int) - (d : Int) = ((q + 1 - d : Nat) : Int) := by omega
        have hp0 : (0 : Int) ≤ (q : Int) := by omega
        have hp1 : (q : Int) < ((q + 1 : Nat) : Int) := by omega
        have hp2 : (0 : Int) ≤ ((q + 1 - d : Nat) : Int) := by omega
        have hp3 : ((q + 1 - d : Nat) : Int) < ((q + 1 : Nat) : Int) := by omega
        have b0 := HB.out q (by omega)
        have b1 := HB.out (q + 1 - d) (by omega)
        have es : ((inf d (q + 1) : Nat) : Int) = (inf d q : Int) + (inf d (q + 1 - d) : Int) := by rw [hsum]; push_cast; rfl
        obtain ⟨A, hA⟩ : ∃ A, inf d q = A := ⟨_, rfl⟩
        obtain ⟨B, hB⟩ : ∃ B, inf d (q + 1 - d) = B := ⟨_, rfl⟩
        rw [hA] at c0 b0 es
        rw [hB] at c1 b1 es
        have hsw : IntKind.i64.wrap ((A : Int) + (B : Int)) = (A : Int) + (B : Int) := IntWalk.i64_in _ (by omega)
        have HI := Lib.hid es
        have Hor := Lib.hid hor
        have Hbel := Lib.hid hbel
        clear hor hbel hsum es hA hB
        have Hor2 := Lib.hid (Hor.out.drew.alloc (.cells #[.int .i64 ((A : Int) + (B : Int))] 3))
        have HC1 : Hid ((wr.drew.alloc (.cells #[.int .i64 ((A : Int) + (B : Int))] 3)).cell? ⟨wr.heap.size, 0, none⟩ = some (.int .i64 ((A : Int) + (B : Int)))) := by
          show _ = _
          rw [show wr.heap.size = wr.drew.heap.size by simp, cell_of_row _ _ _ _ _ _ (heap_alloc_new wr.drew (.cells #[.int .i64 ((A : Int) + (B : Int))] 3))]; rfl
        go_wp2_with fail
        go_region
        all_goals
          go_wp2_with (at_builtin; refine push_num _ rfl _ _ 36 rfl w.heap.size i0 Try.underlying36 hi hz0 hz1 hz2 _ _ (q + 1) rfl Hor2.out (by omega) ((A : Int) + (B : Int)) _ _ rfl HC1.out (by simp; omega) ?_)
          intro g cap w2 own2 gr2 _
          have bel2 : Below w.heap.size w w2 := (Hbel.out.drew.alloc (by simp; omega) _).grown gr2 (by simp; omega) (fun k hk => (Hor2.out.lt k hk).1)
          have own3 : w2.ownsRow w.heap.size 3 1 (.slice (some ⟨g, 0, none⟩) (q + 1 + 1) cap) (q + 1 + 1) (ns (iL d (q + 1 + 1))) := by rw [iL_succ, HI.out]; exact own2
          have Own3 := Lib.hid own3
          have Bel2 := Lib.hid bel2
          clear own2 gr2 own3 bel2
          go_wp2_with fail
          go_roundw
          case rel => exact ⟨q + 1 + 1, by omega, by go_num, Own3.out, Bel2.out⟩
          case measure => simp [intOf]; omega
    · obtain rfl : m = M + 1 := by omega
      obtain ⟨g0, cap0, rfl⟩ := own_apos hor (by omega)
      have hle : decide (((M + 1 : Nat) : Int) ≤ (M : Int)) = false := by simp only [decide_eq_false_iff_not]; omega
      have Hor := Lib.hid hor
      clear hor
      go_wp2_with fail
      go_ret
      exact ⟨g0, cap0, rfl, Hor.out, hbel⟩

end Go.Proofs.Ytghfkgbmmkcjhaa
