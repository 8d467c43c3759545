/- slices.Min and Max; liars of each cast. -/
import Derived.Test.YtaangjidkkpogaaLr
import Derived.Test.YtaangjidkkpogaaInts
import Derived.Shelf.Abstract
namespace Go.Proofs.Ytaangjidkkpogaa
open Go.ChangeShapes Go.WideShapes Go.ChangeAt Go.RowKit
set_option linter.unusedVariables false


def op2 (mx : Bool) (a b : Int) : Int := if mx then max a b else min a b
def foF (mx : Bool) (F : Int → Int) : Nat → Int
  | 0 => F 0
  | k + 1 => op2 mx (foF mx F k) (F ((k + 1 : Nat) : Int))
def foS (mx : Bool) (a : Int) (F : Int → Int) : Nat → Int
  | 0 => a
  | k + 1 => op2 mx (foS mx a F k) (F (k : Int))
theorem foS_F (mx : Bool) (a : Int) (F : Int → Int) (h : op2 mx a (F 0) = F 0) : ∀ k, foS mx a F (k + 1) = foF mx F k
  | 0 => h
  | k + 1 => by
    have := foS_F mx a F h k
    show op2 mx (foS mx a F (k + 1)) (F ((k + 1 : Nat) : Int)) = op2 mx (foF mx F k) (F ((k + 1 : Nat) : Int))
    rw [this]
theorem foF_in (mx : Bool) (F : Int → Int) (B : Int) (k : Nat) (h : ∀ i : Nat, i ≤ k → 0 ≤ F i ∧ F i ≤ B) : 0 ≤ foF mx F k ∧ foF mx F k ≤ B := by
  induction k with
  | zero => exact h 0 (Nat.le_refl _)
  | succ k ih =>
    have h1 := ih (fun i hi => h i (by omega))
    have h2 := h (k + 1) (Nat.le_refl _)
    unfold foF op2
    generalize F ((k + 1 : Nat) : Int) = x at h2 ⊢
    cases mx
    · show 0 ≤ min _ _ ∧ min _ _ ≤ B; omega
    · show 0 ≤ max _ _ ∧ max _ _ ≤ B; omega
/-- How many liars the k-th cast has. -/
def LF (L : List (List Bool)) (k : Int) : Int := (lrs (L.getD k.toNat []) : Nat)
theorem LF_at (L : List (List Bool)) (k : Nat) (h : k < L.length) : LF L (k : Int) = (lrs L[k] : Nat) := by
  unfold LF
  rw [Int.toNat_natCast, List.getD_eq_getElem?_getD, List.getElem?_eq_getElem h]
  rfl
def lfs (L : List (List Bool)) : List Int := L.map fun c => ((lrs c : Nat) : Int)
theorem lfs_len (L : List (List Bool)) : (lfs L).length = L.length := by simp [lfs]
theorem lfs_at (L : List (List Bool)) (k : Nat) (h : k < L.length) : na (lfs L) k = LF L (k : Int) := by
  rw [LF_at L k h]
  simp [na, lfs, List.getD_eq_getElem?_getD, h]

theorem min_pos (g cap : Nat) (F : Int → Int) (n : Nat) (w : World) (hn0 : 1 ≤ n) (hn : n ≤ 1048576) (Hc : Hid (∀ i : Nat, i < n → w.cell? ⟨g, i, none⟩ = some (.int .i64 (F i)))) :
    Calls Try.prog 55 #[.slice (some ⟨g, 0, none⟩) n cap] w fun e w' => e = .returned (.int .i64 (foF false F (n - 1))) ∧ w = w' := by
  have c0 := Hc.out 0 (by omega)
  have hlt : decide ((n : Int) < 1) = false := by simp; omega
  have hp0 : (0 : Int) < (n : Int) := by omega
  go_enter Try.func55, Try.ntmps55
  go_wp2_with fail
  go_loop [3, 4] (fun m i => ∃ k : Nat, 1 ≤ k ∧ k ≤ n ∧ i = .int .i64 k ∧ m = .int .i64 (foF false F (k - 1))) (fun _ i => n - (intOf i).toNat)
  case atStart => exact ⟨1, Nat.le_refl _, hn0, rfl, rfl⟩
  case round =>
    obtain ⟨k, hk1, hk, rfl, rfl⟩ := hrel
    clear c0 hp0
    by_cases h : k < n
    · have hc := Hc.out k h
      have hp0 : (0 : Int) ≤ (k : Int) := by omega
      have hp1 : (k : Int) < (n : Int) := by omega
      obtain ⟨q, rfl⟩ : ∃ q, k = q + 1 := ⟨k - 1, by omega⟩
      have hmx : foF false F (q + 1) = op2 false (foF false F q) (F ((q + 1 : Nat) : Int)) := rfl
      rw [Nat.add_sub_cancel]
      obtain ⟨x, hx⟩ : ∃ x, F ((q + 1 : Nat) : Int) = x := ⟨_, rfl⟩
      obtain ⟨y, hy⟩ : ∃ y, foF false F q = y := ⟨_, rfl⟩
      rw [hx] at hc hmx
      rw [hy] at hmx
      rw [hy]
      by_cases hle : y ≤ x
      · have hm : op2 false y x = y := by unfold op2; simp; omega
        rw [hm] at hmx
        have Hmx := Lib.hid hmx
        clear hmx
        go_wp2_with fail
        go_round
        case rel => exact ⟨q + 1 + 1, by omega, by omega, by go_num, by rw [Nat.add_sub_cancel, Hmx.out] <;> (congr 1 <;> omega)⟩
        case measure => simp [intOf]; omega
      · have hm : op2 false y x = x := by unfold op2; simp; omega
        rw [hm] at hmx
        have Hmx := Lib.hid hmx
        clear hmx
        go_wp2_with fail
        go_round
        case rel => exact ⟨q + 1 + 1, by omega, by omega, by go_num, by rw [Nat.add_sub_cancel, Hmx.out] <;> (congr 1 <;> omega)⟩
        case measure => simp [intOf]; omega
    · obtain rfl : k = n := by omega
      go_wp2_with fail
      go_ret
      exact ⟨rfl, rfl⟩

theorem max_pos (g cap : Nat) (F : Int → Int) (n : Nat) (w : World) (hn0 : 1 ≤ n) (hn : n ≤ 1048576) (Hc : Hid (∀ i : Nat, i < n → w.cell? ⟨g, i, none⟩ = some (.int .i64 (F i)))) :
    Calls Try.prog 59 #[.slice (some ⟨g, 0, none⟩) n cap] w fun e w' => e = .returned (.int .i64 (foF true F (n - 1))) ∧ w = w' := by
  have c0 := Hc.out 0 (by omega)
  have hlt : decide ((n : Int) < 1) = false := by simp; omega
  have hp0 : (0 : Int) < (n : Int) := by omega
  go_enter Try.func59, Try.ntmps59
  go_wp2_with fail
  go_loop [3, 4] (fun m i => ∃ k : Nat, 1 ≤ k ∧ k ≤ n ∧ i = .int .i64 k ∧ m = .int .i64 (foF true F (k - 1))) (fun _ i => n - (intOf i).toNat)
  case atStart => exact ⟨1, Nat.le_refl _, hn0, rfl, rfl⟩
  case round =>
    obtain ⟨k, hk1, hk, rfl, rfl⟩ := hrel
    clear c0 hp0
    by_cases h : k < n
    · have hc := Hc.out k h
      have hp0 : (0 : Int) ≤ (k : Int) := by omega
      have hp1 : (k : Int) < (n : Int) := by omega
      obtain ⟨q, rfl⟩ : ∃ q, k = q + 1 := ⟨k - 1, by omega⟩
      have hmx : foF true F (q + 1) = op2 true (foF true F q) (F ((q + 1 : Nat) : Int)) := rfl
      rw [Nat.add_sub_cancel]
      obtain ⟨x, hx⟩ : ∃ x, F ((q + 1 : Nat) : Int) = x := ⟨_, rfl⟩
      obtain ⟨y, hy⟩ : ∃ y, foF true F q = y := ⟨_, rfl⟩
      rw [hx] at hc hmx
      rw [hy] at hmx
      rw [hy]
      by_cases hle : x ≤ y
      · have hm : op2 true y x = y := by unfold op2; simp; omega
        rw [hm] at hmx
        have Hmx := Lib.hid hmx
        clear hmx
        go_wp2_with fail
        go_round
        case rel => exact ⟨q + 1 + 1, by omega, by omega, by go_num, by rw [Nat.add_sub_cancel, Hmx.out] <;> (congr 1 <;> omega)⟩
        case measure => simp [intOf]; omega
      · have hm : op2 true y x = x := by unfold op2; simp; omega
        rw [hm] at hmx
        have Hmx := Lib.hid hmx
        clear hmx
        go_wp2_with fail
        go_round
        case rel => exact ⟨q + 1 + 1, by omega, by omega, by go_num, by rw [Nat.add_sub_cancel, Hmx.out] <;> (congr 1 <;> omega)⟩
        case measure => simp [intOf]; omega
    · obtain rfl : k = n := by omega
      go_wp2_with fail
      go_ret
      exact ⟨rfl, rfl⟩

theorem l1Least_any (x y : Int) (w : World) : Calls Try.prog 53 #[.int .i64 x, .int .i64 y] w fun e w' => e = .returned (.int .i64 (op2 false x y)) ∧ w = w' := by
  by_cases h : x < y
  · have hR : op2 false x y = x := by unfold op2; simp; omega
    rw [hR]
    go_enter Try.func53, Try.ntmps53
    go_wp2
    go_ret
    exact ⟨rfl, rfl⟩
  · have hR : op2 false x y = y := by unfold op2; simp; omega
    rw [hR]
    go_enter Try.func53, Try.ntmps53
    go_wp2
    go_ret
    exact ⟨rfl, rfl⟩

theorem l1Most_any (x y : Int) (w : World) : Calls Try.prog 58 #[.int .i64 x, .int .i64 y] w fun e w' => e = .returned (.int .i64 (op2 true x y)) ∧ w = w' := by
  by_cases h : y < x
  · have hR : op2 true x y = x := by unfold op2; simp; omega
    rw [hR]
    go_enter Try.func58, Try.ntmps58
    go_wp2
    go_ret
    exact ⟨rfl, rfl⟩
  · have hR : op2 true x y = y := by unfold op2; simp; omega
    rw [hR]
    go_enter Try.func58, Try.ntmps58
    go_wp2
    go_ret
    exact ⟨rfl, rfl⟩

set_option maxRecDepth 20000 in
theorem ofInt_any (w : World) (g cap N : Nat) (L : List (List Bool)) (HN : Hid (N = L.length)) (hN : N ≤ 256) (hcap : N ≤ cap) (hN1 : 1 ≤ N) (HL : Hid (∀ c ∈ L, c.length ≤ 100)) (HC : Hid (∀ j, (hj : j < L.length) → w.cell? ⟨g, j, none⟩ = some (.string (cbs L[j])))) :
    Calls Try.prog 56 #[.slice (some ⟨g, 0, none⟩) N cap, .func (.func 57) #[] #[]] w fun e w' => ∃ g2 cap2, e = .returned (.slice (some ⟨g2, 0, none⟩) N cap2) ∧ w'.ownsRow w.heap.size 3 1 (.slice (some ⟨g2, 0, none⟩) N cap2) N (ns (lfs L)) ∧ Below w.heap.size w w' := by
  obtain ⟨i0, hi, hz0, hz1, hz2⟩ := info_parts info3
  have Hz := Lib.hid (And.intro hz0 (And.intro hz1 hz2))
  have hb : g < w.heap.size := World.block_lt_of_cell? w _ (HC.out 0 (by rw [← HN.out]; omega))
  have e57 : ∀ args w, (callFunc 57 args).run Try.prog w = .ok (.enter 57 args) w := enters_of Try.func57 (by kernel_rfl) rfl
  clear hz0 hz1 hz2
  go_enter Try.func56, Try.ntmps56
  go_wp2_with (refine wpList_make_full _ rfl _ _ 39 rfl w.heap.size 3 i0 (.int .i64 0) 1 Try.underlying39 hi Hz.out.1 Hz.out.2.1 .i64 .i64 _ _ N rfl rfl rfl rfl ?_ ?_ ?_ ?_)
  · rw [Hz.out.2.2]; omega
  · unfold maxLen; omega
  · exact Nat.le_refl _
  intro w1 hown hgr
  have Hown0 : Hid (w1.ownsRow w.heap.size 3 1 (.slice (some ⟨w.heap.size, 0, none⟩) N N) N (ns (npart (lfs L) 0))) := Lib.hid (by have hz := zero_nums N; rw [Nat.mul_one] at hz; rw [npart_zero, lfs_len, ← HN.out, ← hz]; exact hown)
  have Hgr := Lib.hid ((Below.refl w.heap.size w).grown hgr (Nat.le_refl _) (fun _ h => by cases h))
  clear hown hgr
  go_wp2_with fail
  go_loopw [13] (fun i wr => ∃ k : Nat, k ≤ N ∧ i = .int .i64 k ∧ wr.ownsRow w.heap.size 3 1 (.slice (some ⟨w.heap.size, 0, none⟩) N N) N (ns (npart (lfs L) k)) ∧ Below w.heap.size w wr) (fun i _ => N - (intOf i).toNat)
  case atStart => exact ⟨0, Nat.zero_le _, rfl, Hown0.out, Hgr.out⟩
  case round =>
    obtain ⟨k, hk, rfl, hor, hbel⟩ := hrel
    by_cases hlt : k < N
    · have hkl : k < L.length := by rw [← HN.out]; exact hlt
      have hc := (hbel.cell (p := ⟨g, k, none⟩) hb).trans (HC.out k hkl)
      obtain ⟨u0, z0⟩ := own_some hor k (by omega)
      have zf0 := hor.frozenAt k
      have hor3 := (hor.stored k (.int .i64 (na (lfs L) k))).1
      rw [ns_set, npart_set (lfs L) k (by rw [lfs_len]; exact hkl)] at hor3
      have Hor3 := Lib.hid hor3
      have HV := Lib.hid (liars_any L[k] wr)
      have hv : (lrs L[k] : Nat) = na (lfs L) k := by rw [lfs_at L k hkl, LF_at L k hkl]
      rw [hv] at HV
      obtain ⟨z, hzz⟩ : ∃ z, na (lfs L) k = z := ⟨_, rfl⟩
      rw [hzz] at HV Hor3
      generalize cbs L[k] = s at hc HV
      have Hbel := Lib.hid hbel
      clear hor3 hor hbel hv hzz
      go_wp2_with (go_at_fn 57; refine HV.out.mono ?_; rintro e w' ⟨rfl, rfl⟩)
      go_roundw
      case rel => exact ⟨k + 1, by omega, by go_num, Hor3.out, Hbel.out.setCell (Nat.le_refl _) _⟩
      case measure => simp [intOf]; omega
    · have hk' : k = N := by omega
      have hp : npart (lfs L) k = lfs L := by rw [hk', HN.out, ← lfs_len, npart_all]
      rw [hp] at hor
      have Hor := Lib.hid hor
      clear hor hp hk'
      go_wp2
      go_ret
      exact ⟨w.heap.size, N, rfl, Hor.out, hbel⟩

end Go.Proofs.Ytaangjidkkpogaa
