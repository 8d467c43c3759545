/- The greatest of the arrivals. -/
import Derived.Test.YtghfkgbmmkcjhaaAv
namespace Go.Proofs.Ytghfkgbmmkcjhaa
open Go.ChangeShapes Go.WideShapes Go.ChangeAt Go.RowKit
set_option linter.unusedVariables false


/-- The greatest of the first k + 1. -/
def mxF (F : Int → Int) : Nat → Int
  | 0 => F 0
  | k + 1 => max (mxF F k) (F ((k + 1 : Nat) : Int))
/-- The greatest of 0 and the first k. -/
def mxS (F : Int → Int) : Nat → Int
  | 0 => 0
  | k + 1 => max (mxS F k) (F (k : Int))
theorem mxF_ge (F : Int → Int) (k i : Nat) (h : i ≤ k) : F i ≤ mxF F k := by
  induction k with
  | zero => obtain rfl : i = 0 := by omega
            exact Int.le_refl _
  | succ k ih =>
    show _ ≤ max (mxF F k) _
    by_cases e : i = k + 1
    · subst e; omega
    · have := ih (by omega); omega
theorem mxF_le (F : Int → Int) (c : Int) (k : Nat) (h : ∀ i : Nat, i ≤ k → F i ≤ c) : mxF F k ≤ c := by
  induction k with
  | zero => exact h 0 (Nat.le_refl _)
  | succ k ih =>
    show max (mxF F k) _ ≤ c
    have := ih fun i hi => h i (by omega)
    have := h (k + 1) (Nat.le_refl _)
    omega
theorem mxF_congr {F G : Int → Int} (k : Nat) (h : ∀ i : Nat, i ≤ k → F i = G i) : mxF F k = mxF G k := by
  induction k with
  | zero => exact h 0 (Nat.le_refl _)
  | succ k ih =>
    show max (mxF F k) _ = max (mxF G k) _
    rw [ih fun i hi => h i (by omega), h (k + 1) (Nat.le_refl _)]
theorem mxS_F (F : Int → Int) (k : Nat) (h : 0 ≤ F 0) : mxS F (k + 1) = mxF F k := by
  induction k with
  | zero => show max 0 (F ((0 : Nat) : Int)) = F 0; have : ((0 : Nat) : Int) = 0 := rfl; rw [this]; omega
  | succ k ih => show max (mxS F (k + 1)) _ = max (mxF F k) _; rw [ih]

def laB (d P : Int) (l : List Snd) : Bool := arsB d P l && (List.range P.toNat).all fun (i : Nat) => av d l i != -1
def laR (d P : Int) (l : List Snd) : Int := if laB d P l then mxS (fun x => av d l x) P.toNat else 0
theorem av_zero {d : Int} {P : Int} (h1 : 1 ≤ d) (h10 : d ≤ 10) {l : List Snd} (hv : ok1B P l = true) : 0 ≤ av d l 0 := by
  rcases fill_av h1 h10 hv 0 with ⟨e, e2⟩ | ⟨_, h, _⟩
  · exfalso
    have hd := ok1_to hv
    unfold av at e2
    cases hl : lk l 0 with
    | none => rw [hl] at e2; simp at e2
    | some t =>
      rw [hl] at e2
      obtain ⟨b, hb, _, rfl⟩ := lk_some hl
      have := sd_parts (ok1_sd hv hb)
      have h3 : b.at + d = -1 := e2
      omega
  · exact h
/-- What the last arrival is told by. -/
theorem la_yes {d : Int} {Q : Nat} {l : List Snd} (h : arsB d Q l = true) (F : Int → Int) (hF : ∀ x, F x = fillA d befA l x) :
    (laB d Q l = true ∧ laR d Q l = mxF F (Q - 1) ∧ ¬ mxF F (Q - 1) = 71) ∨ (laB d Q l = false ∧ laR d Q l = 0 ∧ mxF F (Q - 1) = 71) := by
  have hd : 1 ≤ d ∧ d ≤ 10 := by
    simp only [arsB, Bool.and_eq_true] at h
    obtain ⟨D, rfl, h1, h2⟩ := de_in h.1
    omega
  have hQ : 1 ≤ Q := by
    simp only [arsB, arB, Bool.and_eq_true] at h
    obtain ⟨Q', h1, h2, _⟩ := pe_in h.2.1
    omega
  have hv : ok1B Q l = true := by
    simp only [arsB, arB, Bool.and_eq_true] at h
    exact h.2.2.2.1
  obtain ⟨q, rfl⟩ : ∃ q, Q = q + 1 := ⟨Q - 1, by omega⟩
  rw [Nat.add_sub_cancel]
  cases hb : laB d ((q + 1 : Nat) : Int) l
  · right
    refine ⟨rfl, by unfold laR; rw [hb]; rfl, ?_⟩
    have : ∃ i : Nat, i < q + 1 ∧ av d l i = -1 := by
      simp only [laB, h, Bool.true_and, List.all_eq_false, List.mem_range, Int.toNat_natCast] at hb
      obtain ⟨i, hi, h2⟩ := hb
      exact ⟨i, hi, by simpa using h2⟩
    obtain ⟨i, hi, hiv⟩ := this
    have h71 : F i = 71 := by
      rw [hF]
      rcases fill_av hd.1 hd.2 hv (i : Int) with ⟨e, _⟩ | ⟨_, h0, _⟩
      · exact e
      · omega
    have g1 := mxF_ge F q i (by omega)
    have g2 := mxF_le F 71 q (fun j _ => by
      rw [hF]
      rcases fill_av hd.1 hd.2 hv (j : Int) with ⟨e, _⟩ | ⟨e, _, _⟩ <;> omega)
    omega
  · left
    have hno : ∀ i : Nat, i ≤ q → F i = av d l i ∧ av d l i ≤ 70 := by
      intro i hi
      simp only [laB, h, Bool.true_and, List.all_eq_true, List.mem_range, Int.toNat_natCast] at hb
      have := hb i (by omega)
      rw [hF]
      rcases fill_av hd.1 hd.2 hv (i : Int) with ⟨_, e⟩ | ⟨e, _, h3⟩
      · rw [e] at this; simp at this
      · exact ⟨e, h3⟩
    have e1 : mxF F q = mxF (fun x => av d l x) q := mxF_congr q fun i hi => (hno i hi).1
    have e2 := mxF_le F 70 q fun i hi => by have := hno i hi; omega
    refine ⟨rfl, ?_, by omega⟩
    rw [laR, hb, if_pos rfl, Int.toNat_natCast, mxS_F _ q (av_zero hd.1 hd.2 hv), e1]

set_option maxRecDepth 20000 in
theorem max_pos (g cap : Nat) (F : Int → Int) (n : Nat) (w : World) (hn0 : 1 ≤ n) (hn : n ≤ 1048576) (Hc : Hid (∀ i : Nat, i < n → w.cell? ⟨g, i, none⟩ = some (.int .i64 (F i)))) :
    Calls Try.prog 80 #[.slice (some ⟨g, 0, none⟩) n cap] w fun e w' => e = .returned (.int .i64 (mxF F (n - 1))) ∧ w = w' := by
  have c0 := Hc.out 0 (by omega)
  have hlt : decide ((n : Int) < 1) = false := by simp; omega
  have hp0 : (0 : Int) < (n : Int) := by omega
  go_enter Try.func80, Try.ntmps80
  go_wp2_with fail
  go_loop [3, 4] (fun m i => ∃ k : Nat, 1 ≤ k ∧ k ≤ n ∧ i = .int .i64 k ∧ m = .int .i64 (mxF F (k - 1))) (fun _ i => n - (intOf i).toNat)
  case atStart => exact ⟨1, Nat.le_refl _, hn0, rfl, rfl⟩
  case round =>
    obtain ⟨k, hk1, hk, rfl, rfl⟩ := hrel
    clear c0 hp0
    by_cases h : k < n
    · have hc := Hc.out k h
      have hp0 : (0 : Int) ≤ (k : Int) := by omega
      have hp1 : (k : Int) < (n : Int) := by omega
      obtain ⟨q, rfl⟩ : ∃ q, k = q + 1 := ⟨k - 1, by omega⟩
      have hmx : mxF F (q + 1) = max (mxF F q) (F ((q + 1 : Nat) : Int)) := rfl
      rw [Nat.add_sub_cancel]
      obtain ⟨x, hx⟩ : ∃ x, F ((q + 1 : Nat) : Int) = x := ⟨_, rfl⟩
      obtain ⟨y, hy⟩ : ∃ y, mxF F q = y := ⟨_, rfl⟩
      rw [hx] at hc hmx
      rw [hy] at hmx
      rw [hy]
      by_cases hle : x ≤ y
      · have hm : max y x = y := by omega
        rw [hm] at hmx
        have Hmx := Lib.hid hmx
        clear hmx
        go_wp2_with fail
        go_round
        case rel => exact ⟨q + 1 + 1, by omega, by omega, by go_num, by rw [Nat.add_sub_cancel, Hmx.out]⟩
        case measure => simp [intOf]; omega
      · have hm : max y x = x := by omega
        rw [hm] at hmx
        have Hmx := Lib.hid hmx
        clear hmx
        go_wp2_with fail
        go_round
        case rel => exact ⟨q + 1 + 1, by omega, by omega, by go_num, by rw [Nat.add_sub_cancel, Hmx.out]⟩
        case measure => simp [intOf]; omega
    · obtain rfl : k = n := by omega
      go_wp2_with fail
      go_ret
      exact ⟨rfl, rfl⟩

set_option maxRecDepth 20000 in
theorem last_any (F : Int → Int) (Q : Nat) (w : World) (h1 : 1 ≤ Q) (h40 : Q ≤ 40) :
    Calls Try.prog 68 #[.agg (AA F), .int .i64 (Q : Int)] w fun e w' => e = .returned (.int .i64 (mxF F (Q - 1))) ∧ Below w.heap.size w w' := by
  have hrow := heap_alloc_new w (.cells (AA F) 57)
  have HM := Lib.hid (max_pos w.heap.size 40 F Q (w.alloc (.cells (AA F) 57)) h1 (by omega) (Lib.hid (fun i hi => by rw [cell_of_row _ _ _ _ _ _ hrow, AA_get F i (by omega)])))
  have Hb := Lib.hid ((Below.refl w.heap.size w).alloc (Nat.le_refl _) (.cells (AA F) 57))
  have hq0 : (0 : Int) ≤ (Q : Int) := by omega
  have hq1 : (Q : Int) ≤ 40 := by omega
  clear hrow
  go_enter Try.func68, Try.ntmps68
  go_wp2_with fail
  refine HM.out.mono ?_
  rintro e w' ⟨rfl, rfl⟩
  go_wp2_with fail
  go_ret
  exact ⟨rfl, Hb.out⟩

end Go.Proofs.Ytghfkgbmmkcjhaa
