/- Tests of wires: what they are, the model and the program. -/
import Derived.Test.YtnhkabhchepieaaDoorRowsI
namespace Go.Proofs.YtnhkabhchepieaaDoor
open Go.ChangeShapes Go.WideShapes Go.ChangeAt Go.RowKit
set_option linter.unusedVariables false


/-- The i-th wire is one of the cable's and greater than the one before it. -/
def up (f : Int) (l : List Int) (i : Nat) : Bool := decide (0 ≤ na l i ∧ na l i ≤ f - 1) && (i == 0 || decide (na l (i - 1) < na l i))
/-- A growing list of wires. -/
def risB (f : Int) (l : List Int) : Bool := (List.range l.length).all (up f l)
def wfB (f : Int) : Bool := decide (1 ≤ f ∧ f ≤ 10)
def tstB (f : Int) (l : List Int) : Bool := decide (l.length ≠ 0) && risB f l
/-- Tests of so many wires. -/
def wiB (f : Int) (L : List (List Int)) : Bool := wfB f && (decide (L.length ≤ 12) && (List.range L.length).all fun i => tstB f (row L i))

theorem ris_yes {f : Int} {l : List Int} (h : ∀ j, j < l.length → up f l j = true) : risB f l = true := by
  unfold risB; rw [List.all_eq_true]; exact fun j hj => h j (List.mem_range.1 hj)
theorem ris_no {f : Int} {l : List Int} {j : Nat} (hj : j < l.length) (h : up f l j = false) : risB f l = false := by
  unfold risB; rw [List.all_eq_false]; exact ⟨j, List.mem_range.2 hj, by rw [h]; simp⟩
theorem ris_at {f : Int} {l : List Int} (h : risB f l = true) {j : Nat} (hj : j < l.length) : up f l j = true := by
  unfold risB at h; rw [List.all_eq_true] at h; exact h j (List.mem_range.2 hj)
theorem up_parts {f : Int} {l : List Int} {j : Nat} (h : up f l j = true) : 0 ≤ na l j ∧ na l j < f ∧ (0 < j → na l (j - 1) < na l j) := by
  simp only [up, Bool.and_eq_true, decide_eq_true_eq, Bool.or_eq_true, beq_iff_eq] at h
  exact ⟨h.1.1, by omega, fun h0 => by rcases h.2 with h1 | h1; omega; exact h1⟩
theorem ris_ge {f : Int} {l : List Int} (h : risB f l = true) : ∀ k, k < l.length → (k : Int) ≤ na l k
  | 0, hk => (up_parts (ris_at h hk)).1
  | k + 1, hk => by
    have h1 := ris_ge h k (by omega)
    have h2 := (up_parts (ris_at h hk)).2.2 (by omega)
    simp only [Nat.add_sub_cancel] at h2
    omega
theorem ris_len {f : Int} {l : List Int} (hf : f ≤ 10) (h : risB f l = true) : l.length ≤ 10 := by
  by_cases h0 : l.length = 0
  · omega
  · have h1 := ris_ge h (l.length - 1) (by omega)
    have h2 := up_parts (ris_at h (j := l.length - 1) (by omega))
    omega
theorem wi_parts {f : Int} {L : List (List Int)} (h : wiB f L = true) : (1 ≤ f ∧ f ≤ 10) ∧ L.length ≤ 12 ∧ ∀ i, i < L.length → tstB f (row L i) = true := by
  simp only [wiB, wfB, Bool.and_eq_true, decide_eq_true_eq, List.all_eq_true, List.mem_range] at h
  exact ⟨h.1, h.2.1, h.2.2⟩
theorem wi_row {f : Int} {L : List (List Int)} (h : wiB f L = true) {i : Nat} (hi : i < L.length) : risB f (row L i) = true ∧ 0 < (row L i).length ∧ (row L i).length ≤ 10 := by
  have h1 := wi_parts h
  have h2 := h1.2.2 i hi
  simp only [tstB, Bool.and_eq_true, decide_eq_true_eq] at h2
  exact ⟨h2.2, by omega, ris_len h1.1.2 h2.2⟩
theorem wi_no {f : Int} {L : List (List Int)} {j : Nat} (hj : j < L.length) (h : tstB f (row L j) = false) : wiB f L = false := by
  have : (List.range L.length).all (fun i => tstB f (row L i)) = false := by
    rw [List.all_eq_false]; exact ⟨j, List.mem_range.2 hj, by rw [h]; simp⟩
  simp [wiB, this]
theorem wi_yes {f : Int} {L : List (List Int)} (hf : wfB f = true) (hL : L.length ≤ 12) (h : ∀ j, j < L.length → tstB f (row L j) = true) : wiB f L = true := by
  have : (List.range L.length).all (fun i => tstB f (row L i)) = true := by
    rw [List.all_eq_true]; exact fun j hj => h j (List.mem_range.1 hj)
  simp [wiB, this, hf, hL]

/-- The least that the k-th wire can be. -/
def lst (l : List Int) (k : Nat) : Int := if k = 0 then 0 else na l (k - 1) + 1
theorem lst_zero (l : List Int) : lst l 0 = 0 := rfl
theorem lst_succ (l : List Int) (k : Nat) : lst l (k + 1) = na l k + 1 := rfl
theorem lst_up {f : Int} {l : List Int} {k : Nat} (h : ∀ j, j < k → up f l j = true) : up f l k = !(decide (na l k < lst l k) || decide (f ≤ na l k)) := by
  rw [Bool.eq_iff_iff]
  simp only [up, Bool.and_eq_true, decide_eq_true_eq, Bool.or_eq_true, beq_iff_eq, Bool.not_eq_true', Bool.or_eq_false_iff, decide_eq_false_iff_not]
  cases k with
  | zero => simp [lst]; omega
  | succ k =>
    have h1 := up_parts (h k (by omega))
    simp only [lst_succ, Nat.add_sub_cancel]
    constructor
    · intro h2; omega
    · intro h2; omega


theorem l1In_any (x lo hi : Int) (w : World) : Calls Tryd.prog 66 #[.int .i64 x, .int .i64 lo, .int .i64 hi] w fun e w' => e = .returned (.bool (decide (lo ≤ x ∧ x ≤ hi))) ∧ w = w' := by
  by_cases h1 : lo ≤ x
  · by_cases h2 : x ≤ hi
    · rw [show decide (lo ≤ x ∧ x ≤ hi) = true by simp [h1, h2]]
      go_enter Tryd.func66, Tryd.ntmps66
      go_wp2
      go_ret
      exact ⟨by first | rfl | (simp; done) | (simp; omega), rfl⟩
    · rw [show decide (lo ≤ x ∧ x ≤ hi) = false by simp [h2]]
      have hd : decide (x ≤ hi) = false := by simpa using h2
      go_enter Tryd.func66, Tryd.ntmps66
      go_wp2
      go_ret
      exact ⟨by first | rfl | (simp; done) | (simp; omega), rfl⟩
  · rw [show decide (lo ≤ x ∧ x ≤ hi) = false by simp [h1]]
    have hd : decide (lo ≤ x) = false := by simpa using h1
    go_enter Tryd.func66, Tryd.ntmps66
    go_wp2
    go_ret
    exact ⟨rfl, rfl⟩

theorem l1Rising_zero (ao : Option Addr) (cap : Nat) (hi : Int) (w : World) :
    Calls Tryd.prog 60 #[.slice ao 0 cap, .int .i64 0, .int .i64 hi] w fun e w' => e = .returned (.bool true) ∧ w = w' := by
  go_enter Tryd.func60, Tryd.ntmps60
  go_wp2_with fail
  go_rounds 1
  go_ret
  exact ⟨rfl, rfl⟩

theorem l1Rising_pos (b off cap : Nat) (f : Int) (l : List Int) (n : Nat) (w : World) (Hn : Hid (n = l.length)) (hn : n ≤ 1048576) (hi : Int) (hhi : hi = f - 1)
    (Hc : Hid (∀ i, i < n → w.cell? ⟨b, off + i, none⟩ = some (.int .i64 (na l i)))) :
    Calls Tryd.prog 60 #[.slice (some ⟨b, off, none⟩) n cap, .int .i64 0, .int .i64 hi] w fun e w' => e = .returned (.bool (risB f l)) ∧ w = w' := by
  have Hhi := Lib.hid hhi
  clear hhi
  go_enter Tryd.func60, Tryd.ntmps60
  go_wp2_with fail
  go_loopw [11] (fun i wr => ∃ k : Nat, k ≤ n ∧ i = .int .i64 k ∧ Hid (∀ j, j < k → up f l j = true) ∧ w = wr) (fun i _ => n - (intOf i).toNat)
  case atStart => exact ⟨0, Nat.zero_le _, rfl, fun j hj => absurd hj (by omega), rfl⟩
  case round =>
    obtain ⟨k, hk, rfl, hall, rfl⟩ := hrel
    by_cases hlt : k < n
    · have h0 := Hc.out k hlt
      cases hu : up f l k
      · have Hno := Lib.hid (ris_no (by rw [← Hn.out]; exact hlt) hu)
        by_cases hin : 0 ≤ na l k ∧ na l k ≤ hi
        · have hgt : decide (0 ≤ na l k ∧ na l k ≤ hi) = true := by simpa only [decide_eq_true_eq] using hin
          obtain ⟨j, rfl⟩ : ∃ j, k = j + 1 := ⟨k - 1, by
            cases k with
            | zero => exfalso; have e := Hhi.out; rw [up] at hu; simp only [beq_self_eq_true, Bool.true_or, Bool.and_true, decide_eq_false_iff_not] at hu; exact hu ⟨hin.1, by omega⟩
            | succ k => simp⟩
          have hj0 := Hc.out j (by omega)
          have hge : decide (na l j ≥ na l (j + 1)) = true := by
            simp only [decide_eq_true_eq]
            have e := Hhi.out
            simp only [up, Bool.and_eq_false_iff, decide_eq_false_iff_not, Bool.or_eq_false_iff, Nat.add_sub_cancel] at hu
            rcases hu with h1 | h1
            · exact absurd ⟨hin.1, by omega⟩ h1
            · omega
          have hsub : (((j + 1 : Nat) : Int) - 1) = (j : Int) := by omega
          have hgt0 : decide (((j + 1 : Nat) : Int) > 0) = true := by simp only [decide_eq_true_eq]; omega
          have hjn : (j : Int) < n := by omega
          have hj1 : (0 : Int) ≤ j := by omega
          have hwj : IntKind.i64.wrap (j : Int) = (j : Int) := IntWalk.i64_in _ (by omega)
          clear hin hu
          go_wp2_with fail
          refine (l1In_any (na l (j + 1)) 0 hi w).mono ?_
          rintro e w' ⟨rfl, rfl⟩
          rw [hgt]
          go_wp2_with fail
          go_ret
          exact ⟨ret_bool Hno.out.symm, rfl⟩
        · have hgf : decide (0 ≤ na l k ∧ na l k ≤ hi) = false := by simpa only [decide_eq_false_iff_not] using hin
          clear hin hu
          go_wp2_with fail
          refine (l1In_any (na l k) 0 hi w).mono ?_
          rintro e w' ⟨rfl, rfl⟩
          rw [hgf]
          go_wp2_with fail
          go_ret
          exact ⟨ret_bool Hno.out.symm, rfl⟩
      · have Hall : Hid (∀ j, j < k + 1 → up f l j = true) := by
          intro j hj
          by_cases hjk : j = k
          · subst hjk; exact hu
          · exact hall.out j (by omega)
        have hp := up_parts hu
        have hgt : decide (0 ≤ na l k ∧ na l k ≤ hi) = true := by
          simp only [decide_eq_true_eq]; have := Hhi.out; omega
        by_cases hk0 : k = 0
        · subst hk0
          have h00 : w.cell? ⟨b, off, none⟩ = some (.int .i64 (na l 0)) := by simpa using h0
          clear hu hp
          go_wp2_with fail
          refine (l1In_any (na l 0) 0 hi w).mono ?_
          rintro e w' ⟨rfl, rfl⟩
          rw [hgt]
          go_wp2_with fail
          go_roundw
          case rel => exact ⟨1, by omega, by go_num, Hall, by trivial⟩
          case measure => simp [intOf]; omega
        · obtain ⟨j, rfl⟩ : ∃ j, k = j + 1 := ⟨k - 1, by omega⟩
          have hj0 := Hc.out j (by omega)
          have hge : decide (na l j ≥ na l (j + 1)) = false := by
            simp only [decide_eq_false_iff_not]
            have := hp.2.2 (by omega)
            simp only [Nat.add_sub_cancel] at this
            omega
          have hsub : (((j + 1 : Nat) : Int) - 1) = (j : Int) := by omega
          have hgt0 : decide (((j + 1 : Nat) : Int) > 0) = true := by simp only [decide_eq_true_eq]; omega
          have hjn : (j : Int) < n := by omega
          have hj1 : (0 : Int) ≤ j := by omega
          have hwj : IntKind.i64.wrap (j : Int) = (j : Int) := IntWalk.i64_in _ (by omega)
          clear hu hp
          go_wp2_with fail
          refine (l1In_any (na l (j + 1)) 0 hi w).mono ?_
          rintro e w' ⟨rfl, rfl⟩
          rw [hgt]
          go_wp2_with fail
          go_roundw
          case rel => exact ⟨j + 1 + 1, by omega, by go_num, Hall, by trivial⟩
          case measure => simp [intOf]; omega
    · obtain rfl : k = n := by omega
      have Hyes := Lib.hid (ris_yes (fun j hj => hall.out j (by rw [Hn.out]; exact hj)))
      go_wp2_with fail
      go_ret
      exact ⟨ret_bool Hyes.out.symm, rfl⟩

theorem l1Rising_any (ao : Option Addr) (cap : Nat) (f : Int) (l : List Int) (n : Nat) (w : World) (hn : n = l.length) (hm : n ≤ 1048576) (hi : Int) (hhi : hi = f - 1) (hc : NumsAt w ao l) :
    Calls Tryd.prog 60 #[.slice ao n cap, .int .i64 0, .int .i64 hi] w fun e w' => e = .returned (.bool (risB f l)) ∧ w = w' := by
  by_cases h0 : n = 0
  · subst h0
    obtain rfl : l = [] := List.eq_nil_of_length_eq_zero hn.symm
    exact l1Rising_zero ao cap hi w
  · rcases hc with h | ⟨b, off, rfl, hc⟩
    · subst h; exact absurd hn h0
    · exact l1Rising_pos b off cap f l n w hn hm hi hhi (by rw [hn]; exact hc)

theorem areWires_zero (ao : Option Addr) (cap : Nat) (f : Int) (w : World) :
    Calls Tryd.prog 62 #[.int .i64 f, .slice ao 0 cap] w fun e w' => e = .returned (.bool true) ∧ w = w' := by
  go_enter Tryd.func62, Tryd.ntmps62
  go_wp2_with fail
  go_rounds 1
  go_ret
  exact ⟨rfl, rfl⟩

theorem areWires_pos (b off cap : Nat) (f : Int) (hf : f ≤ 10) (l : List Int) (n : Nat) (w : World) (Hn : Hid (n = l.length)) (hn : n ≤ 1048576)
    (Hc : Hid (∀ i, i < n → w.cell? ⟨b, off + i, none⟩ = some (.int .i64 (na l i)))) :
    Calls Tryd.prog 62 #[.int .i64 f, .slice (some ⟨b, off, none⟩) n cap] w fun e w' => e = .returned (.bool (risB f l)) ∧ w = w' := by
  go_enter Tryd.func62, Tryd.ntmps62
  go_wp2_with fail
  go_loopw [5, 10] (fun v i wr => ∃ k : Nat, k ≤ n ∧ i = .int .i64 k ∧ v = .int .i64 (lst l k) ∧ Hid (∀ j, j < k → up f l j = true) ∧ w = wr) (fun _ i _ => n - (intOf i).toNat)
  case atStart => exact ⟨0, Nat.zero_le _, rfl, rfl, fun j hj => absurd hj (by omega), rfl⟩
  case round =>
    obtain ⟨k, hk, rfl, rfl, hall, rfl⟩ := hrel
    by_cases hlt : k < n
    · have h0 := Hc.out k hlt
      have hlu := lst_up (f := f) (l := l) (k := k) hall.out
      cases hu : up f l k
      · have Hno := Lib.hid (ris_no (by rw [← Hn.out]; exact hlt) hu)
        rw [hu] at hlu
        cases h1 : decide (na l k < lst l k)
        · have h2 : decide (f ≤ na l k) = true := by rw [h1] at hlu; simpa using hlu.symm
          clear hlu hu
          go_wp2_with fail
          go_ret
          exact ⟨ret_bool Hno.out.symm, rfl⟩
        · clear hlu hu
          go_wp2_with fail
          go_ret
          exact ⟨ret_bool Hno.out.symm, rfl⟩
      · have Hall : Hid (∀ j, j < k + 1 → up f l j = true) := by
          intro j hj
          by_cases hjk : j = k
          · subst hjk; exact hu
          · exact hall.out j (by omega)
        have hp := up_parts hu
        rw [hu] at hlu
        have h1 : decide (na l k < lst l k) = false := by
          cases h : decide (na l k < lst l k)
          · rfl
          · rw [h] at hlu; simp at hlu
        have h2 : decide (f ≤ na l k) = false := by simp; omega
        have hw1 : IntKind.i64.wrap (na l k + 1) = na l k + 1 := IntWalk.i64_in _ (by omega)
        have Hs := Lib.hid (lst_succ l k)
        clear hlu hu hp
        go_wp2_with fail
        go_roundw
        case rel => exact ⟨k + 1, by omega, by go_num, by rw [Hs.out], Hall, by trivial⟩
        case measure => simp [intOf]; omega
    · obtain rfl : k = n := by omega
      have Hyes := Lib.hid (ris_yes (fun j hj => hall.out j (by rw [Hn.out]; exact hj)))
      go_wp2_with fail
      go_ret
      exact ⟨ret_bool Hyes.out.symm, rfl⟩

theorem areWires_any (ao : Option Addr) (cap : Nat) (f : Int) (hf : f ≤ 10) (l : List Int) (n : Nat) (w : World) (hn : n = l.length) (hm : n ≤ 1048576) (hc : NumsAt w ao l) :
    Calls Tryd.prog 62 #[.int .i64 f, .slice ao n cap] w fun e w' => e = .returned (.bool (risB f l)) ∧ w = w' := by
  by_cases h0 : n = 0
  · subst h0
    obtain rfl : l = [] := List.eq_nil_of_length_eq_zero hn.symm
    exact areWires_zero ao cap f w
  · rcases hc with h | ⟨b, off, rfl, hc⟩
    · subst h; exact absurd hn h0
    · exact areWires_pos b off cap f hf l n w hn hm (by rw [hn]; exact hc)

theorem wiWires_any (f : Int) (w : World) : Calls Tryd.prog 59 #[.int .i64 f] w fun e w' => e = .returned (.bool (wfB f)) ∧ w = w' := by
  go_enter Tryd.func59, Tryd.ntmps59
  go_wp2_with fail
  refine (l1In_any f 1 10 w).mono ?_
  rintro e w' ⟨rfl, rfl⟩
  go_wp2_with fail
  go_ret
  exact ⟨ret_bool (by simp [wfB]), rfl⟩

theorem canBeTested_any (f : Int) (w : World) : Calls Tryd.prog 61 #[.int .i64 f] w fun e w' => e = .returned (.bool (wfB f)) ∧ w = w' := by
  unfold wfB
  by_cases h1 : 1 ≤ f
  · by_cases h2 : f ≤ 10
    · have hf : decide (1 ≤ f ∧ f ≤ 10) = true := by simp [h1, h2]
      rw [hf]
      go_enter Tryd.func61, Tryd.ntmps61
      go_wp2
      go_ret
      exact ⟨rfl, rfl⟩
    · have hf : decide (1 ≤ f ∧ f ≤ 10) = false := by simp [h2]
      have hd : decide (f ≤ 10) = false := by simpa using h2
      rw [hf]
      go_enter Tryd.func61, Tryd.ntmps61
      go_wp2
      go_ret
      exact ⟨rfl, rfl⟩
  · have hf : decide (1 ≤ f ∧ f ≤ 10) = false := by simp [h1]
    have hd : decide (1 ≤ f) = false := by simpa using h1
    rw [hf]
    go_enter Tryd.func61, Tryd.ntmps61
    go_wp2
    go_ret
    exact ⟨rfl, rfl⟩

theorem wiGood_zero (ao : Option Addr) (cap : Nat) (f : Int) (w : World) :
    Calls Tryd.prog 30 #[.int .i64 f, .slice ao 0 cap] w fun e w' => e = .returned (.bool (wfB f)) ∧ w = w' := by
  cases hw : wfB f
  · have Hw := Lib.hid hw
    go_enter Tryd.func30, Tryd.ntmps30
    go_wp2_with fail
    refine (wiWires_any f w).mono ?_
    rintro e w' ⟨rfl, rfl⟩
    rw [Hw.out]
    go_wp2_with fail
    go_ret
    exact ⟨rfl, rfl⟩
  · have Hw := Lib.hid hw
    go_enter Tryd.func30, Tryd.ntmps30
    go_wp2_with fail
    refine (wiWires_any f w).mono ?_
    rintro e w' ⟨rfl, rfl⟩
    rw [Hw.out]
    go_wp2_with fail
    go_rounds 1
    go_ret
    exact ⟨rfl, rfl⟩

set_option maxRecDepth 20000 in
theorem wiGood_pos (b off cap : Nat) (A : Nat → Option Addr) (C : Nat → Nat) (f : Int) (L : List (List Int)) (n : Nat) (w : World) (Hn : Hid (n = L.length)) (hn : n ≤ 1048576) (hL : Hid (∀ i, (row L i).length ≤ 1048576)) (Hc : Hid (SSAt w b off A C L n)) :
    Calls Tryd.prog 30 #[.int .i64 f, .slice (some ⟨b, off, none⟩) n cap] w fun e w' => e = .returned (.bool (wiB f L)) ∧ w = w' := by
  cases hw : wfB f
  · have hR : wiB f L = false := by simp [wiB, hw]
    rw [hR]
    have Hw := Lib.hid hw
    go_enter Tryd.func30, Tryd.ntmps30
    go_wp2_with fail
    refine (wiWires_any f w).mono ?_
    rintro e w' ⟨rfl, rfl⟩
    rw [Hw.out]
    go_wp2_with fail
    go_ret
    exact ⟨rfl, rfl⟩
  · have Hw := Lib.hid hw
    have hf : 1 ≤ f ∧ f ≤ 10 := by simpa [wfB] using hw
    clear hw
    by_cases h12 : n ≤ 12
    · have hd12 : decide ((n : Int) > 12) = false := by simp; omega
      have hw1 : IntKind.i64.wrap (f - 1) = f - 1 := IntWalk.i64_in _ (by omega)
      go_enter Tryd.func30, Tryd.ntmps30
      go_wp2_with fail
      refine (wiWires_any f w).mono ?_
      rintro e w' ⟨rfl, rfl⟩
      rw [Hw.out]
      go_wp2_with fail
      go_loopw [17] (fun i wr => ∃ k : Nat, k ≤ n ∧ i = .int .i64 k ∧ Hid (∀ j, j < k → tstB f (row L j) = true) ∧ w = wr) (fun i _ => n - (intOf i).toNat)
      case atStart => exact ⟨0, Nat.zero_le _, rfl, fun j hj => absurd hj (by omega), rfl⟩
      case round =>
        obtain ⟨k, hk, rfl, hall, rfl⟩ := hrel
        by_cases hlt : k < n
        · obtain ⟨h0, hA⟩ := Hc.out k hlt
          have HA := Lib.hid hA
          have hlk := hL.out k
          have hk1 : (0 : Int) ≤ k := by omega
          have hk2 : (k : Int) < n := by omega
          cases ht : tstB f (row L k)
          · have Hno := Lib.hid (wi_no (by rw [← Hn.out]; exact hlt) ht)
            by_cases hz : (row L k).length = 0
            · clear ht hA
              go_wp2_with fail
              go_ret
              exact ⟨ret_bool Hno.out.symm, rfl⟩
            · have Hr : Hid (risB f (row L k) = false) := by show _ = _; simpa [tstB, hz] using ht
              have hz2 : (((row L k).length : Int) == 0) = false := by rw [beq_eq_false_iff_ne]; omega
              clear ht hA hz
              go_wp2_with fail
              refine (l1Rising_any (A k) (C k) f (row L k) _ w rfl hlk (f - 1) rfl HA.out).mono ?_
              rintro e w' ⟨rfl, rfl⟩
              rw [Hr.out]
              go_wp2_with fail
              go_ret
              exact ⟨ret_bool Hno.out.symm, rfl⟩
          · have Hall : Hid (∀ j, j < k + 1 → tstB f (row L j) = true) := by
              intro j hj
              by_cases hjk : j = k
              · subst hjk; exact ht
              · exact hall.out j (by omega)
            have hz : (row L k).length ≠ 0 ∧ risB f (row L k) = true := by simpa [tstB] using ht
            have Hr := Lib.hid hz.2
            have hz2 : (((row L k).length : Int) == 0) = false := by have := hz.1; rw [beq_eq_false_iff_ne]; omega
            clear ht hA hz
            go_wp2_with fail
            refine (l1Rising_any (A k) (C k) f (row L k) _ w rfl hlk (f - 1) rfl HA.out).mono ?_
            rintro e w' ⟨rfl, rfl⟩
            rw [Hr.out]
            go_wp2_with fail
            go_roundw
            case rel => exact ⟨k + 1, by omega, by go_num, Hall, by trivial⟩
            case measure => simp [intOf]; omega
        · obtain rfl : k = n := by omega
          have Hyes := Lib.hid (wi_yes Hw.out (by rw [← Hn.out]; exact h12) (fun j hj => hall.out j (by rw [Hn.out]; exact hj)))
          go_wp2_with fail
          go_ret
          exact ⟨ret_bool Hyes.out.symm, rfl⟩
    · have hR : wiB f L = false := by
        have : ¬ L.length ≤ 12 := by rw [← Hn.out]; exact h12
        simp [wiB, this]
      rw [hR]
      have hd12 : decide ((n : Int) > 12) = true := by simp; omega
      go_enter Tryd.func30, Tryd.ntmps30
      go_wp2_with fail
      refine (wiWires_any f w).mono ?_
      rintro e w' ⟨rfl, rfl⟩
      rw [Hw.out]
      go_wp2_with fail
      go_ret
      exact ⟨rfl, rfl⟩

theorem wiGood_any (f : Int) (ao : Option Addr) (cap : Nat) (L : List (List Int)) (n : Nat) (w : World) (Hn : Hid (n = L.length)) (hn : n ≤ 1048576) (hL : Hid (∀ i, (row L i).length ≤ 1048576)) (Hc : Hid (RowsAt w ao L)) :
    Calls Tryd.prog 30 #[.int .i64 f, .slice ao n cap] w fun e w' => e = .returned (.bool (wiB f L)) ∧ w = w' := by
  rcases Hc.out with h | ⟨b, off, A, C, rfl, hc, hcap⟩
  · subst h
    have h0 := Hn.out
    subst h0
    have hR : wiB f [] = wfB f := by simp [wiB]
    rw [hR]
    exact wiGood_zero ao cap f w
  · exact wiGood_pos b off cap A C f L n w Hn hn hL (by rw [Hn.out]; exact hc)

theorem areTests_zero (ao : Option Addr) (cap : Nat) (f : Int) (w : World) :
    Calls Tryd.prog 33 #[.int .i64 f, .slice ao 0 cap] w fun e w' => e = .returned (.bool (wfB f)) ∧ w = w' := by
  cases hw : wfB f
  · have Hw := Lib.hid hw
    go_enter Tryd.func33, Tryd.ntmps33
    go_wp2_with fail
    refine (canBeTested_any f w).mono ?_
    rintro e w' ⟨rfl, rfl⟩
    rw [Hw.out]
    go_wp2_with fail
    go_ret
    exact ⟨rfl, rfl⟩
  · have Hw := Lib.hid hw
    go_enter Tryd.func33, Tryd.ntmps33
    go_wp2_with fail
    refine (canBeTested_any f w).mono ?_
    rintro e w' ⟨rfl, rfl⟩
    rw [Hw.out]
    go_wp2_with fail
    go_rounds 1
    go_ret
    exact ⟨rfl, rfl⟩

set_option maxRecDepth 20000 in
theorem areTests_pos (b off cap : Nat) (A : Nat → Option Addr) (C : Nat → Nat) (f : Int) (L : List (List Int)) (n : Nat) (w : World) (Hn : Hid (n = L.length)) (hn : n ≤ 1048576) (hL : Hid (∀ i, (row L i).length ≤ 1048576)) (Hc : Hid (SSAt w b off A C L n)) :
    Calls Tryd.prog 33 #[.int .i64 f, .slice (some ⟨b, off, none⟩) n cap] w fun e w' => e = .returned (.bool (wiB f L)) ∧ w = w' := by
  cases hw : wfB f
  · have hR : wiB f L = false := by simp [wiB, hw]
    rw [hR]
    have Hw := Lib.hid hw
    go_enter Tryd.func33, Tryd.ntmps33
    go_wp2_with fail
    refine (canBeTested_any f w).mono ?_
    rintro e w' ⟨rfl, rfl⟩
    rw [Hw.out]
    go_wp2_with fail
    go_ret
    exact ⟨rfl, rfl⟩
  · have Hw := Lib.hid hw
    have hf : 1 ≤ f ∧ f ≤ 10 := by simpa [wfB] using hw
    clear hw
    by_cases h12 : n ≤ 12
    · have hd12 : decide ((n : Int) > 12) = false := by simp; omega
      have hw1 : IntKind.i64.wrap (f - 1) = f - 1 := IntWalk.i64_in _ (by omega)
      go_enter Tryd.func33, Tryd.ntmps33
      go_wp2_with fail
      refine (canBeTested_any f w).mono ?_
      rintro e w' ⟨rfl, rfl⟩
      rw [Hw.out]
      go_wp2_with fail
      go_loopw [17] (fun i wr => ∃ k : Nat, k ≤ n ∧ i = .int .i64 k ∧ Hid (∀ j, j < k → tstB f (row L j) = true) ∧ w = wr) (fun i _ => n - (intOf i).toNat)
      case atStart => exact ⟨0, Nat.zero_le _, rfl, fun j hj => absurd hj (by omega), rfl⟩
      case round =>
        obtain ⟨k, hk, rfl, hall, rfl⟩ := hrel
        by_cases hlt : k < n
        · obtain ⟨h0, hA⟩ := Hc.out k hlt
          have HA := Lib.hid hA
          have hlk := hL.out k
          have hk1 : (0 : Int) ≤ k := by omega
          have hk2 : (k : Int) < n := by omega
          cases ht : tstB f (row L k)
          · have Hno := Lib.hid (wi_no (by rw [← Hn.out]; exact hlt) ht)
            by_cases hz : (row L k).length = 0
            · clear ht hA
              go_wp2_with fail
              go_ret
              exact ⟨ret_bool Hno.out.symm, rfl⟩
            · have Hr : Hid (risB f (row L k) = false) := by show _ = _; simpa [tstB, hz] using ht
              have hz2 : (((row L k).length : Int) == 0) = false := by rw [beq_eq_false_iff_ne]; omega
              clear ht hA hz
              go_wp2_with fail
              refine (areWires_any (A k) (C k) f (by omega) (row L k) _ w rfl hlk HA.out).mono ?_
              rintro e w' ⟨rfl, rfl⟩
              rw [Hr.out]
              go_wp2_with fail
              go_ret
              exact ⟨ret_bool Hno.out.symm, rfl⟩
          · have Hall : Hid (∀ j, j < k + 1 → tstB f (row L j) = true) := by
              intro j hj
              by_cases hjk : j = k
              · subst hjk; exact ht
              · exact hall.out j (by omega)
            have hz : (row L k).length ≠ 0 ∧ risB f (row L k) = true := by simpa [tstB] using ht
            have Hr := Lib.hid hz.2
            have hz2 : (((row L k).length : Int) == 0) = false := by have := hz.1; rw [beq_eq_false_iff_ne]; omega
            clear ht hA hz
            go_wp2_with fail
            refine (areWires_any (A k) (C k) f (by omega) (row L k) _ w rfl hlk HA.out).mono ?_
            rintro e w' ⟨rfl, rfl⟩
            rw [Hr.out]
            go_wp2_with fail
            go_roundw
            case rel => exact ⟨k + 1, by omega, by go_num, Hall, by trivial⟩
            case measure => simp [intOf]; omega
        · obtain rfl : k = n := by omega
          have Hyes := Lib.hid (wi_yes Hw.out (by rw [← Hn.out]; exact h12) (fun j hj => hall.out j (by rw [Hn.out]; exact hj)))
          go_wp2_with fail
          go_ret
          exact ⟨ret_bool Hyes.out.symm, rfl⟩
    · have hR : wiB f L = false := by
        have : ¬ L.length ≤ 12 := by rw [← Hn.out]; exact h12
        simp [wiB, this]
      rw [hR]
      have hd12 : decide ((n : Int) > 12) = true := by simp; omega
      go_enter Tryd.func33, Tryd.ntmps33
      go_wp2_with fail
      refine (canBeTested_any f w).mono ?_
      rintro e w' ⟨rfl, rfl⟩
      rw [Hw.out]
      go_wp2_with fail
      go_ret
      exact ⟨rfl, rfl⟩

theorem areTests_any (f : Int) (ao : Option Addr) (cap : Nat) (L : List (List Int)) (n : Nat) (w : World) (Hn : Hid (n = L.length)) (hn : n ≤ 1048576) (hL : Hid (∀ i, (row L i).length ≤ 1048576)) (Hc : Hid (RowsAt w ao L)) :
    Calls Tryd.prog 33 #[.int .i64 f, .slice ao n cap] w fun e w' => e = .returned (.bool (wiB f L)) ∧ w = w' := by
  rcases Hc.out with h | ⟨b, off, A, C, rfl, hc, hcap⟩
  · subst h
    have h0 := Hn.out
    subst h0
    have hR : wiB f [] = wfB f := by simp [wiB]
    rw [hR]
    exact areTests_zero ao cap f w
  · exact areTests_pos b off cap A C f L n w Hn hn hL (by rw [Hn.out]; exact hc)

end Go.Proofs.YtnhkabhchepieaaDoor
