/- There are so many friends; these are calls of theirs: the model and the program. -/
import Derived.Test.YtnngdoiempmkkaaCalls
namespace Go.Proofs.Ytnngdoiempmkkaa
open Go.ChangeShapes Go.WideShapes Go.ChangeAt Go.RowKit

/-- There is such a number of friends. -/
def frB (f : Int) : Bool := decide (1 ≤ f ∧ f ≤ 10)

/-- This is a call of so many friends. -/
def calB (f a b : Int) : Bool := decide (0 ≤ a ∧ a < b ∧ b < f)

/-- These are calls of so many friends. -/
def gdB (f : Int) (l : List (Int × Int)) : Bool := frB f && decide (l.length ≤ 60) && l.all fun c => calB f c.1 c.2

theorem caFriends_any (f : Int) (w : World) : Calls Try.prog 37 #[.int .i64 f] w fun e w' => e = .returned (.bool (frB f)) ∧ w = w' := by
  by_cases h1 : 1 ≤ f
  · by_cases h2 : f ≤ 10
    · have hf : frB f = true := by simp [frB, h1, h2]
      rw [hf]
      go_enter Try.func37, Try.ntmps37
      go_wp2
      go_ret
      exact ⟨rfl, rfl⟩
    · have hf : frB f = false := by simp [frB, h2]
      have hd : decide (f ≤ 10) = false := by simpa using h2
      rw [hf]
      go_enter Try.func37, Try.ntmps37
      go_wp2
      go_ret
      exact ⟨by simp, rfl⟩
  · have hf : frB f = false := by simp [frB, h1]
    have hd : decide (1 ≤ f) = false := by simpa using h1
    rw [hf]
    go_enter Try.func37, Try.ntmps37
    go_wp2
    go_ret
    exact ⟨rfl, rfl⟩

theorem canBeFriends_any (f : Int) (w : World) : Calls Try.prog 26 #[.int .i64 f] w fun e w' => e = .returned (.bool (frB f)) ∧ w = w' := by
  by_cases h1 : 1 ≤ f
  · by_cases h2 : f ≤ 10
    · have hf : frB f = true := by simp [frB, h1, h2]
      rw [hf]
      go_enter Try.func26, Try.ntmps26
      go_wp2
      go_ret
      exact ⟨rfl, rfl⟩
    · have hf : frB f = false := by simp [frB, h2]
      have hd : decide (f ≤ 10) = false := by simpa using h2
      rw [hf]
      go_enter Try.func26, Try.ntmps26
      go_wp2
      go_ret
      exact ⟨by simp, rfl⟩
  · have hf : frB f = false := by simp [frB, h1]
    have hd : decide (1 ≤ f) = false := by simpa using h1
    rw [hf]
    go_enter Try.func26, Try.ntmps26
    go_wp2
    go_ret
    exact ⟨rfl, rfl⟩

theorem caCall_any (f a b : Int) (w : World) (hf : 1 ≤ f) (hf2 : f ≤ 10) : Calls Try.prog 40 #[.int .i64 f, .agg #[.int .i64 a, .int .i64 b]] w fun e w' => e = .returned (.bool (calB f a b)) ∧ Below w.heap.size w w' := by
  by_cases h1 : 0 ≤ a
  · by_cases h2 : a ≤ f - 1
    · by_cases h3 : a + 1 ≤ b
      · by_cases h4 : b ≤ f - 1
        · have hc : calB f a b = true := by simp [calB]; omega
          rw [hc]
          go_enter Try.func40, Try.ntmps40
          go_wp2
          go_ret
          exact ⟨rfl, by go_grown⟩
        · have hc : calB f a b = false := by simp [calB]; omega
          have hd : decide (b ≤ f - 1) = false := by simpa using h4
          rw [hc]
          go_enter Try.func40, Try.ntmps40
          go_wp2
          go_ret
          exact ⟨by simp, by go_grown⟩
      · have hc : calB f a b = false := by simp [calB]; omega
        have hd : decide (a + 1 ≤ b) = false := by simpa using h3
        rw [hc]
        go_enter Try.func40, Try.ntmps40
        go_wp2
        go_ret
        exact ⟨rfl, by go_grown⟩
    · have hc : calB f a b = false := by simp [calB]; omega
      have hd : decide (a ≤ f - 1) = false := by simpa using h2
      rw [hc]
      go_enter Try.func40, Try.ntmps40
      go_wp2
      go_ret
      exact ⟨by simp, by go_grown⟩
  · have hc : calB f a b = false := by simp [calB]; omega
    have hd : decide (0 ≤ a) = false := by simpa using h1
    rw [hc]
    go_enter Try.func40, Try.ntmps40
    go_wp2
    go_ret
    exact ⟨rfl, by go_grown⟩

theorem isFriend_yes (f x : Int) (w : World) (h1 : 0 ≤ x) (h2 : x < f) : Calls Try.prog 55 #[.int .i64 f, .int .i64 x] w fun e w' => e = .returned (.bool true) ∧ w = w' := by
  go_enter Try.func55, Try.ntmps55
  go_wp2
  go_ret
  exact ⟨rfl, rfl⟩

theorem isFriend_no (f x : Int) (w : World) (h : ¬ (0 ≤ x ∧ x < f)) : Calls Try.prog 55 #[.int .i64 f, .int .i64 x] w fun e w' => e = .returned (.bool false) ∧ w = w' := by
  by_cases h1 : 0 ≤ x
  · have hd : decide (x < f) = false := by simp; omega
    go_enter Try.func55, Try.ntmps55
    go_wp2
    go_ret
    exact ⟨by simp, rfl⟩
  · go_enter Try.func55, Try.ntmps55
    go_wp2
    go_ret
    exact ⟨rfl, rfl⟩

theorem callOf_less (a b : Int) (w : World) (h : a < b) : Calls Try.prog 53 #[.int .i64 a, .int .i64 b] w fun e w' => e = .returned (.agg #[.int .i64 a, .int .i64 b]) ∧ w.alloc (.cells #[.int .i64 a, .int .i64 b] 46) = w' := by
  have h1 : min a b = a := by omega
  have h2 : max a b = b := by omega
  go_enter Try.func53, Try.ntmps53
  go_wp2
  exact bodyPost_ret (v := .agg #[.int .i64 a, .int .i64 b]) (by simp [results, Try.results53, go_sem]) rfl ⟨rfl, rfl⟩

theorem callOf_more (a b : Int) (w : World) (h : b < a) : Calls Try.prog 53 #[.int .i64 a, .int .i64 b] w fun e w' => e = .returned (.agg #[.int .i64 b, .int .i64 a]) ∧ w.alloc (.cells #[.int .i64 b, .int .i64 a] 46) = w' := by
  have h1 : min a b = b := by omega
  have h2 : max a b = a := by omega
  go_enter Try.func53, Try.ntmps53
  go_wp2
  exact bodyPost_ret (v := .agg #[.int .i64 b, .int .i64 a]) (by simp [results, Try.results53, go_sem]) rfl ⟨rfl, rfl⟩

theorem isCall_1 (f a b : Int) (w : World) (h : ¬ (0 ≤ a ∧ a < f)) : Calls Try.prog 46 #[.int .i64 f, .agg #[.int .i64 a, .int .i64 b]] w fun e w' => e = .returned (.bool false) ∧ Below w.heap.size w w' := by
  have Hh := Lib.hid h
  clear h
  go_enter Try.func46, Try.ntmps46
  go_wp2_with fail
  go_quiet ((go_at_call 55; exact Calls.quiet_of_same ((isFriend_no _ _ _ Hh.out).mono fun _ _ ⟨h1, h2⟩ => ⟨h1, h2.symm⟩)))
  go_wp2
  go_ret
  exact ⟨rfl, below_drewN ((Below.refl _ _).alloc (Nat.le_refl _) _) _⟩

set_option maxRecDepth 100000 in
theorem isCall_2 (f a b : Int) (w : World) (h : 0 ≤ a ∧ a < f) (h2 : ¬ (0 ≤ b ∧ b < f)) : Calls Try.prog 46 #[.int .i64 f, .agg #[.int .i64 a, .int .i64 b]] w fun e w' => e = .returned (.bool false) ∧ Below w.heap.size w w' := by
  have Hh := Lib.hid h
  have Hh2 := Lib.hid h2
  clear h h2
  go_enter Try.func46, Try.ntmps46
  go_wp2_with fail
  go_quiet ((go_at_call 55; first | (go_at_call_of 55 (Value.int .i64 a); exact Calls.quiet_of_same ((isFriend_yes _ a _ Hh.out.1 Hh.out.2).mono fun _ _ ⟨h1, h2⟩ => ⟨h1, h2.symm⟩)) | exact Calls.quiet_of_same ((isFriend_no _ b _ Hh2.out).mono fun _ _ ⟨h1, h2⟩ => ⟨h1, h2.symm⟩)))
  go_wp2
  go_ret
  exact ⟨rfl, below_drewN ((Below.refl _ _).alloc (Nat.le_refl _) _) _⟩

theorem isCall_3 (f a : Int) (w : World) (h : 0 ≤ a ∧ a < f) : Calls Try.prog 46 #[.int .i64 f, .agg #[.int .i64 a, .int .i64 a]] w fun e w' => e = .returned (.bool false) ∧ Below w.heap.size w w' := by
  have Hh := Lib.hid h
  have hne : (a != a) = false := by simp
  clear h
  go_enter Try.func46, Try.ntmps46
  go_wp2_with fail
  go_quiet ((go_at_call 55; exact Calls.quiet_of_same ((isFriend_yes _ a _ Hh.out.1 Hh.out.2).mono fun _ _ ⟨h1, h2⟩ => ⟨h1, h2.symm⟩)))
  go_wp2
  go_ret
  exact ⟨rfl, below_drewN ((Below.refl _ _).alloc (Nat.le_refl _) _) _⟩

set_option maxRecDepth 100000 in
theorem isCall_4 (f a b : Int) (w : World) (h : 0 ≤ a ∧ a < f) (h2 : 0 ≤ b ∧ b < f) (hl : a < b) : Calls Try.prog 46 #[.int .i64 f, .agg #[.int .i64 a, .int .i64 b]] w fun e w' => e = .returned (.bool true) ∧ Below w.heap.size w w' := by
  have Hh := Lib.hid h
  have Hh2 := Lib.hid h2
  have hne : (a != b) = true := by simp; omega
  clear h h2
  go_enter Try.func46, Try.ntmps46
  go_wp2_with fail
  go_region_held3 (fun w' => w'.cell? ⟨w.heap.size, 0, none⟩ = some (.int .i64 a) ∧ w'.cell? ⟨w.heap.size, 1, none⟩ = some (.int .i64 b)) (go_keep)
    (first | (go_at_call 55; first | (go_at_call_of 55 (Value.int .i64 a); refine (isFriend_yes _ a _ Hh.out.1 Hh.out.2).mono ?_; rintro e w' ⟨rfl, rfl⟩) | (refine (isFriend_yes _ b _ Hh2.out.1 Hh2.out.2).mono ?_; rintro e w' ⟨rfl, rfl⟩)) | (go_at_call 53; refine (callOf_less a b _ hl).mono ?_; rintro e w' ⟨rfl, rfl⟩))
  go_wp2
  go_ret
  exact ⟨rfl, by go_grown⟩

set_option maxRecDepth 100000 in
theorem isCall_5 (f a b : Int) (w : World) (h : 0 ≤ a ∧ a < f) (h2 : 0 ≤ b ∧ b < f) (hl : b < a) : Calls Try.prog 46 #[.int .i64 f, .agg #[.int .i64 a, .int .i64 b]] w fun e w' => e = .returned (.bool false) ∧ Below w.heap.size w w' := by
  have Hh := Lib.hid h
  have Hh2 := Lib.hid h2
  have hne : (a != b) = true := by simp; omega
  have hne2 : (a == b) = false := by simp; omega
  clear h h2
  go_enter Try.func46, Try.ntmps46
  go_wp2_with fail
  go_region_held3 (fun w' => w'.cell? ⟨w.heap.size, 0, none⟩ = some (.int .i64 a) ∧ w'.cell? ⟨w.heap.size, 1, none⟩ = some (.int .i64 b)) (go_keep)
    (first | (go_at_call 55; first | (go_at_call_of 55 (Value.int .i64 a); refine (isFriend_yes _ a _ Hh.out.1 Hh.out.2).mono ?_; rintro e w' ⟨rfl, rfl⟩) | (refine (isFriend_yes _ b _ Hh2.out.1 Hh2.out.2).mono ?_; rintro e w' ⟨rfl, rfl⟩)) | (go_at_call 53; refine (callOf_more a b _ hl).mono ?_; rintro e w' ⟨rfl, rfl⟩))
  go_wp2
  go_ret
  exact ⟨rfl, by go_grown⟩

theorem isCall_any (f a b : Int) (w : World) : Calls Try.prog 46 #[.int .i64 f, .agg #[.int .i64 a, .int .i64 b]] w fun e w' => e = .returned (.bool (calB f a b)) ∧ Below w.heap.size w w' := by
  by_cases h : 0 ≤ a ∧ a < f
  · by_cases h2 : 0 ≤ b ∧ b < f
    · rcases Int.lt_trichotomy a b with hl | rfl | hl
      · have hc : calB f a b = true := by simp [calB]; omega
        rw [hc]
        exact isCall_4 f a b w h h2 hl
      · have hc : calB f a a = false := by simp [calB]
        rw [hc]
        exact isCall_3 f a w h
      · have hc : calB f a b = false := by simp [calB]; omega
        rw [hc]
        exact isCall_5 f a b w h h2 hl
    · have hc : calB f a b = false := by simp [calB]; omega
      rw [hc]
      exact isCall_2 f a b w h h2
  · have hc : calB f a b = false := by simp [calB]; omega
    rw [hc]
    exact isCall_1 f a b w h

theorem gd_step (f : Int) (l : List (Int × Int)) (k : Nat) (h : k < l.length) : ((l.take (k + 1)).all fun c => calB f c.1 c.2) = (((l.take k).all fun c => calB f c.1 c.2) && calB f (ca l k) (cb l k)) := by
  rw [List.take_succ_eq_append_getElem h, List.all_append, ca_cb l k h]
  simp

/-- The calls before this index are calls of so many friends. -/
def goodTo (f : Int) (l : List (Int × Int)) (k : Nat) : Prop := ((l.take k).all fun c => calB f c.1 c.2) = true

theorem goodTo_zero (f : Int) (l : List (Int × Int)) : goodTo f l 0 := by simp [goodTo]

theorem goodTo_succ {f : Int} {l : List (Int × Int)} {k : Nat} (h : goodTo f l k) (hk : k < l.length) (hc : calB f (ca l k) (cb l k) = true) : goodTo f l (k + 1) := by
  unfold goodTo at h ⊢
  rw [gd_step f l k hk, h, hc]
  rfl

theorem gd_yes {f : Int} {l : List (Int × Int)} {n : Nat} (hn : n = l.length) (hf : frB f = true) (hl : n ≤ 60) (h : goodTo f l n) : gdB f l = true := by
  unfold goodTo at h
  rw [hn, List.take_length] at h
  simp [gdB, hf, h, ← hn, hl]

theorem gd_no {f : Int} {l : List (Int × Int)} {k : Nat} (hk : k < l.length) (hc : calB f (ca l k) (cb l k) = false) : gdB f l = false := by
  have h : (l.all fun c => calB f c.1 c.2) = false := by
    rw [List.all_eq_false]
    exact ⟨l[k], List.getElem_mem hk, by rw [ca_cb l k hk]; simp [hc]⟩
  simp [gdB, h]
end Go.Proofs.Ytnngdoiempmkkaa
