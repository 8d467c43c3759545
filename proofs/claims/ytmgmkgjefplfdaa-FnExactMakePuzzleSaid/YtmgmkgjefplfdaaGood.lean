/- Calls of so many friends. -/
import Derived.Test.YtmgmkgjefplfdaaRows2
namespace Go.Proofs.Ytmgmkgjefplfdaa
open Go.ChangeShapes Go.WideShapes Go.ChangeAt Go.RowKit
set_option linter.unusedVariables false

/-- There is such a number of friends. -/
def frB (f : Int) : Bool := decide (1 ≤ f ∧ f ≤ 10)

/-- This is a call of so many friends. -/
def calB (f a b : Int) : Bool := decide (0 ≤ a ∧ a < b ∧ b < f)

/-- These are calls of so many friends. -/
def gdB (f : Int) (l : List (Int × Int)) : Bool := frB f && decide (l.length ≤ 60) && l.all fun c => calB f c.1 c.2

theorem caFriends_any (f : Int) (w : World) : Calls Try.prog 117 #[.int .i64 f] w fun e w' => e = .returned (.bool (frB f)) ∧ w = w' := by
  by_cases h1 : 1 ≤ f
  · by_cases h2 : f ≤ 10
    · have hf : frB f = true := by simp [frB, h1, h2]
      rw [hf]
      go_enter Try.func117, Try.ntmps117
      go_wp2
      go_ret
      exact ⟨rfl, rfl⟩
    · have hf : frB f = false := by simp [frB, h2]
      have hd : decide (f ≤ 10) = false := by simpa using h2
      rw [hf]
      go_enter Try.func117, Try.ntmps117
      go_wp2
      go_ret
      exact ⟨by simp, rfl⟩
  · have hf : frB f = false := by simp [frB, h1]
    have hd : decide (1 ≤ f) = false := by simpa using h1
    rw [hf]
    go_enter Try.func117, Try.ntmps117
    go_wp2
    go_ret
    exact ⟨rfl, rfl⟩

theorem canBeFriends_any (f : Int) (w : World) : Calls Try.prog 124 #[.int .i64 f] w fun e w' => e = .returned (.bool (frB f)) ∧ w = w' := by
  by_cases h1 : 1 ≤ f
  · by_cases h2 : f ≤ 10
    · have hf : frB f = true := by simp [frB, h1, h2]
      rw [hf]
      go_enter Try.func124, Try.ntmps124
      go_wp2
      go_ret
      exact ⟨rfl, rfl⟩
    · have hf : frB f = false := by simp [frB, h2]
      have hd : decide (f ≤ 10) = false := by simpa using h2
      rw [hf]
      go_enter Try.func124, Try.ntmps124
      go_wp2
      go_ret
      exact ⟨by simp, rfl⟩
  · have hf : frB f = false := by simp [frB, h1]
    have hd : decide (1 ≤ f) = false := by simpa using h1
    rw [hf]
    go_enter Try.func124, Try.ntmps124
    go_wp2
    go_ret
    exact ⟨rfl, rfl⟩

theorem caCall_any (f a b : Int) (w : World) (hf : 1 ≤ f) (hf2 : f ≤ 10) : Calls Try.prog 118 #[.int .i64 f, .agg #[.int .i64 a, .int .i64 b]] w fun e w' => e = .returned (.bool (calB f a b)) ∧ Below w.heap.size w w' := by
  by_cases h1 : 0 ≤ a
  · by_cases h2 : a ≤ f - 1
    · by_cases h3 : a + 1 ≤ b
      · by_cases h4 : b ≤ f - 1
        · have hc : calB f a b = true := by simp [calB]; omega
          rw [hc]
          go_enter Try.func118, Try.ntmps118
          go_wp2
          go_ret
          exact ⟨rfl, by go_grown⟩
        · have hc : calB f a b = false := by simp [calB]; omega
          have hd : decide (b ≤ f - 1) = false := by simpa using h4
          rw [hc]
          go_enter Try.func118, Try.ntmps118
          go_wp2
          go_ret
          exact ⟨by simp, by go_grown⟩
      · have hc : calB f a b = false := by simp [calB]; omega
        have hd : decide (a + 1 ≤ b) = false := by simpa using h3
        rw [hc]
        go_enter Try.func118, Try.ntmps118
        go_wp2
        go_ret
        exact ⟨rfl, by go_grown⟩
    · have hc : calB f a b = false := by simp [calB]; omega
      have hd : decide (a ≤ f - 1) = false := by simpa using h2
      rw [hc]
      go_enter Try.func118, Try.ntmps118
      go_wp2
      go_ret
      exact ⟨by simp, by go_grown⟩
  · have hc : calB f a b = false := by simp [calB]; omega
    have hd : decide (0 ≤ a) = false := by simpa using h1
    rw [hc]
    go_enter Try.func118, Try.ntmps118
    go_wp2
    go_ret
    exact ⟨rfl, by go_grown⟩

theorem isFriend_yes (f x : Int) (w : World) (h1 : 0 ≤ x) (h2 : x < f) : Calls Try.prog 137 #[.int .i64 f, .int .i64 x] w fun e w' => e = .returned (.bool true) ∧ w = w' := by
  go_enter Try.func137, Try.ntmps137
  go_wp2
  go_ret
  exact ⟨rfl, rfl⟩

theorem isFriend_no (f x : Int) (w : World) (h : ¬ (0 ≤ x ∧ x < f)) : Calls Try.prog 137 #[.int .i64 f, .int .i64 x] w fun e w' => e = .returned (.bool false) ∧ w = w' := by
  by_cases h1 : 0 ≤ x
  · have hd : decide (x < f) = false := by simp; omega
    go_enter Try.func137, Try.ntmps137
    go_wp2
    go_ret
    exact ⟨by simp, rfl⟩
  · go_enter Try.func137, Try.ntmps137
    go_wp2
    go_ret
    exact ⟨rfl, rfl⟩

theorem callOf_less (a b : Int) (w : World) (h : a < b) : Calls Try.prog 138 #[.int .i64 a, .int .i64 b] w fun e w' => e = .returned (.agg #[.int .i64 a, .int .i64 b]) ∧ w.alloc (.cells #[.int .i64 a, .int .i64 b] 83) = w' := by
  have h1 : min a b = a := by omega
  have h2 : max a b = b := by omega
  go_enter Try.func138, Try.ntmps138
  go_wp2
  exact bodyPost_ret (v := .agg #[.int .i64 a, .int .i64 b]) (by simp [results, Try.results138, go_sem]) rfl ⟨rfl, rfl⟩

theorem callOf_more (a b : Int) (w : World) (h : b < a) : Calls Try.prog 138 #[.int .i64 a, .int .i64 b] w fun e w' => e = .returned (.agg #[.int .i64 b, .int .i64 a]) ∧ w.alloc (.cells #[.int .i64 b, .int .i64 a] 83) = w' := by
  have h1 : min a b = b := by omega
  have h2 : max a b = a := by omega
  go_enter Try.func138, Try.ntmps138
  go_wp2
  exact bodyPost_ret (v := .agg #[.int .i64 b, .int .i64 a]) (by simp [results, Try.results138, go_sem]) rfl ⟨rfl, rfl⟩

theorem isCall_1 (f a b : Int) (w : World) (h : ¬ (0 ≤ a ∧ a < f)) : Calls Try.prog 125 #[.int .i64 f, .agg #[.int .i64 a, .int .i64 b]] w fun e w' => e = .returned (.bool false) ∧ Below w.heap.size w w' := by
  have Hh := Lib.hid h
  clear h
  go_enter Try.func125, Try.ntmps125
  go_wp2_with fail
  go_quiet ((go_at_call 137; exact Calls.quiet_of_same ((isFriend_no _ _ _ Hh.out).mono fun _ _ ⟨h1, h2⟩ => ⟨h1, h2.symm⟩)))
  go_wp2
  go_ret
  exact ⟨rfl, below_drewN ((Below.refl _ _).alloc (Nat.le_refl _) _) _⟩

set_option maxRecDepth 100000 in
theorem isCall_2 (f a b : Int) (w : World) (h : 0 ≤ a ∧ a < f) (h2 : ¬ (0 ≤ b ∧ b < f)) : Calls Try.prog 125 #[.int .i64 f, .agg #[.int .i64 a, .int .i64 b]] w fun e w' => e = .returned (.bool false) ∧ Below w.heap.size w w' := by
  have Hh := Lib.hid h
  have Hh2 := Lib.hid h2
  clear h h2
  go_enter Try.func125, Try.ntmps125
  go_wp2_with fail
  go_quiet ((go_at_call 137; first | (go_at_call_of 137 (Value.int .i64 a); exact Calls.quiet_of_same ((isFriend_yes _ a _ Hh.out.1 Hh.out.2).mono fun _ _ ⟨h1, h2⟩ => ⟨h1, h2.symm⟩)) | exact Calls.quiet_of_same ((isFriend_no _ b _ Hh2.out).mono fun _ _ ⟨h1, h2⟩ => ⟨h1, h2.symm⟩)))
  go_wp2
  go_ret
  exact ⟨rfl, below_drewN ((Below.refl _ _).alloc (Nat.le_refl _) _) _⟩

theorem isCall_3 (f a : Int) (w : World) (h : 0 ≤ a ∧ a < f) : Calls Try.prog 125 #[.int .i64 f, .agg #[.int .i64 a, .int .i64 a]] w fun e w' => e = .returned (.bool false) ∧ Below w.heap.size w w' := by
  have Hh := Lib.hid h
  have hne : (a != a) = false := by simp
  clear h
  go_enter Try.func125, Try.ntmps125
  go_wp2_with fail
  go_quiet ((go_at_call 137; exact Calls.quiet_of_same ((isFriend_yes _ a _ Hh.out.1 Hh.out.2).mono fun _ _ ⟨h1, h2⟩ => ⟨h1, h2.symm⟩)))
  go_wp2
  go_ret
  exact ⟨rfl, below_drewN ((Below.refl _ _).alloc (Nat.le_refl _) _) _⟩

set_option maxRecDepth 100000 in
theorem isCall_4 (f a b : Int) (w : World) (h : 0 ≤ a ∧ a < f) (h2 : 0 ≤ b ∧ b < f) (hl : a < b) : Calls Try.prog 125 #[.int .i64 f, .agg #[.int .i64 a, .int .i64 b]] w fun e w' => e = .returned (.bool true) ∧ Below w.heap.size w w' := by
  have Hh := Lib.hid h
  have Hh2 := Lib.hid h2
  have hne : (a != b) = true := by simp; omega
  clear h h2
  go_enter Try.func125, Try.ntmps125
  go_wp2_with fail
  go_region_held3 (fun w' => w'.cell? ⟨w.heap.size, 0, none⟩ = some (.int .i64 a) ∧ w'.cell? ⟨w.heap.size, 1, none⟩ = some (.int .i64 b)) (go_keep)
    (first | (go_at_call 137; first | (go_at_call_of 137 (Value.int .i64 a); refine (isFriend_yes _ a _ Hh.out.1 Hh.out.2).mono ?_; rintro e w' ⟨rfl, rfl⟩) | (refine (isFriend_yes _ b _ Hh2.out.1 Hh2.out.2).mono ?_; rintro e w' ⟨rfl, rfl⟩)) | (go_at_call 138; refine (callOf_less a b _ hl).mono ?_; rintro e w' ⟨rfl, rfl⟩))
  go_wp2
  go_ret
  exact ⟨rfl, by go_grown⟩

set_option maxRecDepth 100000 in
theorem isCall_5 (f a b : Int) (w : World) (h : 0 ≤ a ∧ a < f) (h2 : 0 ≤ b ∧ b < f) (hl : b < a) : Calls Try.prog 125 #[.int .i64 f, .agg #[.int .i64 a, .int .i64 b]] w fun e w' => e = .returned (.bool false) ∧ Below w.heap.size w w' := by
  have Hh := Lib.hid h
  have Hh2 := Lib.hid h2
  have hne : (a != b) = true := by simp; omega
  have hne2 : (a == b) = false := by simp; omega
  clear h h2
  go_enter Try.func125, Try.ntmps125
  go_wp2_with fail
  go_region_held3 (fun w' => w'.cell? ⟨w.heap.size, 0, none⟩ = some (.int .i64 a) ∧ w'.cell? ⟨w.heap.size, 1, none⟩ = some (.int .i64 b)) (go_keep)
    (first | (go_at_call 137; first | (go_at_call_of 137 (Value.int .i64 a); refine (isFriend_yes _ a _ Hh.out.1 Hh.out.2).mono ?_; rintro e w' ⟨rfl, rfl⟩) | (refine (isFriend_yes _ b _ Hh2.out.1 Hh2.out.2).mono ?_; rintro e w' ⟨rfl, rfl⟩)) | (go_at_call 138; refine (callOf_more a b _ hl).mono ?_; rintro e w' ⟨rfl, rfl⟩))
  go_wp2
  go_ret
  exact ⟨rfl, by go_grown⟩

theorem isCall_any (f a b : Int) (w : World) : Calls Try.prog 125 #[.int .i64 f, .agg #[.int .i64 a, .int .i64 b]] w fun e w' => e = .returned (.bool (calB f a b)) ∧ Below w.heap.size w w' := by
  by_cases h : 0 ≤ a ∧ a < f
  · by_cases h2 : 0 ≤ b ∧ b < f
    · rcases Int.lt_trichotomy a b with hl | rfl | hl
      · have hc : calB f a b = true := by simp [calB]; omega
        rw [hc]
        exact isCall_4 f a b w h h2 hl
      · have hc : calB f a a = false := by simp [calB]
        rw [hc]
        exact isCall_3 f a w h
      · have hc : calB f a b = false := by simp [calB]; omega
        rw [hc]
        exact isCall_5 f a b w h h2 hl
    · have hc : calB f a b = false := by simp [calB]; omega
      rw [hc]
      exact isCall_2 f a b w h h2
  · have hc : calB f a b = false := by simp [calB]; omega
    rw [hc]
    exact isCall_1 f a b w h

theorem gd_step (f : Int) (l : List (Int × Int)) (k : Nat) (h : k < l.length) : ((l.take (k + 1)).all fun c => calB f c.1 c.2) = (((l.take k).all fun c => calB f c.1 c.2) && calB f (ca l k) (cb l k)) := by
  rw [List.take_succ_eq_append_getElem h, List.all_append, ca_cb l k h]
  simp

/-- The calls before this index are calls of so many friends. -/
def goodTo (f : Int) (l : List (Int × Int)) (k : Nat) : Prop := ((l.take k).all fun c => calB f c.1 c.2) = true

theorem goodTo_zero (f : Int) (l : List (Int × Int)) : goodTo f l 0 := by simp [goodTo]

theorem goodTo_succ {f : Int} {l : List (Int × Int)} {k : Nat} (h : goodTo f l k) (hk : k < l.length) (hc : calB f (ca l k) (cb l k) = true) : goodTo f l (k + 1) := by
  unfold goodTo at h ⊢
  rw [gd_step f l k hk, h, hc]
  rfl

theorem gd_yes {f : Int} {l : List (Int × Int)} {n : Nat} (hn : n = l.length) (hf : frB f = true) (hl : n ≤ 60) (h : goodTo f l n) : gdB f l = true := by
  unfold goodTo at h
  rw [hn, List.take_length] at h
  simp [gdB, hf, h, ← hn, hl]

theorem gd_no {f : Int} {l : List (Int × Int)} {k : Nat} (hk : k < l.length) (hc : calB f (ca l k) (cb l k) = false) : gdB f l = false := by
  have h : (l.all fun c => calB f c.1 c.2) = false := by
    rw [List.all_eq_false]
    exact ⟨l[k], List.getElem_mem hk, by rw [ca_cb l k hk]; simp [hc]⟩
  simp [gdB, h]

/-- What both loops do, at a list that is not too long. -/
theorem caGood_pos (b off cap : Nat) (f : Int) (l : List (Int × Int)) (n : Nat) (w : World) (Hn : Hid (n = l.length)) (hl : n ≤ 60) (hf : 1 ≤ f) (hf2 : f ≤ 10)
    (Hc : Hid (∀ i, i < n → w.cell? ⟨b, off + i * 2, none⟩ = some (.int .i64 (ca l i)) ∧ w.cell? ⟨b, off + i * 2 + 1, none⟩ = some (.int .i64 (cb l i)))) :
    Calls Try.prog 105 #[.int .i64 f, .slice (some ⟨b, off, none⟩) n cap] w fun e w' => e = .returned (.bool (gdB f l)) ∧ Below w.heap.size w w' := by
  have hfr : frB f = true := by simp [frB, hf, hf2]
  have Hfr := Lib.hid hfr
  clear hfr
  go_enter Try.func105, Try.ntmps105
  go_wp2_with fail
  refine (caFriends_any f w).mono ?_
  rintro e w' ⟨rfl, rfl⟩
  rw [Hfr.out]
  go_wp2_with fail
  go_loopw [17] (fun i wr => ∃ k : Nat, k ≤ n ∧ i = .int .i64 k ∧ goodTo f l k ∧ Below w.heap.size w wr) (fun i _ => n - (intOf i).toNat)
  case atStart => exact ⟨0, Nat.zero_le _, rfl, goodTo_zero f l, Below.refl _ _⟩
  case round =>
    obtain ⟨k, hk, rfl, hgd, hbel⟩ := hrel
    have Hgd := Lib.hid hgd
    clear hgd
    by_cases hlt : k < n
    · have h0 := hbel.cell (p := ⟨b, off + k * 2, none⟩) (World.block_lt_of_cell? w _ (Hc.out k hlt).1)
      have h1 := hbel.cell (p := ⟨b, off + k * 2 + 1, none⟩) (World.block_lt_of_cell? w _ (Hc.out k hlt).2)
      rw [(Hc.out k hlt).1] at h0
      rw [(Hc.out k hlt).2] at h1
      have hs := hbel.size
      go_wp2_with fail
      refine (caCall_any f _ _ _ hf hf2).mono ?_
      rintro e w2 ⟨rfl, hb2⟩
      have hb3 : Below w.heap.size w w2 := (hbel.alloc hs _).trans (hb2.mono (by simp; omega))
      clear hb2
      cases hc : calB f (ca l k) (cb l k)
      · have Hno := Lib.hid (gd_no (f := f) (by rw [← Hn.out]; exact hlt) hc)
        clear hc
        go_wp2_with fail
        go_ret
        exact ⟨ret_bool Hno.out.symm, hb3⟩
      · have Hgd2 := Lib.hid (goodTo_succ Hgd.out (by rw [← Hn.out]; exact hlt) hc)
        clear hc
        go_wp2_with fail
        go_roundw
        case rel => exact ⟨k + 1, by omega, by go_num, Hgd2.out, hb3⟩
        case measure => simp [intOf]; omega
    · obtain rfl : k = n := by omega
      have Hyes := Lib.hid (gd_yes Hn.out Hfr.out hl Hgd.out)
      go_wp2_with fail
      go_ret
      exact ⟨ret_bool Hyes.out.symm, hbel⟩

theorem caGood_any (f : Int) (ao : Option Addr) (cap : Nat) (l : List (Int × Int)) (n : Nat) (w : World) (hn : n = l.length) (hm : n ≤ 9223372036854775807) (hc : CallsAt w ao l) :
    Calls Try.prog 105 #[.int .i64 f, .slice ao n cap] w fun e w' => e = .returned (.bool (gdB f l)) ∧ Below w.heap.size w w' := by
  cases hf : frB f
  · have hg : gdB f l = false := by simp [gdB, hf]
    rw [hg]
    have Hf := Lib.hid hf
    clear hf hg hc hn
    go_enter Try.func105, Try.ntmps105
    go_wp2_with fail
    refine (caFriends_any f w).mono ?_
    rintro e w' ⟨rfl, rfl⟩
    rw [Hf.out]
    go_wp2_with fail
    go_ret
    exact ⟨rfl, Below.refl _ _⟩
  · by_cases hl : n ≤ 60
    · have hff : 1 ≤ f ∧ f ≤ 10 := by simpa [frB] using hf
      by_cases h0 : n = 0
      · subst h0
        have hl0 : l = [] := List.eq_nil_of_length_eq_zero hn.symm
        have hg : gdB f l = true := by simp [gdB, hf, hl0]
        rw [hg]
        have Hf := Lib.hid hf
        clear hf hg hc hn hl0
        go_enter Try.func105, Try.ntmps105
        go_wp2_with fail
        refine (caFriends_any f w).mono ?_
        rintro e w' ⟨rfl, rfl⟩
        rw [Hf.out]
        go_wp2_with fail
        go_rounds 1
        go_ret
        exact ⟨rfl, Below.refl _ _⟩
      · rcases hc with h | ⟨b, off, rfl, hc⟩
        · subst h; exact absurd hn h0
        · exact caGood_pos b off cap f l n w hn hl hff.1 hff.2 (by rw [hn]; exact hc)
    · have hg : gdB f l = false := by simp [gdB, ← hn, hl]
      rw [hg]
      have Hf := Lib.hid hf
      have hd : decide ((n : Int) > 60) = true := by simp; omega
      clear hf hg hc hn
      go_enter Try.func105, Try.ntmps105
      go_wp2_with fail
      refine (caFriends_any f w).mono ?_
      rintro e w' ⟨rfl, rfl⟩
      rw [Hf.out]
      go_wp2_with fail
      go_ret
      exact ⟨rfl, Below.refl _ _⟩

/-- The program's loop, at a list that is not too long. -/
theorem areCalls_pos (b off cap : Nat) (f : Int) (l : List (Int × Int)) (n : Nat) (w : World) (Hn : Hid (n = l.length)) (hl : n ≤ 60) (hf : 1 ≤ f) (hf2 : f ≤ 10)
    (Hc : Hid (∀ i, i < n → w.cell? ⟨b, off + i * 2, none⟩ = some (.int .i64 (ca l i)) ∧ w.cell? ⟨b, off + i * 2 + 1, none⟩ = some (.int .i64 (cb l i)))) :
    Calls Try.prog 107 #[.int .i64 f, .slice (some ⟨b, off, none⟩) n cap] w fun e w' => e = .returned (.bool (gdB f l)) ∧ Below w.heap.size w w' := by
  have hfr : frB f = true := by simp [frB, hf, hf2]
  have Hfr := Lib.hid hfr
  clear hfr
  go_enter Try.func107, Try.ntmps107
  go_wp2_with fail
  refine (canBeFriends_any f w).mono ?_
  rintro e w' ⟨rfl, rfl⟩
  rw [Hfr.out]
  go_wp2_with fail
  go_loopw [17] (fun i wr => ∃ k : Nat, k ≤ n ∧ i = .int .i64 k ∧ goodTo f l k ∧ Below w.heap.size w wr) (fun i _ => n - (intOf i).toNat)
  case atStart => exact ⟨0, Nat.zero_le _, rfl, goodTo_zero f l, Below.refl _ _⟩
  case round =>
    obtain ⟨k, hk, rfl, hgd, hbel⟩ := hrel
    have Hgd := Lib.hid hgd
    clear hgd
    by_cases hlt : k < n
    · have h0 := hbel.cell (p := ⟨b, off + k * 2, none⟩) (World.block_lt_of_cell? w _ (Hc.out k hlt).1)
      have h1 := hbel.cell (p := ⟨b, off + k * 2 + 1, none⟩) (World.block_lt_of_cell? w _ (Hc.out k hlt).2)
      rw [(Hc.out k hlt).1] at h0
      rw [(Hc.out k hlt).2] at h1
      have hs := hbel.size
      go_wp2_with fail
      refine (isCall_any f _ _ _).mono ?_
      rintro e w2 ⟨rfl, hb2⟩
      have hb3 : Below w.heap.size w w2 := (hbel.alloc hs _).trans (hb2.mono (by simp; omega))
      clear hb2
      cases hc : calB f (ca l k) (cb l k)
      · have Hno := Lib.hid (gd_no (f := f) (by rw [← Hn.out]; exact hlt) hc)
        clear hc
        go_wp2_with fail
        go_ret
        exact ⟨ret_bool Hno.out.symm, hb3⟩
      · have Hgd2 := Lib.hid (goodTo_succ Hgd.out (by rw [← Hn.out]; exact hlt) hc)
        clear hc
        go_wp2_with fail
        go_roundw
        case rel => exact ⟨k + 1, by omega, by go_num, Hgd2.out, hb3⟩
        case measure => simp [intOf]; omega
    · obtain rfl : k = n := by omega
      have Hyes := Lib.hid (gd_yes Hn.out Hfr.out hl Hgd.out)
      go_wp2_with fail
      go_ret
      exact ⟨ret_bool Hyes.out.symm, hbel⟩

theorem areCalls_any (f : Int) (ao : Option Addr) (cap : Nat) (l : List (Int × Int)) (n : Nat) (w : World) (hn : n = l.length) (hm : n ≤ 9223372036854775807) (hc : CallsAt w ao l) :
    Calls Try.prog 107 #[.int .i64 f, .slice ao n cap] w fun e w' => e = .returned (.bool (gdB f l)) ∧ Below w.heap.size w w' := by
  cases hf : frB f
  · have hg : gdB f l = false := by simp [gdB, hf]
    rw [hg]
    have Hf := Lib.hid hf
    clear hf hg hc hn
    go_enter Try.func107, Try.ntmps107
    go_wp2_with fail
    refine (canBeFriends_any f w).mono ?_
    rintro e w' ⟨rfl, rfl⟩
    rw [Hf.out]
    go_wp2_with fail
    go_ret
    exact ⟨rfl, Below.refl _ _⟩
  · by_cases hl : n ≤ 60
    · have hff : 1 ≤ f ∧ f ≤ 10 := by simpa [frB] using hf
      by_cases h0 : n = 0
      · subst h0
        have hl0 : l = [] := List.eq_nil_of_length_eq_zero hn.symm
        have hg : gdB f l = true := by simp [gdB, hf, hl0]
        rw [hg]
        have Hf := Lib.hid hf
        clear hf hg hc hn hl0
        go_enter Try.func107, Try.ntmps107
        go_wp2_with fail
        refine (canBeFriends_any f w).mono ?_
        rintro e w' ⟨rfl, rfl⟩
        rw [Hf.out]
        go_wp2_with fail
        go_rounds 1
        go_ret
        exact ⟨rfl, Below.refl _ _⟩
      · rcases hc with h | ⟨b, off, rfl, hc⟩
        · subst h; exact absurd hn h0
        · exact areCalls_pos b off cap f l n w hn hl hff.1 hff.2 (by rw [hn]; exact hc)
    · have hg : gdB f l = false := by simp [gdB, ← hn, hl]
      rw [hg]
      have Hf := Lib.hid hf
      have hd : decide ((n : Int) > 60) = true := by simp; omega
      clear hf hg hc hn
      go_enter Try.func107, Try.ntmps107
      go_wp2_with fail
      refine (canBeFriends_any f w).mono ?_
      rintro e w' ⟨rfl, rfl⟩
      rw [Hf.out]
      go_wp2_with fail
      go_ret
      exact ⟨rfl, Below.refl _ _⟩

end Go.Proofs.Ytmgmkgjefplfdaa
