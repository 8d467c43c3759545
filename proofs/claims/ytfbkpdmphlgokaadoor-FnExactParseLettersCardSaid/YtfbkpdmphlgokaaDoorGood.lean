/- These are letters of so many friends: the model and the program. -/
import Derived.Test.YtfbkpdmphlgokaaDoorLetters
import Derived.Test.YtfbkpdmphlgokaaDoorCGood
namespace Go.Proofs.YtfbkpdmphlgokaaDoor
open Go.ChangeShapes Go.WideShapes Go.ChangeAt Go.RowKit


/-- This is a letter of so many friends. -/
def letB (f a b : Int) : Bool := decide (0 ≤ a ∧ a < f ∧ 0 ≤ b ∧ b < f ∧ a ≠ b)
/-- These are letters of so many friends. -/
def gdL (f : Int) (l : List (Int × Int)) : Bool := frB f && decide (l.length ≤ 60) && l.all fun c => letB f c.1 c.2

theorem leLetter_any (f a b : Int) (w : World) (hf : 1 ≤ f) (hf2 : f ≤ 10) : Calls Tryd.prog 31 #[.int .i64 f, .agg #[.int .i64 a, .int .i64 b]] w fun e w' => e = .returned (.bool (letB f a b)) ∧ Below w.heap.size w w' := by
  by_cases h1 : 0 ≤ a
  · by_cases h2 : a ≤ f - 1
    · by_cases h3 : 0 ≤ b
      · by_cases h4 : b ≤ f - 1
        · have hc : letB f a b = (a != b) := by
            rw [Bool.eq_iff_iff]; simp [letB, bne_iff_ne]; omega
          rw [hc]
          have hd4 : decide (b ≤ f - 1) = true := by simpa using h4
          go_enter Tryd.func31, Tryd.ntmps31
          go_wp2
          go_ret
          exact ⟨rfl, by go_grown⟩
        · have hc : letB f a b = false := by simp [letB]; omega
          have hd : decide (b ≤ f - 1) = false := by simpa using h4
          rw [hc]
          go_enter Tryd.func31, Tryd.ntmps31
          go_wp2
          go_ret
          exact ⟨by simp, by go_grown⟩
      · have hc : letB f a b = false := by simp [letB]; omega
        have hd : decide (0 ≤ b) = false := by simpa using h3
        rw [hc]
        go_enter Tryd.func31, Tryd.ntmps31
        go_wp2
        go_ret
        exact ⟨rfl, by go_grown⟩
    · have hc : letB f a b = false := by simp [letB]; omega
      have hd : decide (a ≤ f - 1) = false := by simpa using h2
      rw [hc]
      go_enter Tryd.func31, Tryd.ntmps31
      go_wp2
      go_ret
      exact ⟨by simp, by go_grown⟩
  · have hc : letB f a b = false := by simp [letB]; omega
    have hd : decide (0 ≤ a) = false := by simpa using h1
    rw [hc]
    go_enter Tryd.func31, Tryd.ntmps31
    go_wp2
    go_ret
    exact ⟨rfl, by go_grown⟩

theorem isLetter_any (f a b : Int) (w : World) : Calls Tryd.prog 33 #[.int .i64 f, .agg #[.int .i64 a, .int .i64 b]] w fun e w' => e = .returned (.bool (letB f a b)) ∧ Below w.heap.size w w' := by
  by_cases h : 0 ≤ a ∧ a < f
  · by_cases h2 : 0 ≤ b ∧ b < f
    · have hc : letB f a b = (a != b) := by
        rw [Bool.eq_iff_iff]; simp [letB, bne_iff_ne]; omega
      rw [hc]
      go_enter Tryd.func33, Tryd.ntmps33
      go_wp2_with fail
      refine (isFriend_yes f a _ h.1 h.2).mono ?_
      rintro e w' ⟨rfl, rfl⟩
      go_wp2_with fail
      refine (isFriend_yes f b _ h2.1 h2.2).mono ?_
      rintro e w' ⟨rfl, rfl⟩
      go_wp2
      go_ret
      exact ⟨rfl, by go_grown⟩
    · have hc : letB f a b = false := by simp [letB]; omega
      rw [hc]
      go_enter Tryd.func33, Tryd.ntmps33
      go_wp2_with fail
      refine (isFriend_yes f a _ h.1 h.2).mono ?_
      rintro e w' ⟨rfl, rfl⟩
      go_wp2_with fail
      refine (isFriend_no f b _ h2).mono ?_
      rintro e w' ⟨rfl, rfl⟩
      go_wp2
      go_ret
      exact ⟨rfl, by go_grown⟩
  · have hc : letB f a b = false := by simp [letB]; omega
    rw [hc]
    go_enter Tryd.func33, Tryd.ntmps33
    go_wp2_with fail
    refine (isFriend_no f a _ h).mono ?_
    rintro e w' ⟨rfl, rfl⟩
    go_wp2
    go_ret
    exact ⟨rfl, by go_grown⟩

theorem caFriends_any (f : Int) (w : World) : Calls Tryd.prog 30 #[.int .i64 f] w fun e w' => e = .returned (.bool (frB f)) ∧ w = w' := by
  by_cases h1 : 1 ≤ f
  · by_cases h2 : f ≤ 10
    · have hf : frB f = true := by simp [frB, h1, h2]
      rw [hf]
      go_enter Tryd.func30, Tryd.ntmps30
      go_wp2
      go_ret
      exact ⟨rfl, rfl⟩
    · have hf : frB f = false := by simp [frB, h2]
      have hd : decide (f ≤ 10) = false := by simpa using h2
      rw [hf]
      go_enter Tryd.func30, Tryd.ntmps30
      go_wp2
      go_ret
      exact ⟨by simp, rfl⟩
  · have hf : frB f = false := by simp [frB, h1]
    have hd : decide (1 ≤ f) = false := by simpa using h1
    rw [hf]
    go_enter Tryd.func30, Tryd.ntmps30
    go_wp2
    go_ret
    exact ⟨rfl, rfl⟩

theorem gl_step (f : Int) (l : List (Int × Int)) (k : Nat) (h : k < l.length) : ((l.take (k + 1)).all fun c => letB f c.1 c.2) = (((l.take k).all fun c => letB f c.1 c.2) && letB f (ca l k) (cb l k)) := by
  rw [List.take_succ_eq_append_getElem h, List.all_append, ca_cb l k h]
  simp

/-- The calls before this index are calls of so many friends. -/
def goodToL (f : Int) (l : List (Int × Int)) (k : Nat) : Prop := ((l.take k).all fun c => letB f c.1 c.2) = true

theorem goodToL_zero (f : Int) (l : List (Int × Int)) : goodToL f l 0 := by simp [goodToL]

theorem goodToL_succ {f : Int} {l : List (Int × Int)} {k : Nat} (h : goodToL f l k) (hk : k < l.length) (hc : letB f (ca l k) (cb l k) = true) : goodToL f l (k + 1) := by
  unfold goodToL at h ⊢
  rw [gl_step f l k hk, h, hc]
  rfl

theorem gl_yes {f : Int} {l : List (Int × Int)} {n : Nat} (hn : n = l.length) (hf : frB f = true) (hl : n ≤ 60) (h : goodToL f l n) : gdL f l = true := by
  unfold goodToL at h
  rw [hn, List.take_length] at h
  simp [gdL, hf, h, ← hn, hl]

theorem gl_no {f : Int} {l : List (Int × Int)} {k : Nat} (hk : k < l.length) (hc : letB f (ca l k) (cb l k) = false) : gdL f l = false := by
  have h : (l.all fun c => letB f c.1 c.2) = false := by
    rw [List.all_eq_false]
    exact ⟨l[k], List.getElem_mem hk, by rw [ca_cb l k hk]; simp [hc]⟩
  simp [gdL, h]

/-- What both loops do, at a list that is not too long. -/
theorem leGood_pos (b off cap : Nat) (f : Int) (l : List (Int × Int)) (n : Nat) (w : World) (Hn : Hid (n = l.length)) (hl : n ≤ 60) (hf : 1 ≤ f) (hf2 : f ≤ 10)
    (Hc : Hid (∀ i, i < n → w.cell? ⟨b, off + i * 2, none⟩ = some (.int .i64 (ca l i)) ∧ w.cell? ⟨b, off + i * 2 + 1, none⟩ = some (.int .i64 (cb l i)))) :
    Calls Tryd.prog 21 #[.int .i64 f, .slice (some ⟨b, off, none⟩) n cap] w fun e w' => e = .returned (.bool (gdL f l)) ∧ Below w.heap.size w w' := by
  have hfr : frB f = true := by simp [frB, hf, hf2]
  have Hfr := Lib.hid hfr
  clear hfr
  go_enter Tryd.func21, Tryd.ntmps21
  go_wp2_with fail
  refine (caFriends_any f w).mono ?_
  rintro e w' ⟨rfl, rfl⟩
  rw [Hfr.out]
  go_wp2_with fail
  go_loopw [17] (fun i wr => ∃ k : Nat, k ≤ n ∧ i = .int .i64 k ∧ goodToL f l k ∧ Below w.heap.size w wr) (fun i _ => n - (intOf i).toNat)
  case atStart => exact ⟨0, Nat.zero_le _, rfl, goodToL_zero f l, Below.refl _ _⟩
  case round =>
    obtain ⟨k, hk, rfl, hgd, hbel⟩ := hrel
    have Hgd := Lib.hid hgd
    clear hgd
    by_cases hlt : k < n
    · have h0 := hbel.cell (p := ⟨b, off + k * 2, none⟩) (World.block_lt_of_cell? w _ (Hc.out k hlt).1)
      have h1 := hbel.cell (p := ⟨b, off + k * 2 + 1, none⟩) (World.block_lt_of_cell? w _ (Hc.out k hlt).2)
      rw [(Hc.out k hlt).1] at h0
      rw [(Hc.out k hlt).2] at h1
      have hs := hbel.size
      go_wp2_with fail
      refine (leLetter_any f _ _ _ hf hf2).mono ?_
      rintro e w2 ⟨rfl, hb2⟩
      have hb3 : Below w.heap.size w w2 := (hbel.alloc hs _).trans (hb2.mono (by simp; omega))
      clear hb2
      cases hc : letB f (ca l k) (cb l k)
      · have Hno := Lib.hid (gl_no (f := f) (by rw [← Hn.out]; exact hlt) hc)
        clear hc
        go_wp2_with fail
        go_ret
        exact ⟨ret_bool Hno.out.symm, hb3⟩
      · have Hgd2 := Lib.hid (goodToL_succ Hgd.out (by rw [← Hn.out]; exact hlt) hc)
        clear hc
        go_wp2_with fail
        go_roundw
        case rel => exact ⟨k + 1, by omega, by go_num, Hgd2.out, hb3⟩
        case measure => simp [intOf]; omega
    · obtain rfl : k = n := by omega
      have Hyes := Lib.hid (gl_yes Hn.out Hfr.out hl Hgd.out)
      go_wp2_with fail
      go_ret
      exact ⟨ret_bool Hyes.out.symm, hbel⟩

theorem leGood_any (f : Int) (ao : Option Addr) (cap : Nat) (l : List (Int × Int)) (n : Nat) (w : World) (hn : n = l.length) (hm : n ≤ 9223372036854775807) (hc : CallsAt w ao l) :
    Calls Tryd.prog 21 #[.int .i64 f, .slice ao n cap] w fun e w' => e = .returned (.bool (gdL f l)) ∧ Below w.heap.size w w' := by
  cases hf : frB f
  · have hg : gdL f l = false := by simp [gdL, hf]
    rw [hg]
    have Hf := Lib.hid hf
    clear hf hg hc hn
    go_enter Tryd.func21, Tryd.ntmps21
    go_wp2_with fail
    refine (caFriends_any f w).mono ?_
    rintro e w' ⟨rfl, rfl⟩
    rw [Hf.out]
    go_wp2_with fail
    go_ret
    exact ⟨rfl, Below.refl _ _⟩
  · by_cases hl : n ≤ 60
    · have hff : 1 ≤ f ∧ f ≤ 10 := by simpa [frB] using hf
      by_cases h0 : n = 0
      · subst h0
        have hl0 : l = [] := List.eq_nil_of_length_eq_zero hn.symm
        have hg : gdL f l = true := by simp [gdL, hf, hl0]
        rw [hg]
        have Hf := Lib.hid hf
        clear hf hg hc hn hl0
        go_enter Tryd.func21, Tryd.ntmps21
        go_wp2_with fail
        refine (caFriends_any f w).mono ?_
        rintro e w' ⟨rfl, rfl⟩
        rw [Hf.out]
        go_wp2_with fail
        go_rounds 1
        go_ret
        exact ⟨rfl, Below.refl _ _⟩
      · rcases hc with h | ⟨b, off, rfl, hc⟩
        · subst h; exact absurd hn h0
        · exact leGood_pos b off cap f l n w hn hl hff.1 hff.2 (by rw [hn]; exact hc)
    · have hg : gdL f l = false := by simp [gdL, ← hn, hl]
      rw [hg]
      have Hf := Lib.hid hf
      have hd : decide ((n : Int) > 60) = true := by simp; omega
      clear hf hg hc hn
      go_enter Tryd.func21, Tryd.ntmps21
      go_wp2_with fail
      refine (caFriends_any f w).mono ?_
      rintro e w' ⟨rfl, rfl⟩
      rw [Hf.out]
      go_wp2_with fail
      go_ret
      exact ⟨rfl, Below.refl _ _⟩

/-- The program's loop, at a list that is not too long. -/
theorem areLetters_pos (b off cap : Nat) (f : Int) (l : List (Int × Int)) (n : Nat) (w : World) (Hn : Hid (n = l.length)) (hl : n ≤ 60) (hf : 1 ≤ f) (hf2 : f ≤ 10)
    (Hc : Hid (∀ i, i < n → w.cell? ⟨b, off + i * 2, none⟩ = some (.int .i64 (ca l i)) ∧ w.cell? ⟨b, off + i * 2 + 1, none⟩ = some (.int .i64 (cb l i)))) :
    Calls Tryd.prog 23 #[.int .i64 f, .slice (some ⟨b, off, none⟩) n cap] w fun e w' => e = .returned (.bool (gdL f l)) ∧ Below w.heap.size w w' := by
  have hfr : frB f = true := by simp [frB, hf, hf2]
  have Hfr := Lib.hid hfr
  clear hfr
  go_enter Tryd.func23, Tryd.ntmps23
  go_wp2_with fail
  refine (canBeFriends_any f w).mono ?_
  rintro e w' ⟨rfl, rfl⟩
  rw [Hfr.out]
  go_wp2_with fail
  go_loopw [17] (fun i wr => ∃ k : Nat, k ≤ n ∧ i = .int .i64 k ∧ goodToL f l k ∧ Below w.heap.size w wr) (fun i _ => n - (intOf i).toNat)
  case atStart => exact ⟨0, Nat.zero_le _, rfl, goodToL_zero f l, Below.refl _ _⟩
  case round =>
    obtain ⟨k, hk, rfl, hgd, hbel⟩ := hrel
    have Hgd := Lib.hid hgd
    clear hgd
    by_cases hlt : k < n
    · have h0 := hbel.cell (p := ⟨b, off + k * 2, none⟩) (World.block_lt_of_cell? w _ (Hc.out k hlt).1)
      have h1 := hbel.cell (p := ⟨b, off + k * 2 + 1, none⟩) (World.block_lt_of_cell? w _ (Hc.out k hlt).2)
      rw [(Hc.out k hlt).1] at h0
      rw [(Hc.out k hlt).2] at h1
      have hs := hbel.size
      go_wp2_with fail
      refine (isLetter_any f _ _ _).mono ?_
      rintro e w2 ⟨rfl, hb2⟩
      have hb3 : Below w.heap.size w w2 := (hbel.alloc hs _).trans (hb2.mono (by simp; omega))
      clear hb2
      cases hc : letB f (ca l k) (cb l k)
      · have Hno := Lib.hid (gl_no (f := f) (by rw [← Hn.out]; exact hlt) hc)
        clear hc
        go_wp2_with fail
        go_ret
        exact ⟨ret_bool Hno.out.symm, hb3⟩
      · have Hgd2 := Lib.hid (goodToL_succ Hgd.out (by rw [← Hn.out]; exact hlt) hc)
        clear hc
        go_wp2_with fail
        go_roundw
        case rel => exact ⟨k + 1, by omega, by go_num, Hgd2.out, hb3⟩
        case measure => simp [intOf]; omega
    · obtain rfl : k = n := by omega
      have Hyes := Lib.hid (gl_yes Hn.out Hfr.out hl Hgd.out)
      go_wp2_with fail
      go_ret
      exact ⟨ret_bool Hyes.out.symm, hbel⟩

theorem areLetters_any (f : Int) (ao : Option Addr) (cap : Nat) (l : List (Int × Int)) (n : Nat) (w : World) (hn : n = l.length) (hm : n ≤ 9223372036854775807) (hc : CallsAt w ao l) :
    Calls Tryd.prog 23 #[.int .i64 f, .slice ao n cap] w fun e w' => e = .returned (.bool (gdL f l)) ∧ Below w.heap.size w w' := by
  cases hf : frB f
  · have hg : gdL f l = false := by simp [gdL, hf]
    rw [hg]
    have Hf := Lib.hid hf
    clear hf hg hc hn
    go_enter Tryd.func23, Tryd.ntmps23
    go_wp2_with fail
    refine (canBeFriends_any f w).mono ?_
    rintro e w' ⟨rfl, rfl⟩
    rw [Hf.out]
    go_wp2_with fail
    go_ret
    exact ⟨rfl, Below.refl _ _⟩
  · by_cases hl : n ≤ 60
    · have hff : 1 ≤ f ∧ f ≤ 10 := by simpa [frB] using hf
      by_cases h0 : n = 0
      · subst h0
        have hl0 : l = [] := List.eq_nil_of_length_eq_zero hn.symm
        have hg : gdL f l = true := by simp [gdL, hf, hl0]
        rw [hg]
        have Hf := Lib.hid hf
        clear hf hg hc hn hl0
        go_enter Tryd.func23, Tryd.ntmps23
        go_wp2_with fail
        refine (canBeFriends_any f w).mono ?_
        rintro e w' ⟨rfl, rfl⟩
        rw [Hf.out]
        go_wp2_with fail
        go_rounds 1
        go_ret
        exact ⟨rfl, Below.refl _ _⟩
      · rcases hc with h | ⟨b, off, rfl, hc⟩
        · subst h; exact absurd hn h0
        · exact areLetters_pos b off cap f l n w hn hl hff.1 hff.2 (by rw [hn]; exact hc)
    · have hg : gdL f l = false := by simp [gdL, ← hn, hl]
      rw [hg]
      have Hf := Lib.hid hf
      have hd : decide ((n : Int) > 60) = true := by simp; omega
      clear hf hg hc hn
      go_enter Tryd.func23, Tryd.ntmps23
      go_wp2_with fail
      refine (canBeFriends_any f w).mono ?_
      rintro e w' ⟨rfl, rfl⟩
      rw [Hf.out]
      go_wp2_with fail
      go_ret
      exact ⟨rfl, Below.refl _ _⟩

theorem gl_len2 {f : Int} {l : List (Int × Int)} (h : gdL f l = true) : l.length ≤ 60 := by
  simp only [gdL, Bool.and_eq_true, decide_eq_true_eq] at h
  exact h.1.2

theorem gl_letter {f : Int} {l : List (Int × Int)} (h : gdL f l = true) {i : Nat} (hi : i < l.length) : 0 ≤ ca l i ∧ ca l i < f ∧ 0 ≤ cb l i ∧ cb l i < f ∧ ca l i ≠ cb l i := by
  simp only [gdL, Bool.and_eq_true, List.all_eq_true] at h
  have h2 := h.2 l[i] (List.getElem_mem hi)
  rw [ca_cb l i hi] at h2
  simpa [letB] using h2

theorem gl_fr {f : Int} {l : List (Int × Int)} (h : gdL f l = true) : 1 ≤ f ∧ f ≤ 10 := by
  simp only [gdL, Bool.and_eq_true] at h
  simpa [frB] using h.1.1
end Go.Proofs.YtfbkpdmphlgokaaDoor
