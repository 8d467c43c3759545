/- AreClaims, both sides. -/
import Derived.Test.YtaangjidkkpogaaDoorCst
namespace Go.Proofs.YtaangjidkkpogaaDoor
open Go.ChangeShapes Go.WideShapes Go.ChangeAt Go.RowKit
set_option linter.unusedVariables false


theorem canBe_any (f : Int) (w : World) : Calls Tryd.prog 48 #[.int .i64 f] w fun e w' => e = .returned (.bool (frB f)) ∧ w = w' := by
  by_cases h1 : 1 ≤ f
  · by_cases h2 : f ≤ 8
    · have hf : frB f = true := by simp [frB, h1, h2]
      rw [hf]
      go_enter Tryd.func48, Tryd.ntmps48
      go_wp2
      go_ret
      exact ⟨rfl, rfl⟩
    · have hf : frB f = false := by simp [frB, h2]
      have hd : decide (f ≤ 8) = false := by simpa using h2
      rw [hf]
      go_enter Tryd.func48, Tryd.ntmps48
      go_wp2
      go_ret
      exact ⟨by simp, rfl⟩
  · have hf : frB f = false := by simp [frB, h1]
    have hd : decide (1 ≤ f) = false := by simpa using h1
    rw [hf]
    go_enter Tryd.func48, Tryd.ntmps48
    go_wp2
    go_ret
    exact ⟨rfl, rfl⟩

theorem isFriend_yes (f x : Int) (w : World) (h1 : 0 ≤ x) (h2 : x < f) : Calls Tryd.prog 45 #[.int .i64 f, .int .i64 x] w fun e w' => e = .returned (.bool true) ∧ w = w' := by
  go_enter Tryd.func45, Tryd.ntmps45
  go_wp2
  go_ret
  exact ⟨rfl, rfl⟩
theorem isFriend_no (f x : Int) (w : World) (h : ¬ (0 ≤ x ∧ x < f)) : Calls Tryd.prog 45 #[.int .i64 f, .int .i64 x] w fun e w' => e = .returned (.bool false) ∧ w = w' := by
  by_cases h1 : 0 ≤ x
  · have hd : decide (x < f) = false := by simp; omega
    go_enter Tryd.func45, Tryd.ntmps45
    go_wp2
    go_ret
    exact ⟨by simp, rfl⟩
  · go_enter Tryd.func45, Tryd.ntmps45
    go_wp2
    go_ret
    exact ⟨rfl, rfl⟩
theorem isFriend_any (f x : Int) (w : World) : Calls Tryd.prog 45 #[.int .i64 f, .int .i64 x] w fun e w' => e = .returned (.bool (decide (0 ≤ x ∧ x < f))) ∧ w = w' := by
  by_cases h : 0 ≤ x ∧ x < f
  · simpa [h] using isFriend_yes f x w h.1 h.2
  · simpa [h] using isFriend_no f x w h
theorem l1In_any (x a b : Int) (w : World) : Calls Tryd.prog 43 #[.int .i64 x, .int .i64 a, .int .i64 b] w fun e w' => e = .returned (.bool (decide (a ≤ x ∧ x ≤ b))) ∧ w = w' := by
  by_cases h1 : a ≤ x
  · by_cases h2 : x ≤ b
    · have hf : decide (a ≤ x ∧ x ≤ b) = true := by simp [h1, h2]
      rw [hf]
      go_enter Tryd.func43, Tryd.ntmps43
      go_wp2
      go_ret
      exact ⟨rfl, rfl⟩
    · have hf : decide (a ≤ x ∧ x ≤ b) = false := by simp [h2]
      have hd : decide (x ≤ b) = false := by simpa using h2
      rw [hf]
      go_enter Tryd.func43, Tryd.ntmps43
      go_wp2
      go_ret
      exact ⟨by simp, rfl⟩
  · have hf : decide (a ≤ x ∧ x ≤ b) = false := by simp [h1]
    have hd : decide (a ≤ x) = false := by simpa using h1
    rw [hf]
    go_enter Tryd.func43, Tryd.ntmps43
    go_wp2
    go_ret
    exact ⟨rfl, rfl⟩
theorem liFriends_any (f : Int) (w : World) : Calls Tryd.prog 47 #[.int .i64 f] w fun e w' => e = .returned (.bool (frB f)) ∧ w = w' := by
  go_enter Tryd.func47, Tryd.ntmps47
  go_wp2_with fail
  refine (l1In_any f 1 8 _).mono ?_
  rintro e w' ⟨rfl, rfl⟩
  go_wp2_with fail
  go_ret
  exact ⟨ret_bool (by simp [frB]), rfl⟩
theorem good_step {f : Int} {l : List Snd} {k : Nat} (h : ∀ i, i < k → cl1 f (sf l i, st l i, sm l i) = true) (hc : cl1 f (sf l k, st l k, sm l k) = true) : ∀ i, i < k + 1 → cl1 f (sf l i, st l i, sm l i) = true := by
  intro i hi
  by_cases h1 : i = k
  · subst h1; exact hc
  · exact h i (by omega)
theorem cl1_yes {f : Int} {l : List Snd} {k : Nat} (h1 : 0 ≤ sf l k ∧ sf l k < f) (h2 : 0 ≤ st l k ∧ st l k < f) : cl1 f (sf l k, st l k, sm l k) = true := by simp [cl1, h1, h2]
theorem cl1_no1 {f : Int} {l : List Snd} {k : Nat} (h1 : ¬ (0 ≤ sf l k ∧ sf l k < f)) : cl1 f (sf l k, st l k, sm l k) = false := by simp only [cl1, decide_eq_false h1, Bool.false_and]
theorem cl1_no2 {f : Int} {l : List Snd} {k : Nat} (h1 : ¬ (0 ≤ st l k ∧ st l k < f)) : cl1 f (sf l k, st l k, sm l k) = false := by simp only [cl1, decide_eq_false h1, Bool.and_false]

theorem l1In_yes (x a b : Int) (w : World) (h : a ≤ x ∧ x ≤ b) : Calls Tryd.prog 43 #[.int .i64 x, .int .i64 a, .int .i64 b] w fun e w' => e = .returned (.bool true) ∧ w = w' := by
  simpa [h] using l1In_any x a b w
theorem l1In_no (x a b : Int) (w : World) (h : ¬ (a ≤ x ∧ x ≤ b)) : Calls Tryd.prog 43 #[.int .i64 x, .int .i64 a, .int .i64 b] w fun e w' => e = .returned (.bool false) ∧ w = w' := by
  simpa [h] using l1In_any x a b w

set_option maxRecDepth 20000 in
theorem implAC_pos (b off cap : Nat) (f : Int) (l : List Snd) (n : Nat) (w : World) (Hn : Hid (n = l.length)) (hn : n ≤ 20) (hf : Hid (frB f = true)) (hf1 : 1 ≤ f) (hf2 : f ≤ 8) (Hc : Hid (∀ i, i < n → Sat3 w b off l i)) :
    Calls Tryd.prog 31 #[.int .i64 f, .slice (some ⟨b, off, none⟩) n cap] w fun e w' => e = .returned (.bool (clB f l)) ∧ Below w.heap.size w w' := by
  obtain ⟨r, Hr⟩ : ∃ r : Bool, Hid (r = clB f l) := ⟨_, Lib.hid rfl⟩
  rw [← Hr.out]
  have hd20 : decide ((n : Int) > 20) = false := by simp; omega
  go_enter Tryd.func31, Tryd.ntmps31
  go_wp2_with fail
  refine (canBe_any f _).mono ?_
  rintro e w' ⟨rfl, rfl⟩
  rw [hf.out]
  go_wp2_with fail
  go_loopw [17] (fun i wr => ∃ k : Nat, k ≤ n ∧ i = .int .i64 k ∧ Below w.heap.size w wr ∧ ∀ i, i < k → cl1 f (sf l i, st l i, sm l i) = true) (fun i _ => n - (intOf i).toNat)
  case atStart => exact ⟨0, Nat.zero_le _, rfl, Below.refl _ _, fun i hi => absurd hi (Nat.not_lt_zero _)⟩
  case round =>
    obtain ⟨k, hk, rfl, hbel, hgd⟩ := hrel
    have Hgd := Lib.hid hgd
    clear hgd
    by_cases hlt : k < n
    · obtain ⟨h0, h1, h2⟩ := (Hc.out k hlt).kept hbel
      have hb2 := hbel.alloc hbel.size (.cells #[.int .i64 (sf l k), .int .i64 (st l k), .bool (sm l k)] 48)
      by_cases ha : 0 ≤ sf l k ∧ sf l k < f
      · by_cases hb : 0 ≤ st l k ∧ st l k < f
        · go_wp2_with fail
          refine (isFriend_yes f _ _ ha.1 ha.2).mono ?_
          rintro e w' ⟨rfl, rfl⟩
          go_wp2_with fail
          refine (isFriend_yes f _ _ hb.1 hb.2).mono ?_
          rintro e w' ⟨rfl, rfl⟩
          go_wp2_with fail
          go_roundw
          case rel => exact ⟨k + 1, by omega, by go_num, by go_grown, good_step Hgd.out (cl1_yes ha hb)⟩
          case measure => simp [intOf]; omega
        · have hR := cl1_no2 (l := l) hb
          have hRf : r = false := by rw [Hr.out, clB, all_no (by rw [← Hn.out]; exact hlt) hR]; simp
          have HR := Lib.hid hRf
          clear hR hRf
          go_wp2_with fail
          refine (isFriend_yes f _ _ ha.1 ha.2).mono ?_
          rintro e w' ⟨rfl, rfl⟩
          go_wp2_with fail
          refine (isFriend_no f _ _ hb).mono ?_
          rintro e w' ⟨rfl, rfl⟩
          go_wp2_with fail
          go_ret
          exact ⟨ret_bool HR.out.symm, by go_grown⟩
      · have hR := cl1_no1 (l := l) ha
        have hRf : r = false := by rw [Hr.out, clB, all_no (by rw [← Hn.out]; exact hlt) hR]; simp
        have HR := Lib.hid hRf
        clear hR hRf
        go_wp2_with fail
        refine (isFriend_no f _ _ ha).mono ?_
        rintro e w' ⟨rfl, rfl⟩
        go_wp2_with fail
        go_ret
        exact ⟨ret_bool HR.out.symm, by go_grown⟩
    · have hR : r = true := by
        rw [Hr.out, clB, hf.out, all_yes (fun i hi => Hgd.out i (by have := Hn.out; omega))]
        have := Hn.out
        simp; omega
      go_wp2
      go_ret
      exact ⟨ret_bool hR.symm, hbel⟩

set_option maxRecDepth 20000 in
theorem implAC_zero (ao : Option Addr) (cap : Nat) (f : Int) (w : World) (hf : Hid (frB f = true)) :
    Calls Tryd.prog 31 #[.int .i64 f, .slice ao 0 cap] w fun e w' => e = .returned (.bool true) ∧ Below w.heap.size w w' := by
  go_enter Tryd.func31, Tryd.ntmps31
  go_wp2_with fail
  refine (canBe_any f _).mono ?_
  rintro e w' ⟨rfl, rfl⟩
  rw [hf.out]
  go_wp2_with fail
  go_rounds 1
  go_ret
  exact ⟨rfl, Below.refl _ _⟩

theorem implAC_any (w : World) (f : Int) (ao : Option Addr) (cap : Nat) (l : List Snd) (n : Nat) (Hn : Hid (n = l.length)) (hn : n ≤ 1048576) (hc : SendsAt w ao l) :
    Calls Tryd.prog 31 #[.int .i64 f, .slice ao n cap] w fun e w' => e = .returned (.bool (clB f l)) ∧ Below w.heap.size w w' := by
  cases hf : frB f
  · have hR : clB f l = false := by simp [clB, hf]
    rw [hR]
    have Hf := Lib.hid hf
    clear hf hR hc
    go_enter Tryd.func31, Tryd.ntmps31
    go_wp2_with fail
    refine (canBe_any f _).mono ?_
    rintro e w' ⟨rfl, rfl⟩
    rw [Hf.out]
    go_wp2_with fail
    go_ret
    exact ⟨rfl, Below.refl _ _⟩
  · by_cases h20 : n ≤ 20
    · have hff := hf
      simp only [frB, decide_eq_true_eq] at hff
      by_cases h0 : n = 0
      · subst h0
        have : l = [] := List.eq_nil_of_length_eq_zero Hn.out.symm
        subst this
        simpa [clB, hf] using implAC_zero ao cap f w hf
      · rcases hc with h | ⟨b, off, rfl, hc⟩
        · subst h; exact absurd Hn.out h0
        · exact implAC_pos b off cap f l n w Hn h20 hf hff.1 hff.2 (by rw [Hn.out]; exact hc)
    · have hR : clB f l = false := by
        have := Hn.out
        simp only [clB, decide_eq_false (show ¬ l.length ≤ 20 by omega), Bool.false_and, Bool.and_false]
      rw [hR]
      have Hf := Lib.hid hf
      have hd : decide ((n : Int) > 20) = true := by simp; omega
      clear hf hR hc
      go_enter Tryd.func31, Tryd.ntmps31
      go_wp2_with fail
      refine (canBe_any f _).mono ?_
      rintro e w' ⟨rfl, rfl⟩
      rw [Hf.out]
      go_wp2_with fail
      go_ret
      exact ⟨rfl, Below.refl _ _⟩

set_option maxRecDepth 20000 in
theorem liGood_pos (b off cap : Nat) (f : Int) (l : List Snd) (n : Nat) (w : World) (Hn : Hid (n = l.length)) (hn : n ≤ 20) (hf : Hid (frB f = true)) (hf1 : 1 ≤ f) (hf2 : f ≤ 8) (Hc : Hid (∀ i, i < n → Sat3 w b off l i)) :
    Calls Tryd.prog 27 #[.int .i64 f, .slice (some ⟨b, off, none⟩) n cap] w fun e w' => e = .returned (.bool (clB f l)) ∧ Below w.heap.size w w' := by
  obtain ⟨r, Hr⟩ : ∃ r : Bool, Hid (r = clB f l) := ⟨_, Lib.hid rfl⟩
  rw [← Hr.out]
  have hd20 : decide ((n : Int) > 20) = false := by simp; omega
  go_enter Tryd.func27, Tryd.ntmps27
  go_wp2_with fail
  refine (liFriends_any f _).mono ?_
  rintro e w' ⟨rfl, rfl⟩
  rw [hf.out]
  go_wp2_with fail
  go_loopw [17] (fun i wr => ∃ k : Nat, k ≤ n ∧ i = .int .i64 k ∧ Below w.heap.size w wr ∧ ∀ i, i < k → cl1 f (sf l i, st l i, sm l i) = true) (fun i _ => n - (intOf i).toNat)
  case atStart => exact ⟨0, Nat.zero_le _, rfl, Below.refl _ _, fun i hi => absurd hi (Nat.not_lt_zero _)⟩
  case round =>
    obtain ⟨k, hk, rfl, hbel, hgd⟩ := hrel
    have Hgd := Lib.hid hgd
    clear hgd
    by_cases hlt : k < n
    · obtain ⟨h0, h1, h2⟩ := (Hc.out k hlt).kept hbel
      have hb2 := hbel.alloc hbel.size (.cells #[.int .i64 (sf l k), .int .i64 (st l k), .bool (sm l k)] 48)
      by_cases ha : 0 ≤ sf l k ∧ sf l k < f
      · by_cases hb : 0 ≤ st l k ∧ st l k < f
        · go_wp2_with fail
          refine (l1In_yes _ 0 _ _ (by omega)).mono ?_
          rintro e w' ⟨rfl, rfl⟩
          go_wp2_with fail
          refine (l1In_yes _ 0 _ _ (by omega)).mono ?_
          rintro e w' ⟨rfl, rfl⟩
          go_wp2_with fail
          go_roundw
          case rel => exact ⟨k + 1, by omega, by go_num, by go_grown, good_step Hgd.out (cl1_yes ha hb)⟩
          case measure => simp [intOf]; omega
        · have hR := cl1_no2 (l := l) hb
          have hRf : r = false := by rw [Hr.out, clB, all_no (by rw [← Hn.out]; exact hlt) hR]; simp
          have HR := Lib.hid hRf
          clear hR hRf
          go_wp2_with fail
          refine (l1In_yes _ 0 _ _ (by omega)).mono ?_
          rintro e w' ⟨rfl, rfl⟩
          go_wp2_with fail
          refine (l1In_no _ 0 _ _ (by omega)).mono ?_
          rintro e w' ⟨rfl, rfl⟩
          go_wp2_with fail
          go_ret
          exact ⟨ret_bool HR.out.symm, by go_grown⟩
      · have hR := cl1_no1 (l := l) ha
        have hRf : r = false := by rw [Hr.out, clB, all_no (by rw [← Hn.out]; exact hlt) hR]; simp
        have HR := Lib.hid hRf
        clear hR hRf
        go_wp2_with fail
        refine (l1In_no _ 0 _ _ (by omega)).mono ?_
        rintro e w' ⟨rfl, rfl⟩
        go_wp2_with fail
        go_ret
        exact ⟨ret_bool HR.out.symm, by go_grown⟩
    · have hR : r = true := by
        rw [Hr.out, clB, hf.out, all_yes (fun i hi => Hgd.out i (by have := Hn.out; omega))]
        have := Hn.out
        simp; omega
      go_wp2
      go_ret
      exact ⟨ret_bool hR.symm, hbel⟩

set_option maxRecDepth 20000 in
theorem liGood_zero (ao : Option Addr) (cap : Nat) (f : Int) (w : World) (hf : Hid (frB f = true)) :
    Calls Tryd.prog 27 #[.int .i64 f, .slice ao 0 cap] w fun e w' => e = .returned (.bool true) ∧ Below w.heap.size w w' := by
  go_enter Tryd.func27, Tryd.ntmps27
  go_wp2_with fail
  refine (liFriends_any f _).mono ?_
  rintro e w' ⟨rfl, rfl⟩
  rw [hf.out]
  go_wp2_with fail
  go_rounds 1
  go_ret
  exact ⟨rfl, Below.refl _ _⟩

theorem liGood_any (w : World) (f : Int) (ao : Option Addr) (cap : Nat) (l : List Snd) (n : Nat) (Hn : Hid (n = l.length)) (hn : n ≤ 1048576) (hc : SendsAt w ao l) :
    Calls Tryd.prog 27 #[.int .i64 f, .slice ao n cap] w fun e w' => e = .returned (.bool (clB f l)) ∧ Below w.heap.size w w' := by
  cases hf : frB f
  · have hR : clB f l = false := by simp [clB, hf]
    rw [hR]
    have Hf := Lib.hid hf
    clear hf hR hc
    go_enter Tryd.func27, Tryd.ntmps27
    go_wp2_with fail
    refine (liFriends_any f _).mono ?_
    rintro e w' ⟨rfl, rfl⟩
    rw [Hf.out]
    go_wp2_with fail
    go_ret
    exact ⟨rfl, Below.refl _ _⟩
  · by_cases h20 : n ≤ 20
    · have hff := hf
      simp only [frB, decide_eq_true_eq] at hff
      by_cases h0 : n = 0
      · subst h0
        have : l = [] := List.eq_nil_of_length_eq_zero Hn.out.symm
        subst this
        simpa [clB, hf] using liGood_zero ao cap f w hf
      · rcases hc with h | ⟨b, off, rfl, hc⟩
        · subst h; exact absurd Hn.out h0
        · exact liGood_pos b off cap f l n w Hn h20 hf hff.1 hff.2 (by rw [Hn.out]; exact hc)
    · have hR : clB f l = false := by
        have := Hn.out
        simp only [clB, decide_eq_false (show ¬ l.length ≤ 20 by omega), Bool.false_and, Bool.and_false]
      rw [hR]
      have Hf := Lib.hid hf
      have hd : decide ((n : Int) > 20) = true := by simp; omega
      clear hf hR hc
      go_enter Tryd.func27, Tryd.ntmps27
      go_wp2_with fail
      refine (liFriends_any f _).mono ?_
      rintro e w' ⟨rfl, rfl⟩
      rw [Hf.out]
      go_wp2_with fail
      go_ret
      exact ⟨rfl, Below.refl _ _⟩

end Go.Proofs.YtaangjidkkpogaaDoor
