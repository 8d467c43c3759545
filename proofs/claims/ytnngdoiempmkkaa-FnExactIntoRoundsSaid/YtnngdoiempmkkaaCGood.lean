/- These are calls of so many friends: the model and the program. -/
import Derived.Test.YtnngdoiempmkkaaGood
namespace Go.Proofs.Ytnngdoiempmkkaa
open Go.ChangeShapes Go.WideShapes Go.ChangeAt Go.RowKit

/-- What both loops do, at a list that is not too long. -/
theorem caGood_pos (b off cap : Nat) (f : Int) (l : List (Int × Int)) (n : Nat) (w : World) (Hn : Hid (n = l.length)) (hl : n ≤ 60) (hf : 1 ≤ f) (hf2 : f ≤ 10)
    (Hc : Hid (∀ i, i < n → w.cell? ⟨b, off + i * 2, none⟩ = some (.int .i64 (ca l i)) ∧ w.cell? ⟨b, off + i * 2 + 1, none⟩ = some (.int .i64 (cb l i)))) :
    Calls Try.prog 30 #[.int .i64 f, .slice (some ⟨b, off, none⟩) n cap] w fun e w' => e = .returned (.bool (gdB f l)) ∧ Below w.heap.size w w' := by
  have hfr : frB f = true := by simp [frB, hf, hf2]
  have Hfr := Lib.hid hfr
  clear hfr
  go_enter Try.func30, Try.ntmps30
  go_wp2_with fail
  refine (caFriends_any f w).mono ?_
  rintro e w' ⟨rfl, rfl⟩
  rw [Hfr.out]
  go_wp2_with fail
  go_loopw [17] (fun i wr => ∃ k : Nat, k ≤ n ∧ i = .int .i64 k ∧ goodTo f l k ∧ Below w.heap.size w wr) (fun i _ => n - (intOf i).toNat)
  case atStart => exact ⟨0, Nat.zero_le _, rfl, goodTo_zero f l, Below.refl _ _⟩
  case round =>
    obtain ⟨k, hk, rfl, hgd, hbel⟩ := hrel
    have Hgd := Lib.hid hgd
    clear hgd
    by_cases hlt : k < n
    · have h0 := hbel.cell (p := ⟨b, off + k * 2, none⟩) (World.block_lt_of_cell? w _ (Hc.out k hlt).1)
      have h1 := hbel.cell (p := ⟨b, off + k * 2 + 1, none⟩) (World.block_lt_of_cell? w _ (Hc.out k hlt).2)
      rw [(Hc.out k hlt).1] at h0
      rw [(Hc.out k hlt).2] at h1
      have hs := hbel.size
      go_wp2_with fail
      refine (caCall_any f _ _ _ hf hf2).mono ?_
      rintro e w2 ⟨rfl, hb2⟩
      have hb3 : Below w.heap.size w w2 := (hbel.alloc hs _).trans (hb2.mono (by simp; omega))
      clear hb2
      cases hc : calB f (ca l k) (cb l k)
      · have Hno := Lib.hid (gd_no (f := f) (by rw [← Hn.out]; exact hlt) hc)
        clear hc
        go_wp2_with fail
        go_ret
        exact ⟨ret_bool Hno.out.symm, hb3⟩
      · have Hgd2 := Lib.hid (goodTo_succ Hgd.out (by rw [← Hn.out]; exact hlt) hc)
        clear hc
        go_wp2_with fail
        go_roundw
        case rel => exact ⟨k + 1, by omega, by go_num, Hgd2.out, hb3⟩
        case measure => simp [intOf]; omega
    · obtain rfl : k = n := by omega
      have Hyes := Lib.hid (gd_yes Hn.out Hfr.out hl Hgd.out)
      go_wp2_with fail
      go_ret
      exact ⟨ret_bool Hyes.out.symm, hbel⟩

theorem caGood_any (f : Int) (ao : Option Addr) (cap : Nat) (l : List (Int × Int)) (n : Nat) (w : World) (hn : n = l.length) (hm : n ≤ 9223372036854775807) (hc : CallsAt w ao l) :
    Calls Try.prog 30 #[.int .i64 f, .slice ao n cap] w fun e w' => e = .returned (.bool (gdB f l)) ∧ Below w.heap.size w w' := by
  cases hf : frB f
  · have hg : gdB f l = false := by simp [gdB, hf]
    rw [hg]
    have Hf := Lib.hid hf
    clear hf hg hc hn
    go_enter Try.func30, Try.ntmps30
    go_wp2_with fail
    refine (caFriends_any f w).mono ?_
    rintro e w' ⟨rfl, rfl⟩
    rw [Hf.out]
    go_wp2_with fail
    go_ret
    exact ⟨rfl, Below.refl _ _⟩
  · by_cases hl : n ≤ 60
    · have hff : 1 ≤ f ∧ f ≤ 10 := by simpa [frB] using hf
      by_cases h0 : n = 0
      · subst h0
        have hl0 : l = [] := List.eq_nil_of_length_eq_zero hn.symm
        have hg : gdB f l = true := by simp [gdB, hf, hl0]
        rw [hg]
        have Hf := Lib.hid hf
        clear hf hg hc hn hl0
        go_enter Try.func30, Try.ntmps30
        go_wp2_with fail
        refine (caFriends_any f w).mono ?_
        rintro e w' ⟨rfl, rfl⟩
        rw [Hf.out]
        go_wp2_with fail
        go_rounds 1
        go_ret
        exact ⟨rfl, Below.refl _ _⟩
      · rcases hc with h | ⟨b, off, rfl, hc⟩
        · subst h; exact absurd hn h0
        · exact caGood_pos b off cap f l n w hn hl hff.1 hff.2 (by rw [hn]; exact hc)
    · have hg : gdB f l = false := by simp [gdB, ← hn, hl]
      rw [hg]
      have Hf := Lib.hid hf
      have hd : decide ((n : Int) > 60) = true := by simp; omega
      clear hf hg hc hn
      go_enter Try.func30, Try.ntmps30
      go_wp2_with fail
      refine (caFriends_any f w).mono ?_
      rintro e w' ⟨rfl, rfl⟩
      rw [Hf.out]
      go_wp2_with fail
      go_ret
      exact ⟨rfl, Below.refl _ _⟩

/-- The program's loop, at a list that is not too long. -/
theorem areCalls_pos (b off cap : Nat) (f : Int) (l : List (Int × Int)) (n : Nat) (w : World) (Hn : Hid (n = l.length)) (hl : n ≤ 60) (hf : 1 ≤ f) (hf2 : f ≤ 10)
    (Hc : Hid (∀ i, i < n → w.cell? ⟨b, off + i * 2, none⟩ = some (.int .i64 (ca l i)) ∧ w.cell? ⟨b, off + i * 2 + 1, none⟩ = some (.int .i64 (cb l i)))) :
    Calls Try.prog 34 #[.int .i64 f, .slice (some ⟨b, off, none⟩) n cap] w fun e w' => e = .returned (.bool (gdB f l)) ∧ Below w.heap.size w w' := by
  have hfr : frB f = true := by simp [frB, hf, hf2]
  have Hfr := Lib.hid hfr
  clear hfr
  go_enter Try.func34, Try.ntmps34
  go_wp2_with fail
  refine (canBeFriends_any f w).mono ?_
  rintro e w' ⟨rfl, rfl⟩
  rw [Hfr.out]
  go_wp2_with fail
  go_loopw [17] (fun i wr => ∃ k : Nat, k ≤ n ∧ i = .int .i64 k ∧ goodTo f l k ∧ Below w.heap.size w wr) (fun i _ => n - (intOf i).toNat)
  case atStart => exact ⟨0, Nat.zero_le _, rfl, goodTo_zero f l, Below.refl _ _⟩
  case round =>
    obtain ⟨k, hk, rfl, hgd, hbel⟩ := hrel
    have Hgd := Lib.hid hgd
    clear hgd
    by_cases hlt : k < n
    · have h0 := hbel.cell (p := ⟨b, off + k * 2, none⟩) (World.block_lt_of_cell? w _ (Hc.out k hlt).1)
      have h1 := hbel.cell (p := ⟨b, off + k * 2 + 1, none⟩) (World.block_lt_of_cell? w _ (Hc.out k hlt).2)
      rw [(Hc.out k hlt).1] at h0
      rw [(Hc.out k hlt).2] at h1
      have hs := hbel.size
      go_wp2_with fail
      refine (isCall_any f _ _ _).mono ?_
      rintro e w2 ⟨rfl, hb2⟩
      have hb3 : Below w.heap.size w w2 := (hbel.alloc hs _).trans (hb2.mono (by simp; omega))
      clear hb2
      cases hc : calB f (ca l k) (cb l k)
      · have Hno := Lib.hid (gd_no (f := f) (by rw [← Hn.out]; exact hlt) hc)
        clear hc
        go_wp2_with fail
        go_ret
        exact ⟨ret_bool Hno.out.symm, hb3⟩
      · have Hgd2 := Lib.hid (goodTo_succ Hgd.out (by rw [← Hn.out]; exact hlt) hc)
        clear hc
        go_wp2_with fail
        go_roundw
        case rel => exact ⟨k + 1, by omega, by go_num, Hgd2.out, hb3⟩
        case measure => simp [intOf]; omega
    · obtain rfl : k = n := by omega
      have Hyes := Lib.hid (gd_yes Hn.out Hfr.out hl Hgd.out)
      go_wp2_with fail
      go_ret
      exact ⟨ret_bool Hyes.out.symm, hbel⟩

theorem areCalls_any (f : Int) (ao : Option Addr) (cap : Nat) (l : List (Int × Int)) (n : Nat) (w : World) (hn : n = l.length) (hm : n ≤ 9223372036854775807) (hc : CallsAt w ao l) :
    Calls Try.prog 34 #[.int .i64 f, .slice ao n cap] w fun e w' => e = .returned (.bool (gdB f l)) ∧ Below w.heap.size w w' := by
  cases hf : frB f
  · have hg : gdB f l = false := by simp [gdB, hf]
    rw [hg]
    have Hf := Lib.hid hf
    clear hf hg hc hn
    go_enter Try.func34, Try.ntmps34
    go_wp2_with fail
    refine (canBeFriends_any f w).mono ?_
    rintro e w' ⟨rfl, rfl⟩
    rw [Hf.out]
    go_wp2_with fail
    go_ret
    exact ⟨rfl, Below.refl _ _⟩
  · by_cases hl : n ≤ 60
    · have hff : 1 ≤ f ∧ f ≤ 10 := by simpa [frB] using hf
      by_cases h0 : n = 0
      · subst h0
        have hl0 : l = [] := List.eq_nil_of_length_eq_zero hn.symm
        have hg : gdB f l = true := by simp [gdB, hf, hl0]
        rw [hg]
        have Hf := Lib.hid hf
        clear hf hg hc hn hl0
        go_enter Try.func34, Try.ntmps34
        go_wp2_with fail
        refine (canBeFriends_any f w).mono ?_
        rintro e w' ⟨rfl, rfl⟩
        rw [Hf.out]
        go_wp2_with fail
        go_rounds 1
        go_ret
        exact ⟨rfl, Below.refl _ _⟩
      · rcases hc with h | ⟨b, off, rfl, hc⟩
        · subst h; exact absurd hn h0
        · exact areCalls_pos b off cap f l n w hn hl hff.1 hff.2 (by rw [hn]; exact hc)
    · have hg : gdB f l = false := by simp [gdB, ← hn, hl]
      rw [hg]
      have Hf := Lib.hid hf
      have hd : decide ((n : Int) > 60) = true := by simp; omega
      clear hf hg hc hn
      go_enter Try.func34, Try.ntmps34
      go_wp2_with fail
      refine (canBeFriends_any f w).mono ?_
      rintro e w' ⟨rfl, rfl⟩
      rw [Hf.out]
      go_wp2_with fail
      go_ret
      exact ⟨rfl, Below.refl _ _⟩

theorem gd_call {f : Int} {l : List (Int × Int)} (h : gdB f l = true) {i : Nat} (hi : i < l.length) : 0 ≤ ca l i ∧ ca l i < cb l i ∧ cb l i < f := by
  simp only [gdB, Bool.and_eq_true, List.all_eq_true] at h
  have h2 := h.2 l[i] (List.getElem_mem hi)
  rw [ca_cb l i hi] at h2
  simpa [calB] using h2

theorem gd_len' {f : Int} {l : List (Int × Int)} (h : gdB f l = true) : l.length ≤ 60 := by
  simp only [gdB, Bool.and_eq_true, decide_eq_true_eq] at h
  exact h.1.2

theorem gd_fr {f : Int} {l : List (Int × Int)} (h : gdB f l = true) : 1 ≤ f ∧ f ≤ 10 := by
  simp only [gdB, Bool.and_eq_true] at h
  simpa [frB] using h.1.1
end Go.Proofs.Ytnngdoiempmkkaa
