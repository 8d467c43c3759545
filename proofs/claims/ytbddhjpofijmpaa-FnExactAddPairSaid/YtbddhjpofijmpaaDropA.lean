/- A network without a pair, at every argument: the model and the program. -/
import Derived.Test.YtbddhjpofijmpaaDrop
import Derived.Test.YtbddhjpofijmpaaNetS
namespace Go.Proofs.Ytbddhjpofijmpaa
open Go.ChangeShapes Go.WideShapes Go.ChangeAt Go.RowKit
set_option linter.unusedVariables false


theorem withoutPair_any (ao : Option Addr) (cap : Nat) (l : List (Int × Int)) (n k : Nat) (w : World) (Hn : Hid (n = l.length)) (hl : n ≤ 60) (hcap : n ≤ cap) (hk : k < n) (hc : CallsAt w ao l) :
    Calls Try.prog 62 #[.slice ao n cap, .int .i64 k] w fun e w' => ∃ v, e = .returned v ∧ w'.ownsRow w.heap.size 46 2 v (less l k).length (cs (less l k)) ∧ Below w.heap.size w w' := by
  rcases hc with h | ⟨b, off, rfl, hc⟩
  · subst h; have := Hn.out; simp at this; omega
  · by_cases hcc : cap = k + 1
    · refine withoutPair_at b off off cap l (l.take k) (l.drop (k + 1)) n k (n - (k + 1)) w rfl rfl ⟨rfl, by rw [List.length_drop, ← Hn.out]⟩ Hn hl hcap hk (by rw [if_pos hcc]) (calls_take' hc k) ?_
      refine .inr ⟨b, off, rfl, fun i hi => ?_⟩
      rw [List.length_drop, ← Hn.out] at hi; omega
    · refine withoutPair_at b off (off + (k + 1) * 2) cap l (l.take k) (l.drop (k + 1)) n k (n - (k + 1)) w rfl rfl ⟨rfl, by rw [List.length_drop, ← Hn.out]⟩ Hn hl hcap hk (by rw [if_neg hcc]) (calls_take' hc k) ?_
      exact .inr ⟨b, _, rfl, fun i hi => calls_drop Hn.out (by rw [Hn.out]; exact hc) (k + 1) i hi⟩

/-- There are a network and this pair of it. -/
def dropB (f : Int) (l : List (Int × Int)) (x : Int) : Bool := netB f l && decide (0 ≤ x ∧ x < l.length)
def dropR (f : Int) (l : List (Int × Int)) (x : Int) : List (Int × Int) := if dropB f l x then less l x.toNat else []
theorem dropR_len (f : Int) (l : List (Int × Int)) (x : Int) : (dropR f l x).length ≤ 60 := by
  unfold dropR
  cases h : dropB f l x
  · simp
  · simp only [dropB, Bool.and_eq_true, decide_eq_true_eq] at h
    have h60 := net_len60 h.1
    simp only [if_true]
    rw [less_len (by omega)]
    omega

theorem l1In_no (x lo hi : Int) (w : World) (h : ¬ (lo ≤ x ∧ x ≤ hi)) : Calls Try.prog 46 #[.int .i64 x, .int .i64 lo, .int .i64 hi] w fun e w' => e = .returned (.bool false) ∧ w = w' := by
  have := l1In_at x lo hi w
  rw [show decide (lo ≤ x ∧ x ≤ hi) = false by simp only [decide_eq_false_iff_not]; exact h] at this
  exact this
theorem l1In_yes (x lo hi : Int) (w : World) (h : lo ≤ x ∧ x ≤ hi) : Calls Try.prog 46 #[.int .i64 x, .int .i64 lo, .int .i64 hi] w fun e w' => e = .returned (.bool true) ∧ w = w' := by
  have := l1In_at x lo hi w
  rw [show decide (lo ≤ x ∧ x ≤ hi) = true by simp only [decide_eq_true_eq]; exact h] at this
  exact this

set_option maxRecDepth 20000 in
theorem specDrop_any (w : World) (f : Int) (ao : Option Addr) (cap : Nat) (l : List (Int × Int)) (n : Nat) (Hn : Hid (n = l.length)) (hs : n ≤ 1048576) (Hc : CallsAt w ao l) (hcap : n ≤ cap) (x : Int) :
    Calls Try.prog 37 #[.int .i64 f, .slice ao n cap, .int .i64 x] w fun e w' => ∃ v, e = .returned (.tuple #[v, .bool (dropB f l x)]) ∧ w'.ownsRow w.heap.size 46 2 v (dropR f l x).length (cs (dropR f l x)) ∧ Below w.heap.size w w' := by
  have HA := Lib.hid Hc
  clear Hc
  cases hg : netB f l
  · have Hno : Hid (dropB f l x = false ∧ dropR f l x = []) := Lib.hid (by simp [dropR, dropB, hg])
    have Hg := Lib.hid hg
    clear hg
    go_enter Try.func37, Try.ntmps37
    go_wp2_with fail
    refine (neGood_any f ao cap l n w Hn.out (by omega) HA.out).mono ?_
    rintro e w1 ⟨rfl, hb1⟩
    rw [Hg.out]
    go_wp2_with fail
    go_ret2
    exact ⟨.slice none 0 0, by rw [Hno.out.1]; rfl, by rw [Hno.out.2]; exact World.ownsRow_nil _ _ _ _, hb1⟩
  · have Hg := Lib.hid hg
    have h60 := net_len60 hg
    rw [← Hn.out] at h60
    clear hg
    by_cases hx : 0 ≤ x ∧ x < n
    · obtain ⟨k, rfl⟩ := Int.eq_ofNat_of_zero_le hx.1
      have hkn : k < n := by omega
      have Hok : Hid (dropB f l k = true ∧ dropR f l k = less l k) := Lib.hid (by
        have : dropB f l k = true := by simp only [dropB, Hg.out, Bool.true_and, decide_eq_true_eq]; have := Hn.out; omega
        exact ⟨this, by rw [dropR, this]; rfl⟩)
      clear hx
      go_enter Try.func37, Try.ntmps37
      go_wp2_with fail
      refine (neGood_any f ao cap l n w Hn.out (by omega) HA.out).mono ?_
      rintro e w1 ⟨rfl, hb1⟩
      rw [Hg.out]
      have hs1 := hb1.size
      go_wp2_with fail
      refine (l1In_yes k 0 ((n : Int) - 1) _ (by omega)).mono ?_
      rintro e w' ⟨rfl, rfl⟩
      go_wp2_with fail
      refine (caLess_any ao cap l n k w1 Hn h60 hcap hkn (HA.out.kept hb1)).mono ?_
      rintro e w2 ⟨v, rfl, own, hb2⟩
      obtain ⟨ao2, cap2, rfl, _⟩ := own_shape own rfl
      have Own := Lib.hid (own_base hs1 own)
      have hb3 := hb1.trans (hb2.mono hs1)
      clear own hb2
      go_wp2_with fail
      go_ret2
      exact ⟨.slice ao2 (less l k).length cap2, by rw [Hok.out.1]; rfl, by rw [Hok.out.2]; exact Own.out, hb3⟩
    · have Hno : Hid (dropB f l x = false ∧ dropR f l x = []) := Lib.hid (by
        have : dropB f l x = false := by simp only [dropB, Hg.out, Bool.true_and, decide_eq_false_iff_not]; have := Hn.out; omega
        exact ⟨this, by rw [dropR, this]; rfl⟩)
      go_enter Try.func37, Try.ntmps37
      go_wp2_with fail
      refine (neGood_any f ao cap l n w Hn.out (by omega) HA.out).mono ?_
      rintro e w1 ⟨rfl, hb1⟩
      rw [Hg.out]
      go_wp2_with fail
      refine (l1In_no x 0 ((n : Int) - 1) _ (by omega)).mono ?_
      rintro e w' ⟨rfl, rfl⟩
      go_wp2_with fail
      go_ret2
      exact ⟨.slice none 0 0, by rw [Hno.out.1]; rfl, by rw [Hno.out.2]; exact World.ownsRow_nil _ _ _ _, hb1⟩

set_option maxRecDepth 20000 in
theorem implDrop_any (w : World) (f : Int) (ao : Option Addr) (cap : Nat) (l : List (Int × Int)) (n : Nat) (Hn : Hid (n = l.length)) (hs : n ≤ 1048576) (Hc : CallsAt w ao l) (hcap : n ≤ cap) (x : Int) :
    Calls Try.prog 38 #[.int .i64 f, .slice ao n cap, .int .i64 x] w fun e w' => ∃ v, e = .returned (.tuple #[v, .bool (dropB f l x)]) ∧ w'.ownsRow w.heap.size 46 2 v (dropR f l x).length (cs (dropR f l x)) ∧ Below w.heap.size w w' := by
  have HA := Lib.hid Hc
  clear Hc
  cases hg : netB f l
  · have Hno : Hid (dropB f l x = false ∧ dropR f l x = []) := Lib.hid (by simp [dropR, dropB, hg])
    have Hg := Lib.hid hg
    clear hg
    go_enter Try.func38, Try.ntmps38
    go_wp2_with fail
    refine (implPairs_any w f ao cap l n Hn hs HA.out).mono ?_
    rintro e w1 ⟨rfl, hb1⟩
    rw [Hg.out]
    go_wp2_with fail
    go_ret2
    exact ⟨.slice none 0 0, by rw [Hno.out.1]; rfl, by rw [Hno.out.2]; exact World.ownsRow_nil _ _ _ _, hb1⟩
  · have Hg := Lib.hid hg
    have h60 := net_len60 hg
    rw [← Hn.out] at h60
    clear hg
    by_cases hx : 0 ≤ x ∧ x < n
    · obtain ⟨k, rfl⟩ := Int.eq_ofNat_of_zero_le hx.1
      have hkn : k < n := by omega
      have Hok : Hid (dropB f l k = true ∧ dropR f l k = less l k) := Lib.hid (by
        have : dropB f l k = true := by simp only [dropB, Hg.out, Bool.true_and, decide_eq_true_eq]; have := Hn.out; omega
        exact ⟨this, by rw [dropR, this]; rfl⟩)
      clear hx
      go_enter Try.func38, Try.ntmps38
      go_wp2_with fail
      refine (implPairs_any w f ao cap l n Hn hs HA.out).mono ?_
      rintro e w1 ⟨rfl, hb1⟩
      rw [Hg.out]
      have hs1 := hb1.size
      have hd : decide ((k : Int) < 0) = false := by simp only [decide_eq_false_iff_not]; omega
      have hd2 : decide ((k : Int) ≥ (n : Int)) = false := by simp only [decide_eq_false_iff_not]; omega
      go_wp2_with fail
      refine (withoutPair_any ao cap l n k w1 Hn h60 hcap hkn (HA.out.kept hb1)).mono ?_
      rintro e w2 ⟨v, rfl, own, hb2⟩
      obtain ⟨ao2, cap2, rfl, _⟩ := own_shape own rfl
      have Own := Lib.hid (own_base hs1 own)
      have hb3 := hb1.trans (hb2.mono hs1)
      clear own hb2
      go_wp2_with fail
      go_ret2
      exact ⟨.slice ao2 (less l k).length cap2, by rw [Hok.out.1]; rfl, by rw [Hok.out.2]; exact Own.out, hb3⟩
    · have Hno : Hid (dropB f l x = false ∧ dropR f l x = []) := Lib.hid (by
        have : dropB f l x = false := by simp only [dropB, Hg.out, Bool.true_and, decide_eq_false_iff_not]; have := Hn.out; omega
        exact ⟨this, by rw [dropR, this]; rfl⟩)
      by_cases h0 : x < 0
      · have hd : decide (x < 0) = true := by simpa using h0
        clear h0
        go_enter Try.func38, Try.ntmps38
        go_wp2_with fail
        refine (implPairs_any w f ao cap l n Hn hs HA.out).mono ?_
        rintro e w1 ⟨rfl, hb1⟩
        rw [Hg.out]
        go_wp2_with fail
        go_ret2
        exact ⟨.slice none 0 0, by rw [Hno.out.1]; rfl, by rw [Hno.out.2]; exact World.ownsRow_nil _ _ _ _, hb1⟩
      · have hd : decide (x < 0) = false := by simpa using h0
        have hd2 : decide (x ≥ (n : Int)) = true := by simp only [decide_eq_true_eq]; omega
        clear h0
        go_enter Try.func38, Try.ntmps38
        go_wp2_with fail
        refine (implPairs_any w f ao cap l n Hn hs HA.out).mono ?_
        rintro e w1 ⟨rfl, hb1⟩
        rw [Hg.out]
        go_wp2_with fail
        go_ret2
        exact ⟨.slice none 0 0, by rw [Hno.out.1]; rfl, by rw [Hno.out.2]; exact World.ownsRow_nil _ _ _ _, hb1⟩

end Go.Proofs.Ytbddhjpofijmpaa
