/- Is a network joined; the distance of two friends: the model. -/
import Derived.Test.YtibjapfaljeclaaJoin
namespace Go.Proofs.Ytibjapfaljeclaa
open Go.ChangeShapes Go.WideShapes Go.ChangeAt Go.RowKit
set_option linter.unusedVariables false

theorem l1In_at (x lo hi : Int) (w : World) : Calls Try.prog 42 #[.int .i64 x, .int .i64 lo, .int .i64 hi] w fun e w' => e = .returned (.bool (decide (lo ≤ x ∧ x ≤ hi))) ∧ w = w' := by
  by_cases h1 : lo ≤ x
  · have hd1 : decide (lo ≤ x) = true := by simpa using h1
    by_cases h2 : x ≤ hi
    · have hd2 : decide (x ≤ hi) = true := by simpa using h2
      rw [show decide (lo ≤ x ∧ x ≤ hi) = true by simp [h1, h2]]
      go_enter Try.func42, Try.ntmps42
      go_wp2
      go_ret
      exact ⟨rfl, rfl⟩
    · have hd2 : decide (x ≤ hi) = false := by simpa using h2
      rw [show decide (lo ≤ x ∧ x ≤ hi) = false by simp [h1, h2]]
      clear h2
      go_enter Try.func42, Try.ntmps42
      go_wp2
      go_ret
      first | exact ⟨rfl, rfl⟩ | exact ⟨by simp; omega, rfl⟩
  · have hd1 : decide (lo ≤ x) = false := by simpa using h1
    rw [show decide (lo ≤ x ∧ x ≤ hi) = false by simp [h1]]
    clear h1
    go_enter Try.func42, Try.ntmps42
    go_wp2
    go_ret
    exact ⟨rfl, rfl⟩

theorem l1In_no (x lo hi : Int) (w : World) (h : ¬ (lo ≤ x ∧ x ≤ hi)) : Calls Try.prog 42 #[.int .i64 x, .int .i64 lo, .int .i64 hi] w fun e w' => e = .returned (.bool false) ∧ w = w' := by
  have := l1In_at x lo hi w
  rw [show decide (lo ≤ x ∧ x ≤ hi) = false by simp only [decide_eq_false_iff_not]; exact h] at this
  exact this
theorem l1In_yes (x lo hi : Int) (w : World) (h : lo ≤ x ∧ x ≤ hi) : Calls Try.prog 42 #[.int .i64 x, .int .i64 lo, .int .i64 hi] w fun e w' => e = .returned (.bool true) ∧ w = w' := by
  have := l1In_at x lo hi w
  rw [show decide (lo ≤ x ∧ x ≤ hi) = true by simp only [decide_eq_true_eq]; exact h] at this
  exact this


theorem neJoined_any (F : Nat) (ao : Option Addr) (cap : Nat) (l : List (Int × Int)) (n : Nat) (w : World) (Hn : Hid (n = l.length)) (hs : n ≤ 1048576) (Hg : Hid (gdB (F : Int) l = true)) (HA : Hid (CallsAt w ao l)) :
    Calls Try.prog 33 #[.int .i64 F, .slice ao n cap] w fun e w' => e = .returned (.bool (joinB F l)) ∧ Below w.heap.size w w' := by
  have hF := gd_fr Hg.out
  go_enter Try.func33, Try.ntmps33
  go_wp2_with fail
  refine (neFar_any F 0 ao cap l n w Hn hs HA (by omega) (by omega)).mono ?_
  rintro e w1 ⟨rfl, k, d, q, hk, hbi, own, hb⟩
  have Hd : Hid (seen (fvL F d) F (-1) = !joinB F l) := Lib.hid (seen_join (fun v hv => bfs_dst Hg.out (by omega) hbi hk v hv))
  have Hc : Hid (∀ i, i < F → w1.cell? ⟨w.heap.size, 0 + i, none⟩ = some (.int .i64 (na (fvL F d) i))) := Lib.hid (fun i hi => by rw [Nat.zero_add]; exact row_num own (fvL_length _ _).symm i hi)
  clear own hbi hk
  go_wp2_with fail
  refine (l1Has_pos w.heap.size 0 F (fvL F d) F (-1) w1 (by omega) Hc).mono ?_
  rintro e w2 ⟨rfl, rfl⟩
  rw [Hd.out]
  go_wp2_with fail
  go_ret
  exact ⟨ret_bool (by simp), hb⟩

def isjR (f : Int) (l : List (Int × Int)) : Bool := netB f l && joinB f.toNat l
theorem isj_at {F : Nat} {l : List (Int × Int)} (h : netB (F : Int) l = true) : isjR (F : Int) l = joinB F l := by rw [isjR, h, Int.toNat_natCast]; rfl

theorem specJoined_any (w : World) (f : Int) (ao : Option Addr) (cap : Nat) (l : List (Int × Int)) (n : Nat) (Hn : Hid (n = l.length)) (hs : n ≤ 1048576) (Hc : CallsAt w ao l) :
    Calls Try.prog 11 #[.int .i64 f, .slice ao n cap] w fun e w' => e = .returned (.tuple #[.bool (isjR f l), .bool (netB f l)]) ∧ Below w.heap.size w w' := by
  have HA := Lib.hid Hc
  clear Hc
  cases hg : netB f l
  · have Hg := Lib.hid hg
    have Hno : Hid (isjR f l = false) := Lib.hid (by rw [isjR, hg]; rfl)
    clear hg
    go_enter Try.func11, Try.ntmps11
    go_wp2_with fail
    refine (neGood_any f ao cap l n w Hn.out (by omega) HA.out).mono ?_
    rintro e w1 ⟨rfl, hb1⟩
    rw [Hg.out]
    go_wp2_with fail
    go_ret2
    exact ⟨by rw [Hno.out]; rfl, hb1⟩
  · have hfr := net_fr hg
    obtain ⟨F, rfl⟩ := Int.eq_ofNat_of_zero_le (show 0 ≤ f by omega)
    have Hgd := Lib.hid (net_gd hg)
    have Hy := Lib.hid (isj_at hg)
    have Hg := Lib.hid hg
    clear hg
    go_enter Try.func11, Try.ntmps11
    go_wp2_with fail
    refine (neGood_any F ao cap l n w Hn.out (by omega) HA.out).mono ?_
    rintro e w1 ⟨rfl, hb1⟩
    rw [Hg.out]
    go_wp2_with fail
    refine (neJoined_any F ao cap l n w1 Hn hs Hgd (HA.out.kept hb1)).mono ?_
    rintro e w2 ⟨rfl, hb2⟩
    have hb3 := hb1.trans (hb2.mono hb1.size)
    clear hb1 hb2
    go_wp2_with fail
    go_ret2
    exact ⟨by rw [Hy.out]; rfl, hb3⟩

/-- There is a way from one of two friends to the other one. -/
def distB (f : Int) (l : List (Int × Int)) (a b : Int) : Bool := netB f l && (decide (0 ≤ a ∧ a < f) && (decide (0 ≤ b ∧ b < f) && dst l a.toNat b.toNat != 10))
def distR (f : Int) (l : List (Int × Int)) (a b : Int) : Int := if distB f l a b then ((dst l a.toNat b.toNat : Nat) : Int) else 0
theorem dist_both {f : Int} {l : List (Int × Int)} {a b : Int} (h : distB f l a b = false) : distB f l a b = false ∧ distR f l a b = 0 := ⟨h, by rw [distR, h]; rfl⟩
theorem dist_yes {f : Int} {l : List (Int × Int)} {a b : Nat} (h : distB f l a b = true) : distB f l a b = true ∧ distR f l a b = ((dst l a b : Nat) : Int) := ⟨h, by rw [distR, h]; rfl⟩

set_option maxRecDepth 20000 in
theorem specDist_any (w : World) (f : Int) (ao : Option Addr) (cap : Nat) (l : List (Int × Int)) (n : Nat) (Hn : Hid (n = l.length)) (hs : n ≤ 1048576) (Hc : CallsAt w ao l) (a b : Int) :
    Calls Try.prog 25 #[.int .i64 f, .slice ao n cap, .int .i64 a, .int .i64 b] w fun e w' => e = .returned (.tuple #[.int .i64 (distR f l a b), .bool (distB f l a b)]) ∧ Below w.heap.size w w' := by
  have HA := Lib.hid Hc
  clear Hc
  cases hg : netB f l
  · have Hg := Lib.hid hg
    have Hno : Hid (distB f l a b = false ∧ distR f l a b = 0) := Lib.hid (dist_both (by simp [distB, hg]))
    clear hg
    go_enter Try.func25, Try.ntmps25
    go_wp2_with fail
    refine (neGood_any f ao cap l n w Hn.out (by omega) HA.out).mono ?_
    rintro e w1 ⟨rfl, hb1⟩
    rw [Hg.out]
    go_wp2_with fail
    go_ret2
    exact ⟨by rw [Hno.out.1, Hno.out.2]; rfl, hb1⟩
  · have hfr := net_fr hg
    by_cases ha : 0 ≤ a ∧ a < f
    · by_cases hb : 0 ≤ b ∧ b < f
      · obtain ⟨F, rfl⟩ := Int.eq_ofNat_of_zero_le (show 0 ≤ f by omega)
        obtain ⟨a, rfl⟩ := Int.eq_ofNat_of_zero_le ha.1
        obtain ⟨b, rfl⟩ := Int.eq_ofNat_of_zero_le hb.1
        have Hgd := Lib.hid (net_gd hg)
        have Hy : Hid (distB (F : Int) l a b = (dst l a b != 10)) := Lib.hid (by rw [distB, hg, decide_eq_true ha, decide_eq_true hb, Int.toNat_natCast, Int.toNat_natCast]; rfl)
        have Hg := Lib.hid hg
        have haF : a < F := by omega
        have hbF : b < F := by omega
        clear hg ha hb
        go_enter Try.func25, Try.ntmps25
        go_wp2_with fail
        refine (neGood_any F ao cap l n w Hn.out (by omega) HA.out).mono ?_
        rintro e w1 ⟨rfl, hb1⟩
        rw [Hg.out]
        have hs1 := hb1.size
        go_wp2_with fail
        refine (l1In_yes a 0 ((F : Int) - 1) _ (by omega)).mono ?_
        rintro e w' ⟨rfl, rfl⟩
        go_wp2_with fail
        refine (l1In_yes b 0 ((F : Int) - 1) _ (by omega)).mono ?_
        rintro e w' ⟨rfl, rfl⟩
        go_wp2_with fail
        refine (neFar_any F a ao cap l n w1 Hn hs (HA.out.kept hb1) (by omega) haF).mono ?_
        rintro e w2 ⟨rfl, k, d, q, hk, hbi, own, hb2⟩
        have hd := bfs_dst Hgd.out haF hbi hk b hbF
        have c0 := row_num own (fvL_length _ _).symm b hbF
        rw [na_fvL hbF, show d b = _ from hd] at c0
        have hm := (dst_far (f := a) Hgd.out).most b hbF
        have hb3 := hb1.trans (hb2.mono hs1)
        have hbF2 : (b : Int) < F := by omega
        clear own hbi hk hb2 hb1 hd
        by_cases h10 : dst l a b = 10
        · rw [if_pos h10] at c0
          have Hno : Hid (distB (F : Int) l a b = false ∧ distR (F : Int) l a b = 0) := Lib.hid (dist_both (by rw [Hy.out, h10]; rfl))
          clear h10
          go_wp2_with fail
          go_ret2
          exact ⟨by rw [Hno.out.1, Hno.out.2]; rfl, hb3⟩
        · rw [if_neg h10] at c0
          have Hyes : Hid (distB (F : Int) l a b = true ∧ distR (F : Int) l a b = ((dst l a b : Nat) : Int)) := Lib.hid (dist_yes (by rw [Hy.out]; simpa using h10))
          obtain ⟨D, hD⟩ : ∃ D, dst l a b = D := ⟨_, rfl⟩
          rw [hD] at c0 hm
          have hdd : decide (((D : Nat) : Int) < 0) = false := by simp
          have HD := Lib.hid hD
          clear h10 hD
          go_wp2_with fail
          go_ret2
          exact ⟨by rw [Hyes.out.1, Hyes.out.2, HD.out]; rfl, hb3⟩
      · have Hno : Hid (distB f l a b = false ∧ distR f l a b = 0) := Lib.hid (dist_both (by simp only [distB, decide_eq_false hb, Bool.false_and, Bool.and_false]))
        have Hg := Lib.hid hg
        clear hg
        go_enter Try.func25, Try.ntmps25
        go_wp2_with fail
        refine (neGood_any f ao cap l n w Hn.out (by omega) HA.out).mono ?_
        rintro e w1 ⟨rfl, hb1⟩
        rw [Hg.out]
        go_wp2_with fail
        refine (l1In_yes a 0 (f - 1) _ (by omega)).mono ?_
        rintro e w' ⟨rfl, rfl⟩
        go_wp2_with fail
        refine (l1In_no b 0 (f - 1) _ (by omega)).mono ?_
        rintro e w' ⟨rfl, rfl⟩
        go_wp2_with fail
        go_ret2
        exact ⟨by rw [Hno.out.1, Hno.out.2]; rfl, hb1⟩
    · have Hno : Hid (distB f l a b = false ∧ distR f l a b = 0) := Lib.hid (dist_both (by simp only [distB, decide_eq_false ha, Bool.false_and, Bool.and_false]))
      have Hg := Lib.hid hg
      clear hg
      go_enter Try.func25, Try.ntmps25
      go_wp2_with fail
      refine (neGood_any f ao cap l n w Hn.out (by omega) HA.out).mono ?_
      rintro e w1 ⟨rfl, hb1⟩
      rw [Hg.out]
      go_wp2_with fail
      refine (l1In_no a 0 (f - 1) _ (by omega)).mono ?_
      rintro e w' ⟨rfl, rfl⟩
      go_wp2_with fail
      go_ret2
      exact ⟨by rw [Hno.out.1, Hno.out.2]; rfl, hb1⟩

end Go.Proofs.Ytibjapfaljeclaa
