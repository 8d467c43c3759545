/- How many partners: the model and the program. -/
import Derived.Test.YtcedacneagpjcaaPt
namespace Go.Proofs.Ytcedacneagpjcaa
open Go.ChangeShapes Go.WideShapes Go.ChangeAt Go.RowKit
set_option linter.unusedVariables false


theorem cbFew_any (x : Int) (w : World) : Calls Try.prog 35 #[.int .i64 x] w fun e w' => e = .returned (.bool (decide (1 ≤ x ∧ x ≤ 7))) ∧ w = w' := by
  go_enter Try.func35, Try.ntmps35
  go_wp2_with fail
  refine (l1In_any x 1 7 w).mono ?_
  rintro e w' ⟨rfl, rfl⟩
  go_wp2_with fail
  go_ret
  exact ⟨by first | rfl | (simp; done), rfl⟩

theorem canBeListed_any (f : Int) (w : World) : Calls Try.prog 37 #[.int .i64 f] w fun e w' => e = .returned (.bool (decide (1 ≤ f ∧ f ≤ 7))) ∧ w = w' := by
  by_cases h1 : 1 ≤ f
  · by_cases h2 : f ≤ 7
    · have hf : decide (1 ≤ f ∧ f ≤ 7) = true := by simp [h1, h2]
      rw [hf]
      go_enter Try.func37, Try.ntmps37
      go_wp2
      go_ret
      exact ⟨rfl, rfl⟩
    · have hf : decide (1 ≤ f ∧ f ≤ 7) = false := by simp [h2]
      have hd : decide (f ≤ 7) = false := by simpa using h2
      rw [hf]
      go_enter Try.func37, Try.ntmps37
      go_wp2
      go_ret
      exact ⟨by simp, rfl⟩
  · have hf : decide (1 ≤ f ∧ f ≤ 7) = false := by simp [h1]
    have hd : decide (1 ≤ f) = false := by simpa using h1
    rw [hf]
    go_enter Try.func37, Try.ntmps37
    go_wp2
    go_ret
    exact ⟨rfl, rfl⟩

/-- A grouping of so few wires that all of them can be listed. -/
def okC (a : List Int) : Bool := grB a && decide (a.length ≤ 7)

/-- The partners of a grouping. -/
def ptA (a : List Int) : List Nat := ptI a (allG a.length) (allG a.length).length

def cpR (a : List Int) : Int := if okC a then ((ptA a).length : Int) else 0

def fpB (a : List Int) : Bool := okC a && (ptA a).head?.isSome

def fpR (a : List Int) : List Int := if okC a then (((ptA a).head?).map (row (allG a.length))).getD [] else []

theorem ptA_in {a : List Int} {i : Nat} (h : (ptA a).head? = some i) : i < (allG a.length).length := by
  have h1 : i ∈ ptA a := List.mem_of_mem_head? (by rw [h]; rfl)
  exact ptI_lt h1

theorem fpR_len (a : List Int) : (fpR a).length ≤ 1000 := by
  unfold fpR
  split
  · rename_i h
    cases hp : (ptA a).head? with
    | none => simp
    | some i =>
      have h1 := (allG_row (ptA_in hp)).1
      simp only [okC, Bool.and_eq_true, decide_eq_true_eq] at h
      simp only [Option.map_some, Option.getD_some]
      omega
  · simp

theorem okC_parts {a : List Int} (h : okC a = true) : grB a = true ∧ a.length ≤ 7 := by simpa [okC] using h

theorem specCp_no (w : World) (ao : Option Addr) (cap : Nat) (a : List Int) (n : Nat) (Hn : Hid (n = a.length)) (hn : n ≤ 1048576) (hc : NumsAt w ao a) (Ho : Hid (okC a = false)) :
    Calls Try.prog 22 #[.slice ao n cap] w fun e w' => e = .returned (.tuple #[.int .i64 0, .bool false]) ∧ w = w' := by
  cases hg : grB a
  · have Hg := Lib.hid hg
    clear hg
    go_enter Try.func22, Try.ntmps22
    go_wp2_with fail
    refine (cbGood_any ao cap a n w Hn hn hc).mono ?_
    rintro e w' ⟨rfl, rfl⟩
    rw [Hg.out]
    go_wp2_with fail
    go_ret2
    exact ⟨rfl, rfl⟩
  · have Hg := Lib.hid hg
    have hf : decide (1 ≤ (n : Int) ∧ (n : Int) ≤ 7) = false := by
      have h := Ho.out
      simp only [okC, hg, Bool.true_and, decide_eq_false_iff_not] at h
      rw [decide_eq_false_iff_not]
      have := Hn.out; omega
    have Hf := Lib.hid hf
    clear hg hf
    go_enter Try.func22, Try.ntmps22
    go_wp2_with fail
    refine (cbGood_any ao cap a n w Hn hn hc).mono ?_
    rintro e w' ⟨rfl, rfl⟩
    rw [Hg.out]
    go_wp2_with fail
    refine (cbFew_any (n : Int) w).mono ?_
    rintro e w' ⟨rfl, rfl⟩
    rw [Hf.out]
    go_wp2_with fail
    go_ret2
    exact ⟨rfl, rfl⟩

theorem implCp_no (w : World) (ao : Option Addr) (cap : Nat) (a : List Int) (n : Nat) (Hn : Hid (n = a.length)) (hn : n ≤ 1048576) (hc : NumsAt w ao a) (Ho : Hid (okC a = false)) :
    Calls Try.prog 23 #[.slice ao n cap] w fun e w' => e = .returned (.tuple #[.int .i64 0, .bool false]) ∧ w = w' := by
  cases hg : grB a
  · have Hg := Lib.hid hg
    clear hg
    go_enter Try.func23, Try.ntmps23
    go_wp2_with fail
    refine (isGr_any ao cap a n w Hn hn hc).mono ?_
    rintro e w' ⟨rfl, rfl⟩
    rw [Hg.out]
    go_wp2_with fail
    go_ret2
    exact ⟨rfl, rfl⟩
  · have Hg := Lib.hid hg
    have hf : decide (1 ≤ (n : Int) ∧ (n : Int) ≤ 7) = false := by
      have h := Ho.out
      simp only [okC, hg, Bool.true_and, decide_eq_false_iff_not] at h
      rw [decide_eq_false_iff_not]
      have := Hn.out; omega
    have Hf := Lib.hid hf
    clear hg hf
    go_enter Try.func23, Try.ntmps23
    go_wp2_with fail
    refine (isGr_any ao cap a n w Hn hn hc).mono ?_
    rintro e w' ⟨rfl, rfl⟩
    rw [Hg.out]
    go_wp2_with fail
    refine (canBeListed_any (n : Int) w).mono ?_
    rintro e w' ⟨rfl, rfl⟩
    rw [Hf.out]
    go_wp2_with fail
    go_ret2
    exact ⟨rfl, rfl⟩

theorem specCp_yes (w : World) (ao : Option Addr) (cap : Nat) (a : List Int) (n : Nat) (Hn : Hid (n = a.length)) (hn : n ≤ 1048576) (hc : NumsAt w ao a) (Ho : Hid (okC a = true)) :
    Calls Try.prog 22 #[.slice ao n cap] w fun e w' => e = .returned (.tuple #[.int .i64 ((ptA a).length : Int), .bool true]) ∧ Below w.heap.size w w' := by
  have Hp := Lib.hid (okC_parts Ho.out)
  obtain ⟨b, off, hao, hcc⟩ := nums_pos Hn Hp.out.1 hc
  have HA := Lib.hid hc
  have HC := Lib.hid hcc
  have hn7 : n ≤ 7 := by rw [Hn.out]; exact Hp.out.2
  have hn1 : 1 ≤ n := by rw [Hn.out]; exact (grB_len Hp.out.1).1
  have Hf : Hid (decide (1 ≤ (n : Int) ∧ (n : Int) ≤ 7) = true) := by show _ = _; simp only [decide_eq_true_eq]; omega
  clear hc hcc
  subst hao
  go_enter Try.func22, Try.ntmps22
  go_wp2_with fail
  refine (cbGood_any _ cap a n w Hn hn HA.out).mono ?_
  rintro e w' ⟨rfl, rfl⟩
  rw [Hp.out.1]
  go_wp2_with fail
  refine (cbFew_any (n : Int) w).mono ?_
  rintro e w' ⟨rfl, rfl⟩
  rw [Hf.out]
  go_wp2_with fail
  refine (cbPartners_pos w b off cap a n Hn Hp.out.1 hn7 HC).mono ?_
  rintro e w1 ⟨v, vC, XC, rfl, _, hO, hb1⟩
  obtain ⟨Z, hZ⟩ : ∃ Z, (ptA a).length = Z := ⟨_, rfl⟩
  have hZ2 : (ptI a (allG n) (allG n).length).length = Z := by rw [← hZ, Hn.out]; rfl
  rw [hZ2] at hO
  obtain ⟨aq, cq, hvq⟩ : ∃ aq cq, v = .slice aq Z cq := by
    rcases hO.2 with ⟨hv, h0⟩ | ⟨g, cap, cur, hv, _⟩
    · exact ⟨none, 0, by rw [hv, h0]⟩
    · exact ⟨_, cap, hv⟩
  have HZ := Lib.hid hZ
  clear hZ hZ2 hO
  subst hvq
  go_wp2_with fail
  go_ret2
  exact ⟨by rw [HZ.out]; rfl, hb1⟩

theorem implCp_yes (w : World) (ao : Option Addr) (cap : Nat) (a : List Int) (n : Nat) (Hn : Hid (n = a.length)) (hn : n ≤ 1048576) (hc : NumsAt w ao a) (Ho : Hid (okC a = true)) :
    Calls Try.prog 23 #[.slice ao n cap] w fun e w' => e = .returned (.tuple #[.int .i64 ((ptA a).length : Int), .bool true]) ∧ Below w.heap.size w w' := by
  have Hp := Lib.hid (okC_parts Ho.out)
  obtain ⟨b, off, hao, hcc⟩ := nums_pos Hn Hp.out.1 hc
  have HA := Lib.hid hc
  have HC := Lib.hid hcc
  have hn7 : n ≤ 7 := by rw [Hn.out]; exact Hp.out.2
  have hn1 : 1 ≤ n := by rw [Hn.out]; exact (grB_len Hp.out.1).1
  have Hf : Hid (decide (1 ≤ (n : Int) ∧ (n : Int) ≤ 7) = true) := by show _ = _; simp only [decide_eq_true_eq]; omega
  clear hc hcc
  subst hao
  have hlen := allG_len ⟨n, by omega⟩
  simp only at hlen
  go_enter Try.func23, Try.ntmps23
  go_wp2_with fail
  refine (isGr_any _ cap a n w Hn hn HA.out).mono ?_
  rintro e w' ⟨rfl, rfl⟩
  rw [Hp.out.1]
  go_wp2_with fail
  refine (canBeListed_any (n : Int) w).mono ?_
  rintro e w' ⟨rfl, rfl⟩
  rw [Hf.out]
  go_wp2_with fail
  refine (groupingsOf_any w n hn7).mono ?_
  rintro e w1 ⟨vC, XC, rfl, hOC, hb1⟩
  obtain ⟨g0, cap0, rfl, hg0⟩ := hOC.outer hlen.2
  have hs1 := hb1.size
  obtain ⟨L, hL⟩ : ∃ L, L = allG n := ⟨_, rfl⟩
  have HLd := Lib.hid hL
  rw [← hL] at hOC hlen
  have HL : Hid (∀ i, i < L.length → (row L i).length = n ∧ grB (row L i) = true) := fun i hi => by
    subst hL
    have h := allG_row hi
    exact ⟨h.1, good_of h.2 (by omega) (by omega)⟩
  obtain ⟨N, hN⟩ : ∃ N, N = L.length := ⟨_, rfl⟩
  have HN := Lib.hid hN
  have hNL : (allG n).length = N := by rw [hN, hL]
  rw [hNL]
  rw [← hN] at hOC hlen
  have HPo := Lib.hid (partnersOf_pos w1 b off cap a n Hn Hp.out.1 (fun i hi => cell_old hb1 (HC.out i hi)) w.heap.size g0 cap0 XC L N HN hlen.1 hOC (fun i hi => HL.out i (by rw [← HN.out]; exact hi)) 9223372036854775807 (by omega) (by omega))
  have Hb1 := Lib.hid hb1
  clear hL hOC hN hNL hb1
  go_wp2_with fail
  refine HPo.out.mono ?_
  rintro e w2 ⟨v, P, rfl, hP, hO, hb2⟩
  have hP2 := hP.all (by rw [← HN.out]; exact hlen.1)
  obtain ⟨Z, hZ⟩ : ∃ Z, (ptA a).length = Z := ⟨_, rfl⟩
  have hZ2 : P.length = Z := by rw [← hZ, hP2, HLd.out, Hn.out]; rfl
  rw [hZ2] at hO
  obtain ⟨aq, cq, hvq⟩ : ∃ aq cq, v = .slice aq Z cq := by
    rcases hO.2 with ⟨hv, h0⟩ | ⟨g, cap, cur, hv, _⟩
    · exact ⟨none, 0, by rw [hv, h0]⟩
    · exact ⟨_, cap, hv⟩
  have HZ := Lib.hid hZ
  have Hb2 := Lib.hid (Hb1.out.trans (hb2.mono hs1))
  clear hZ hZ2 hO hP hP2 hb2 HPo
  subst hvq
  go_wp2_with fail
  go_ret2
  exact ⟨by rw [HZ.out]; rfl, Hb2.out⟩

theorem specCp_any (w : World) (ao : Option Addr) (cap : Nat) (a : List Int) (n : Nat) (Hn : Hid (n = a.length)) (hn : n ≤ 1048576) (hc : NumsAt w ao a) :
    Calls Try.prog 22 #[.slice ao n cap] w fun e w' => e = .returned (.tuple #[.int .i64 (cpR a), .bool (okC a)]) ∧ Below w.heap.size w w' := by
  cases ho : okC a
  · rw [show cpR a = 0 by simp [cpR, ho]]
    exact (specCp_no w ao cap a n Hn hn hc ho).mono (by rintro e w' ⟨h, rfl⟩; exact ⟨h, Below.refl _ _⟩)
  · rw [show cpR a = ((ptA a).length : Int) by simp [cpR, ho]]
    exact specCp_yes w ao cap a n Hn hn hc ho

theorem implCp_any (w : World) (ao : Option Addr) (cap : Nat) (a : List Int) (n : Nat) (Hn : Hid (n = a.length)) (hn : n ≤ 1048576) (hc : NumsAt w ao a) :
    Calls Try.prog 23 #[.slice ao n cap] w fun e w' => e = .returned (.tuple #[.int .i64 (cpR a), .bool (okC a)]) ∧ Below w.heap.size w w' := by
  cases ho : okC a
  · rw [show cpR a = 0 by simp [cpR, ho]]
    exact (implCp_no w ao cap a n Hn hn hc ho).mono (by rintro e w' ⟨h, rfl⟩; exact ⟨h, Below.refl _ _⟩)
  · rw [show cpR a = ((ptA a).length : Int) by simp [cpR, ho]]
    exact implCp_yes w ao cap a n Hn hn hc ho

end Go.Proofs.Ytcedacneagpjcaa
