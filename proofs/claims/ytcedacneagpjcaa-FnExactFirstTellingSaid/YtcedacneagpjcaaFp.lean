/- The first partner: the model and the program. -/
import Derived.Test.YtcedacneagpjcaaCp
namespace Go.Proofs.Ytcedacneagpjcaa
open Go.ChangeShapes Go.WideShapes Go.ChangeAt Go.RowKit
set_option linter.unusedVariables false


theorem specFp_no (w : World) (ao : Option Addr) (cap : Nat) (a : List Int) (n : Nat) (Hn : Hid (n = a.length)) (hn : n ≤ 1048576) (hc : NumsAt w ao a) (Ho : Hid (okC a = false)) :
    Calls Try.prog 24 #[.slice ao n cap] w fun e w' => e = .returned (.tuple #[.slice none 0 0, .bool false]) ∧ w = w' := by
  cases hg : grB a
  · have Hg := Lib.hid hg
    clear hg
    go_enter Try.func24, Try.ntmps24
    go_wp2_with fail
    refine (cbGood_any ao cap a n w Hn hn hc).mono ?_
    rintro e w' ⟨rfl, rfl⟩
    rw [Hg.out]
    go_wp2_with fail
    go_ret2
    exact ⟨rfl, rfl⟩
  · have Hg := Lib.hid hg
    have hf : decide (1 ≤ (n : Int) ∧ (n : Int) ≤ 7) = false := by
      have h := Ho.out
      simp only [okC, hg, Bool.true_and, decide_eq_false_iff_not] at h
      rw [decide_eq_false_iff_not]
      have := Hn.out; omega
    have Hf := Lib.hid hf
    clear hg hf
    go_enter Try.func24, Try.ntmps24
    go_wp2_with fail
    refine (cbGood_any ao cap a n w Hn hn hc).mono ?_
    rintro e w' ⟨rfl, rfl⟩
    rw [Hg.out]
    go_wp2_with fail
    refine (cbFew_any (n : Int) w).mono ?_
    rintro e w' ⟨rfl, rfl⟩
    rw [Hf.out]
    go_wp2_with fail
    go_ret2
    exact ⟨rfl, rfl⟩

theorem implFp_no (w : World) (ao : Option Addr) (cap : Nat) (a : List Int) (n : Nat) (Hn : Hid (n = a.length)) (hn : n ≤ 1048576) (hc : NumsAt w ao a) (Ho : Hid (okC a = false)) :
    Calls Try.prog 25 #[.slice ao n cap] w fun e w' => e = .returned (.tuple #[.slice none 0 0, .bool false]) ∧ w = w' := by
  cases hg : grB a
  · have Hg := Lib.hid hg
    clear hg
    go_enter Try.func25, Try.ntmps25
    go_wp2_with fail
    refine (isGr_any ao cap a n w Hn hn hc).mono ?_
    rintro e w' ⟨rfl, rfl⟩
    rw [Hg.out]
    go_wp2_with fail
    go_ret2
    exact ⟨rfl, rfl⟩
  · have Hg := Lib.hid hg
    have hf : decide (1 ≤ (n : Int) ∧ (n : Int) ≤ 7) = false := by
      have h := Ho.out
      simp only [okC, hg, Bool.true_and, decide_eq_false_iff_not] at h
      rw [decide_eq_false_iff_not]
      have := Hn.out; omega
    have Hf := Lib.hid hf
    clear hg hf
    go_enter Try.func25, Try.ntmps25
    go_wp2_with fail
    refine (isGr_any ao cap a n w Hn hn hc).mono ?_
    rintro e w' ⟨rfl, rfl⟩
    rw [Hg.out]
    go_wp2_with fail
    refine (canBeListed_any (n : Int) w).mono ?_
    rintro e w' ⟨rfl, rfl⟩
    rw [Hf.out]
    go_wp2_with fail
    go_ret2
    exact ⟨rfl, rfl⟩

/-- The value of the first partner. -/
def fpV (X : List Value) : Option Nat → Value | some i => X.getD i (.bool false) | none => .slice none 0 0

theorem head_cell {w : World} {base g n c : Nat} {X : List Value} {P : List Nat} {i : Nat} (h : w.ownsRow base 22 1 (.slice (some ⟨g, 0, none⟩) n c) n (ptX X P)) (hp : P.head? = some i) (hn : n = P.length) : w.cell? ⟨g, 0, none⟩ = some (X.getD i (.bool false)) := by
  cases P with
  | nil => cases hp
  | cons x xs =>
    simp at hp
    subst hp
    have hn1 : n = xs.length + 1 := by simpa using hn
    have hc := h.cellAt 0 (by omega)
    rw [hc]; rfl

set_option maxRecDepth 20000 in
theorem firstPartner_pos (w : World) (b off ka : Nat) (a : List Int) (n : Nat) (Hn : Hid (n = a.length)) (Hg : Hid (grB a = true)) (Hc : Hid (∀ i, i < n → w.cell? ⟨b, off + i, none⟩ = some (.int .i64 (na a i))))
    (base g0 cap0 : Nat) (XI : List Value) (L : List (List Int)) (N : Nat) (HN : Hid (N = L.length)) (hN : N ≤ 1000) (HI : Hid (OwnSS w base (.slice (some ⟨g0, 0, none⟩) N cap0) XI L)) (HL : Hid (∀ i, i < N → (row L i).length = n ∧ grB (row L i) = true)) (h : Option Nat) (Hh : Hid (h = (ptI a L L.length).head?)) :
    Calls Try.prog 39 #[.slice (some ⟨b, off, none⟩) n ka, .slice (some ⟨g0, 0, none⟩) N cap0] w fun e w' => e = .returned (.tuple #[fpV XI h, .bool h.isSome]) ∧ Below w.heap.size w w' := by
  have HPo := Lib.hid (partnersOf_pos w b off ka a n Hn Hg Hc base g0 cap0 XI L N HN hN HI HL 1 (by omega) (by omega))
  go_enter Try.func39, Try.ntmps39
  go_wp2_with fail
  refine HPo.out.mono ?_
  rintro e w2 ⟨v, P, rfl, hP, hO, hb2⟩
  have hh := hP.one
  rw [← Hh.out] at hh
  obtain ⟨Z, hZ⟩ : ∃ Z, P.length = Z := ⟨_, rfl⟩
  rw [hZ] at hO
  cases h with
  | none =>
    have hz : Z = 0 := by cases P with
      | nil => exact hZ.symm
      | cons x xs => cases hh
    subst hz
    obtain ⟨aq, cq, hvq⟩ : ∃ aq cq, v = .slice aq 0 cq := by
      rcases hO.2 with ⟨hv, h0⟩ | ⟨g, cap, cur, hv, _⟩
      · exact ⟨none, 0, hv⟩
      · exact ⟨_, cap, hv⟩
    clear hP hh hZ hO HPo
    subst hvq
    go_wp2_with fail
    go_ret2
    exact ⟨rfl, hb2⟩
  | some i =>
    have hz : 0 < Z := by cases P with
      | nil => cases hh
      | cons x xs => simp at hZ; omega
    obtain ⟨g, c, rfl, _⟩ := own_pos hO hz
    have hc := head_cell hO hh hZ.symm
    obtain ⟨u, hu⟩ : ∃ u, XI.getD i (.bool false) = u := ⟨_, rfl⟩
    rw [hu] at hc
    have hze : ((Z : Int) == 0) = false := by simp; omega
    have hz2 : (0 : Int) < (Z : Int) := by omega
    have HU : Hid (fpV XI (some i) = u) := hu
    clear hP hh hZ hO HPo hu
    go_wp2_with fail
    go_ret2
    exact ⟨by rw [HU.out]; rfl, hb2⟩

set_option maxRecDepth 20000 in
theorem specFp_yes (w : World) (ao : Option Addr) (cap : Nat) (a : List Int) (n : Nat) (Hn : Hid (n = a.length)) (hn : n ≤ 1048576) (hc : NumsAt w ao a) (Ho : Hid (okC a = true)) (r : Bool) (R : List Int) (Hr : Hid (r = (ptA a).head?.isSome)) (HR : Hid (R = (((ptA a).head?).map (row (allG a.length))).getD [])) :
    Calls Try.prog 24 #[.slice ao n cap] w fun e w' => ∃ v, e = .returned (.tuple #[v, .bool r]) ∧ w'.ownsRow w.heap.size 3 1 v R.length (ns R) ∧ Below w.heap.size w w' := by
  have Hp := Lib.hid (okC_parts Ho.out)
  obtain ⟨b, off, hao, hcc⟩ := nums_pos Hn Hp.out.1 hc
  have HA := Lib.hid hc
  have HC := Lib.hid hcc
  have hn7 : n ≤ 7 := by rw [Hn.out]; exact Hp.out.2
  have hn1 : 1 ≤ n := by rw [Hn.out]; exact (grB_len Hp.out.1).1
  have Hf : Hid (decide (1 ≤ (n : Int) ∧ (n : Int) ≤ 7) = true) := by show _ = _; simp only [decide_eq_true_eq]; omega
  clear hc hcc
  subst hao
  go_enter Try.func24, Try.ntmps24
  go_wp2_with fail
  refine (cbGood_any _ cap a n w Hn hn HA.out).mono ?_
  rintro e w' ⟨rfl, rfl⟩
  rw [Hp.out.1]
  go_wp2_with fail
  refine (cbFew_any (n : Int) w).mono ?_
  rintro e w' ⟨rfl, rfl⟩
  rw [Hf.out]
  go_wp2_with fail
  refine (cbPartners_pos w b off cap a n Hn Hp.out.1 hn7 HC).mono ?_
  rintro e w1 ⟨v, vC, XC, rfl, hOC, hO, hb1⟩
  obtain ⟨P, hP⟩ : ∃ P, P = ptI a (allG n) (allG n).length := ⟨_, rfl⟩
  have hPA : P = ptA a := by rw [hP, Hn.out]; rfl
  rw [← hP] at hO
  obtain ⟨Z, hZ⟩ : ∃ Z, P.length = Z := ⟨_, rfl⟩
  rw [hZ] at hO
  cases hh : P.head? with
  | none =>
    obtain rfl : r = false := by rw [Hr.out, ← hPA, hh]; rfl
    obtain rfl : R = [] := by rw [HR.out, ← hPA, hh]; rfl
    have hz : Z = 0 := by cases P with
      | nil => exact hZ.symm
      | cons x xs => cases hh
    subst hz
    obtain ⟨aq, cq, hvq⟩ : ∃ aq cq, v = .slice aq 0 cq := by
      rcases hO.2 with ⟨hv, h0⟩ | ⟨g, cap, cur, hv, _⟩
      · exact ⟨none, 0, hv⟩
      · exact ⟨_, cap, hv⟩
    clear hP hPA hh hZ hO hOC Hr HR
    subst hvq
    go_wp2_with fail
    go_ret2
    exact ⟨_, rfl, World.ownsRow_nil _ _ _ _, hb1⟩
  | some i =>
    obtain rfl : r = true := by rw [Hr.out, ← hPA, hh]; rfl
    have hRi : R = row (allG n) i := by rw [HR.out, ← hPA, hh, Hn.out]; rfl
    have hi : i < (allG n).length := by
      have h1 : i ∈ ptI a (allG n) (allG n).length := by rw [← hP]; exact List.mem_of_mem_head? (by rw [hh]; rfl)
      exact ptI_lt h1
    have hz : 0 < Z := by cases P with
      | nil => cases hh
      | cons x xs => simp at hZ; omega
    obtain ⟨g, c, rfl, _⟩ := own_pos hO hz
    have hc := head_cell hO hh hZ.symm
    have hx : XC[i]? = some XC[i]! := by
      have hil : i < XC.length := by rw [hOC.2.1]; exact hi
      rw [List.getElem?_eq_getElem hil, getElem!_pos XC i hil]
    have hown := (hOC.2.2.1 i _ _ hx (List.getElem?_eq_getElem hi)).1
    rw [row_get hi, ← hRi] at hown
    obtain ⟨u, hu⟩ : ∃ u, XC[i]! = u := ⟨_, rfl⟩
    have hxu : XC.getD i (.bool false) = u := by rw [List.getD_eq_getElem?_getD, hx, ← hu]; rfl
    rw [hxu] at hc
    rw [hu] at hown
    have Hown := Lib.hid hown
    have hze : ((Z : Int) == 0) = false := by simp; omega
    have hz2 : (0 : Int) < (Z : Int) := by omega
    clear hP hPA hh hZ hO hOC hx hown hu hxu hRi Hr HR
    go_wp2_with fail
    go_ret2
    exact ⟨u, rfl, Hown.out, hb1⟩

set_option maxRecDepth 20000 in
theorem implFp_yes (w : World) (ao : Option Addr) (cap : Nat) (a : List Int) (n : Nat) (Hn : Hid (n = a.length)) (hn : n ≤ 1048576) (hc : NumsAt w ao a) (Ho : Hid (okC a = true)) (r : Bool) (R : List Int) (Hr : Hid (r = (ptA a).head?.isSome)) (HR : Hid (R = (((ptA a).head?).map (row (allG a.length))).getD [])) :
    Calls Try.prog 25 #[.slice ao n cap] w fun e w' => ∃ v, e = .returned (.tuple #[v, .bool r]) ∧ w'.ownsRow w.heap.size 3 1 v R.length (ns R) ∧ Below w.heap.size w w' := by
  have Hp := Lib.hid (okC_parts Ho.out)
  obtain ⟨b, off, hao, hcc⟩ := nums_pos Hn Hp.out.1 hc
  have HA := Lib.hid hc
  have HC := Lib.hid hcc
  have hn7 : n ≤ 7 := by rw [Hn.out]; exact Hp.out.2
  have hn1 : 1 ≤ n := by rw [Hn.out]; exact (grB_len Hp.out.1).1
  have Hf : Hid (decide (1 ≤ (n : Int) ∧ (n : Int) ≤ 7) = true) := by show _ = _; simp only [decide_eq_true_eq]; omega
  clear hc hcc
  subst hao
  have hlen := allG_len ⟨n, by omega⟩
  simp only at hlen
  go_enter Try.func25, Try.ntmps25
  go_wp2_with fail
  refine (isGr_any _ cap a n w Hn hn HA.out).mono ?_
  rintro e w' ⟨rfl, rfl⟩
  rw [Hp.out.1]
  go_wp2_with fail
  refine (canBeListed_any (n : Int) w).mono ?_
  rintro e w' ⟨rfl, rfl⟩
  rw [Hf.out]
  go_wp2_with fail
  refine (groupingsOf_any w n hn7).mono ?_
  rintro e w1 ⟨vC, XC, rfl, hOC, hb1⟩
  obtain ⟨g0, cap0, rfl, hg0⟩ := hOC.outer hlen.2
  have hs1 := hb1.size
  obtain ⟨L, hL⟩ : ∃ L, L = allG n := ⟨_, rfl⟩
  have HLd := Lib.hid hL
  rw [← hL] at hOC hlen
  have HL : Hid (∀ i, i < L.length → (row L i).length = n ∧ grB (row L i) = true) := fun i hi => by
    subst hL
    have h := allG_row hi
    exact ⟨h.1, good_of h.2 (by omega) (by omega)⟩
  obtain ⟨N, hN⟩ : ∃ N, N = L.length := ⟨_, rfl⟩
  have HN := Lib.hid hN
  have hNL : (allG n).length = N := by rw [hN, hL]
  rw [hNL]
  rw [← hN] at hOC hlen
  obtain ⟨h, hh⟩ : ∃ h, h = (ptI a L L.length).head? := ⟨_, rfl⟩
  have hPA : h = (ptA a).head? := by rw [hh, HLd.out, Hn.out]; rfl
  have HPo := Lib.hid (firstPartner_pos w1 b off cap a n Hn Hp.out.1 (fun i hi => cell_old hb1 (HC.out i hi)) w.heap.size g0 cap0 XC L N HN hlen.1 hOC (fun i hi => HL.out i (by rw [← HN.out]; exact hi)) h hh)
  have HOC := Lib.hid hOC
  have Hb1 := Lib.hid hb1
  cases h with
  | none =>
    obtain rfl : r = false := by rw [Hr.out, ← hPA]; rfl
    obtain rfl : R = [] := by rw [HR.out, ← hPA]; rfl
    clear hL hOC hN hNL hb1 hh hPA Hr HR
    go_wp2_with fail
    refine HPo.out.mono ?_
    rintro e w2 ⟨rfl, hb2⟩
    have Hb2 := Lib.hid (Hb1.out.trans (hb2.mono hs1))
    clear hb2 HPo
    go_wp2_with fail
    go_ret2
    exact ⟨_, rfl, World.ownsRow_nil _ _ _ _, Hb2.out⟩
  | some i =>
    obtain rfl : r = true := by rw [Hr.out, ← hPA]; rfl
    have hRi : R = row L i := by rw [HR.out, ← hPA, HLd.out, Hn.out]; rfl
    have hi : i < L.length := ptI_lt (List.mem_of_mem_head? (by rw [← hh]; rfl))
    have hx : XC[i]? = some XC[i]! := by
      have hil : i < XC.length := by rw [hOC.2.1]; exact hi
      rw [List.getElem?_eq_getElem hil, getElem!_pos XC i hil]
    have hown := (hOC.2.2.1 i _ _ hx (List.getElem?_eq_getElem hi)).1
    rw [row_get hi, ← hRi] at hown
    obtain ⟨u, hu⟩ : ∃ u, XC[i]! = u := ⟨_, rfl⟩
    have hxu : fpV XC (some i) = u := by show XC.getD i (.bool false) = u; rw [List.getD_eq_getElem?_getD, hx, ← hu]; rfl
    rw [hu] at hown
    rw [hxu] at HPo
    have Hown := Lib.hid hown
    clear hL hOC hN hNL hb1 hh hPA Hr HR hRi hx hown hu hxu
    go_wp2_with fail
    refine HPo.out.mono ?_
    rintro e w2 ⟨rfl, hb2⟩
    have Hb2 := Lib.hid (Hb1.out.trans (hb2.mono hs1))
    have Hown2 := Lib.hid (own_later Hown.out hb2)
    clear hb2 HPo
    go_wp2_with fail
    go_ret2
    exact ⟨u, rfl, Hown2.out, Hb2.out⟩

theorem specFp_any (w : World) (ao : Option Addr) (cap : Nat) (a : List Int) (n : Nat) (Hn : Hid (n = a.length)) (hn : n ≤ 1048576) (hc : NumsAt w ao a) :
    Calls Try.prog 24 #[.slice ao n cap] w fun e w' => ∃ v, e = .returned (.tuple #[v, .bool (fpB a)]) ∧ w'.ownsRow w.heap.size 3 1 v (fpR a).length (ns (fpR a)) ∧ Below w.heap.size w w' := by
  cases ho : okC a
  · rw [show fpR a = [] by simp [fpR, ho], show fpB a = false by simp [fpB, ho]]
    refine (specFp_no w ao cap a n Hn hn hc ho).mono ?_
    rintro e w' ⟨rfl, rfl⟩
    exact ⟨_, rfl, World.ownsRow_nil _ _ _ _, Below.refl _ _⟩
  · exact specFp_yes w ao cap a n Hn hn hc ho (fpB a) (fpR a) (by show _ = _; simp [fpB, ho]) (by show _ = _; simp [fpR, ho])

theorem implFp_any (w : World) (ao : Option Addr) (cap : Nat) (a : List Int) (n : Nat) (Hn : Hid (n = a.length)) (hn : n ≤ 1048576) (hc : NumsAt w ao a) :
    Calls Try.prog 25 #[.slice ao n cap] w fun e w' => ∃ v, e = .returned (.tuple #[v, .bool (fpB a)]) ∧ w'.ownsRow w.heap.size 3 1 v (fpR a).length (ns (fpR a)) ∧ Below w.heap.size w w' := by
  cases ho : okC a
  · rw [show fpR a = [] by simp [fpR, ho], show fpB a = false by simp [fpB, ho]]
    refine (implFp_no w ao cap a n Hn hn hc ho).mono ?_
    rintro e w' ⟨rfl, rfl⟩
    exact ⟨_, rfl, World.ownsRow_nil _ _ _ _, Below.refl _ _⟩
  · exact implFp_yes w ao cap a n Hn hn hc ho (fpB a) (fpR a) (by show _ = _; simp [fpB, ho]) (by show _ = _; simp [fpR, ho])

end Go.Proofs.Ytcedacneagpjcaa
