/- Are calls pairs of a network: the model and the program. -/
import Derived.Test.YtbddhjpofijmpaaHas
namespace Go.Proofs.Ytbddhjpofijmpaa
open Go.ChangeShapes Go.WideShapes Go.ChangeAt Go.RowKit
set_option linter.unusedVariables false


theorem szCallS_left (ao : Option Addr) (n cap : Nat) (left : Int) (w : World) (h : (n : Int) ≤ left) (h0 : 0 ≤ left) (hl : left ≤ 1048576) :
    Calls Try.prog 12 #[.slice ao n cap, .int .i64 left] w fun e w' => e = .returned (.int .i64 (left - n)) ∧ w = w' := by
  have hd : decide (left - (n : Int) < 0) = false := by simp; omega
  go_enter Try.func12, Try.ntmps12
  go_wp2
  go_ret
  exact ⟨rfl, rfl⟩
theorem szCallS_over (ao : Option Addr) (n cap : Nat) (left : Int) (w : World) (h : left < (n : Int)) (h0 : 0 ≤ left) (hl : left ≤ 1048576) (hm : n ≤ 9223372036854775807) :
    Calls Try.prog 12 #[.slice ao n cap, .int .i64 left] w fun e w' => e = .returned (.int .i64 (-1)) ∧ w = w' := by
  have hd : decide (left - (n : Int) < 0) = true := by simp; omega
  go_enter Try.func12, Try.ntmps12
  go_wp2
  go_ret
  exact ⟨rfl, rfl⟩

/-- There are a network and calls. -/
def inB (f : Int) (l m : List (Int × Int)) : Bool := netB f l && gdB f m
/-- All calls are pairs of the network. -/
def allIn (l m : List (Int × Int)) : Bool := (List.range m.length).all fun k => hasC l (ca m k) (cb m k)
def inR (f : Int) (l m : List (Int × Int)) : Bool := inB f l m && allIn l m
theorem allIn_no {l m : List (Int × Int)} {k : Nat} (hk : k < m.length) (h : hasC l (ca m k) (cb m k) = false) : allIn l m = false := by
  unfold allIn
  rw [List.all_eq_false]
  exact ⟨k, List.mem_range.2 hk, by rw [h]; simp⟩
theorem allIn_yes {l m : List (Int × Int)} (h : ∀ k, k < m.length → hasC l (ca m k) (cb m k) = true) : allIn l m = true := by
  unfold allIn
  rw [List.all_eq_true]
  exact fun k hk => h k (List.mem_range.1 hk)

set_option maxRecDepth 20000 in
theorem specIn_any (w : World) (f : Int) (ao : Option Addr) (cap : Nat) (l : List (Int × Int)) (n : Nat) (Hn : Hid (n = l.length)) (hs : n ≤ 1048576) (Hc : CallsAt w ao l) (bo : Option Addr) (dap : Nat) (m : List (Int × Int)) (p : Nat) (Hm : Hid (p = m.length)) (hs2 : p ≤ 1048576) (Hd : CallsAt w bo m) :
    Calls Try.prog 27 #[.int .i64 f, .slice ao n cap, .slice bo p dap] w fun e w' => e = .returned (.tuple #[.bool (inR f l m), .bool (inB f l m)]) ∧ Below w.heap.size w w' := by
  have HA := Lib.hid Hc
  have HD := Lib.hid Hd
  clear Hc Hd
  cases hg : netB f l
  · have Hno : Hid (inB f l m = false ∧ inR f l m = false) := Lib.hid (by simp [inR, inB, hg])
    have Hg := Lib.hid hg
    clear hg
    go_enter Try.func27, Try.ntmps27
    go_wp2_with fail
    refine (neGood_any f ao cap l n w Hn.out (by omega) HA.out).mono ?_
    rintro e w1 ⟨rfl, hb1⟩
    rw [Hg.out]
    go_wp2_with fail
    go_ret2
    exact ⟨by rw [Hno.out.1, Hno.out.2]; rfl, hb1⟩
  · have Hg := Lib.hid hg
    clear hg
    cases hgm : gdB f m
    · have Hno : Hid (inB f l m = false ∧ inR f l m = false) := Lib.hid (by simp [inR, inB, hgm])
      have Hgm := Lib.hid hgm
      clear hgm
      go_enter Try.func27, Try.ntmps27
      go_wp2_with fail
      refine (neGood_any f ao cap l n w Hn.out (by omega) HA.out).mono ?_
      rintro e w1 ⟨rfl, hb1⟩
      rw [Hg.out]
      go_wp2_with fail
      refine (caGood_any f bo dap m p w1 Hm.out (by omega) (HD.out.kept hb1)).mono ?_
      rintro e w2 ⟨rfl, hb2⟩
      rw [Hgm.out]
      have hb3 := hb1.trans (hb2.mono hb1.size)
      clear hb1 hb2
      go_wp2_with fail
      go_ret2
      exact ⟨by rw [Hno.out.1, Hno.out.2]; rfl, hb3⟩
    · have Hok : Hid (inB f l m = true ∧ inR f l m = allIn l m) := Lib.hid (by simp [inR, inB, hgm, Hg.out])
      have Hgm := Lib.hid hgm
      clear hgm
      go_enter Try.func27, Try.ntmps27
      go_wp2_with fail
      refine (neGood_any f ao cap l n w Hn.out (by omega) HA.out).mono ?_
      rintro e w1 ⟨rfl, hb1⟩
      rw [Hg.out]
      go_wp2_with fail
      refine (caGood_any f bo dap m p w1 Hm.out (by omega) (HD.out.kept hb1)).mono ?_
      rintro e w2 ⟨rfl, hb2⟩
      rw [Hgm.out]
      have hb3 := hb1.trans (hb2.mono hb1.size)
      clear hb1 hb2
      go_wp2_with fail
      go_loopw [22] (fun i wr => ∃ k : Nat, k ≤ p ∧ i = .int .i64 k ∧ Hid (∀ j, j < k → hasC l (ca m j) (cb m j) = true) ∧ Below w.heap.size w wr) (fun i _ => p - (intOf i).toNat)
      case atStart => exact ⟨0, Nat.zero_le _, rfl, Lib.hid (fun j h => absurd h (Nat.not_lt_zero j)), hb3⟩
      case round =>
        clear hb3
        obtain ⟨k, hk, rfl, hall, hbel⟩ := hrel
        by_cases hlt : k < p
        · rcases HD.out with h | ⟨b, off, rfl, hc⟩
          · exact absurd hlt (by rw [Hm.out, h]; simp)
          have hkl : k < m.length := by rw [← Hm.out]; exact hlt
          have h0 := cell_old hbel (hc k hkl).1
          have h1 := cell_old hbel (hc k hkl).2
          have hs3 := hbel.size
          have hk0 : (0 : Int) ≤ k := by omega
          have hk2 : (k : Int) < p := by omega
          have hcall := gd_call Hgm.out hkl
          obtain ⟨X, hX⟩ : ∃ X : Int, ca m k = X := ⟨_, rfl⟩
          obtain ⟨Y, hY⟩ : ∃ Y : Int, cb m k = Y := ⟨_, rfl⟩
          rw [hX] at h0
          rw [hY] at h1
          rw [hX, hY] at hcall
          have HXe := Lib.hid hX
          have HYe := Lib.hid hY
          have HM : Hid (min X Y = X ∧ max X Y = Y) := Lib.hid ⟨by omega, by omega⟩
          have HbW : Hid (∀ o, Below w.heap.size w (wr.alloc o)) := Lib.hid (fun o => hbel.alloc hs3 o)
          have HAk : Hid (∀ o, CallsAt (wr.alloc o) ao l) := Lib.hid (fun o => HA.out.kept (HbW.out o))
          clear hX hY hc hcall
          cases hh : hasC l X Y
          · have Hh := Lib.hid hh
            have Hno : Hid (allIn l m = false) := Lib.hid (allIn_no hkl (by rw [HXe.out, HYe.out]; exact hh))
            clear hh
            go_wp2_with fail
            refine (neIs_any ao cap l n X Y _ Hn hs (HAk.out _)).mono ?_
            rintro e w5 ⟨rfl, hb5⟩
            have hb6 := (HbW.out _).trans (hb5.mono (HbW.out _).size)
            rw [HM.out.1, HM.out.2]
            rw [Hh.out]
            have HB6 := Lib.hid hb6
            clear hb5 hb6 hbel h0 h1
            go_wp2_with fail
            go_ret2
            exact ⟨by rw [Hok.out.1, Hok.out.2, Hno.out]; rfl, HB6.out⟩
          · have Hh := Lib.hid hh
            have Hall : Hid (∀ j, j < k + 1 → hasC l (ca m j) (cb m j) = true) := Lib.hid (fun i h2 => by
              by_cases hik : i = k
              · subst hik; rw [HXe.out, HYe.out]; exact hh
              · exact hall.out i (by omega))
            clear hh
            go_wp2_with fail
            refine (neIs_any ao cap l n X Y _ Hn hs (HAk.out _)).mono ?_
            rintro e w5 ⟨rfl, hb5⟩
            have hb6 := (HbW.out _).trans (hb5.mono (HbW.out _).size)
            rw [HM.out.1, HM.out.2]
            rw [Hh.out]
            have HB6 := Lib.hid hb6
            clear hb5 hb6 hbel h0 h1
            go_wp2_with fail
            go_roundw
            case rel => exact ⟨k + 1, by omega, by go_num, Hall, HB6.out⟩
            case measure => simp [intOf]; omega
        · obtain rfl : k = p := by omega
          have Hyes := Lib.hid (allIn_yes (l := l) (m := m) (fun j h2 => hall.out j (by rw [Hm.out]; exact h2)))
          go_wp2_with fail
          go_ret2
          exact ⟨by rw [Hok.out.1, Hok.out.2, Hyes.out]; rfl, hbel⟩

set_option maxRecDepth 20000 in
theorem implIn_any (w : World) (f : Int) (ao : Option Addr) (cap : Nat) (l : List (Int × Int)) (n : Nat) (Hn : Hid (n = l.length)) (hs : n ≤ 1048576) (Hc : CallsAt w ao l) (bo : Option Addr) (dap : Nat) (m : List (Int × Int)) (p : Nat) (Hm : Hid (p = m.length)) (hs2 : p ≤ 1048576) (Hd : CallsAt w bo m) :
    Calls Try.prog 28 #[.int .i64 f, .slice ao n cap, .slice bo p dap] w fun e w' => e = .returned (.tuple #[.bool (inR f l m), .bool (inB f l m)]) ∧ Below w.heap.size w w' := by
  have HA := Lib.hid Hc
  have HD := Lib.hid Hd
  clear Hc Hd
  cases hg : netB f l
  · have Hno : Hid (inB f l m = false ∧ inR f l m = false) := Lib.hid (by simp [inR, inB, hg])
    have Hg := Lib.hid hg
    clear hg
    go_enter Try.func28, Try.ntmps28
    go_wp2_with fail
    refine (implPairs_any w f ao cap l n Hn hs HA.out).mono ?_
    rintro e w1 ⟨rfl, hb1⟩
    rw [Hg.out]
    go_wp2_with fail
    go_ret2
    exact ⟨by rw [Hno.out.1, Hno.out.2]; rfl, hb1⟩
  · have Hg := Lib.hid hg
    clear hg
    cases hgm : gdB f m
    · have Hno : Hid (inB f l m = false ∧ inR f l m = false) := Lib.hid (by simp [inR, inB, hgm])
      have Hgm := Lib.hid hgm
      clear hgm
      go_enter Try.func28, Try.ntmps28
      go_wp2_with fail
      refine (implPairs_any w f ao cap l n Hn hs HA.out).mono ?_
      rintro e w1 ⟨rfl, hb1⟩
      rw [Hg.out]
      go_wp2_with fail
      refine (areCalls_any f bo dap m p w1 Hm.out (by omega) (HD.out.kept hb1)).mono ?_
      rintro e w2 ⟨rfl, hb2⟩
      rw [Hgm.out]
      have hb3 := hb1.trans (hb2.mono hb1.size)
      clear hb1 hb2
      go_wp2_with fail
      go_ret2
      exact ⟨by rw [Hno.out.1, Hno.out.2]; rfl, hb3⟩
    · have Hok : Hid (inB f l m = true ∧ inR f l m = allIn l m) := Lib.hid (by simp [inR, inB, hgm, Hg.out])
      have Hgm := Lib.hid hgm
      clear hgm
      go_enter Try.func28, Try.ntmps28
      go_wp2_with fail
      refine (implPairs_any w f ao cap l n Hn hs HA.out).mono ?_
      rintro e w1 ⟨rfl, hb1⟩
      rw [Hg.out]
      go_wp2_with fail
      refine (areCalls_any f bo dap m p w1 Hm.out (by omega) (HD.out.kept hb1)).mono ?_
      rintro e w2 ⟨rfl, hb2⟩
      rw [Hgm.out]
      have hb3 := hb1.trans (hb2.mono hb1.size)
      clear hb1 hb2
      go_wp2_with fail
      go_loopw [22] (fun i wr => ∃ k : Nat, k ≤ p ∧ i = .int .i64 k ∧ Hid (∀ j, j < k → hasC l (ca m j) (cb m j) = true) ∧ Below w.heap.size w wr) (fun i _ => p - (intOf i).toNat)
      case atStart => exact ⟨0, Nat.zero_le _, rfl, Lib.hid (fun j h => absurd h (Nat.not_lt_zero j)), hb3⟩
      case round =>
        clear hb3
        obtain ⟨k, hk, rfl, hall, hbel⟩ := hrel
        by_cases hlt : k < p
        · rcases HD.out with h | ⟨b, off, rfl, hc⟩
          · exact absurd hlt (by rw [Hm.out, h]; simp)
          have hkl : k < m.length := by rw [← Hm.out]; exact hlt
          have h0 := cell_old hbel (hc k hkl).1
          have h1 := cell_old hbel (hc k hkl).2
          have hs3 := hbel.size
          have hk0 : (0 : Int) ≤ k := by omega
          have hk2 : (k : Int) < p := by omega
          have hcall := gd_call Hgm.out hkl
          obtain ⟨X, hX⟩ : ∃ X : Int, ca m k = X := ⟨_, rfl⟩
          obtain ⟨Y, hY⟩ : ∃ Y : Int, cb m k = Y := ⟨_, rfl⟩
          rw [hX] at h0
          rw [hY] at h1
          rw [hX, hY] at hcall
          have HXe := Lib.hid hX
          have HYe := Lib.hid hY
          have HM : Hid (min X Y = X ∧ max X Y = Y) := Lib.hid ⟨by omega, by omega⟩
          have HbW : Hid (∀ o, Below w.heap.size w (wr.alloc o)) := Lib.hid (fun o => hbel.alloc hs3 o)
          have HAk : Hid (∀ o, CallsAt (wr.alloc o) ao l) := Lib.hid (fun o => HA.out.kept (HbW.out o))
          clear hX hY hc hcall
          cases hh : hasC l X Y
          · have Hh := Lib.hid hh
            have Hno : Hid (allIn l m = false) := Lib.hid (allIn_no hkl (by rw [HXe.out, HYe.out]; exact hh))
            clear hh
            go_wp2_with fail
            refine (contains_any ao cap l n X Y _ Hn hs (HAk.out _)).mono ?_
            rintro e w5 ⟨rfl, hb5⟩
            have hb6 := (HbW.out _).trans (hb5.mono (HbW.out _).size)
            skip
            rw [Hh.out]
            have HB6 := Lib.hid hb6
            clear hb5 hb6 hbel h0 h1
            go_wp2_with fail
            go_ret2
            exact ⟨by rw [Hok.out.1, Hok.out.2, Hno.out]; rfl, HB6.out⟩
          · have Hh := Lib.hid hh
            have Hall : Hid (∀ j, j < k + 1 → hasC l (ca m j) (cb m j) = true) := Lib.hid (fun i h2 => by
              by_cases hik : i = k
              · subst hik; rw [HXe.out, HYe.out]; exact hh
              · exact hall.out i (by omega))
            clear hh
            go_wp2_with fail
            refine (contains_any ao cap l n X Y _ Hn hs (HAk.out _)).mono ?_
            rintro e w5 ⟨rfl, hb5⟩
            have hb6 := (HbW.out _).trans (hb5.mono (HbW.out _).size)
            skip
            rw [Hh.out]
            have HB6 := Lib.hid hb6
            clear hb5 hb6 hbel h0 h1
            go_wp2_with fail
            go_roundw
            case rel => exact ⟨k + 1, by omega, by go_num, Hall, HB6.out⟩
            case measure => simp [intOf]; omega
        · obtain rfl : k = p := by omega
          have Hyes := Lib.hid (allIn_yes (l := l) (m := m) (fun j h2 => hall.out j (by rw [Hm.out]; exact h2)))
          go_wp2_with fail
          go_ret2
          exact ⟨by rw [Hok.out.1, Hok.out.2, Hyes.out]; rfl, hbel⟩

end Go.Proofs.Ytbddhjpofijmpaa
