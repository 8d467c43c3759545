/- Is this a round, are these rounds: the program. -/
import Derived.Test.YtnngdoiempmkkaaRndI1
import Derived.Test.YtnngdoiempmkkaaCGood
namespace Go.Proofs.Ytnngdoiempmkkaa
open Go.ChangeShapes Go.WideShapes Go.ChangeAt Go.RowKit
set_option linter.unusedVariables false


theorem gd_range {f : Int} {l : List (Int × Int)} (h : gdB f l = true) : ∀ i, i < l.length → 0 ≤ ca l i ∧ ca l i < 10 ∧ 0 ≤ cb l i ∧ cb l i < 10 := by
  intro i hi
  have h1 := gd_fr h
  have h2 := gd_call h hi
  omega

theorem ap_no {l : List (Int × Int)} {k : Nat} (hk : k < l.length) (h : apart l k = false) : apB l = false := by
  unfold apB
  rw [List.all_eq_false]
  exact ⟨k, List.mem_range.2 hk, by rw [h]; simp⟩
theorem ap_yes {l : List (Int × Int)} (h : ∀ j, j < l.length → apart l j = true) : apB l = true := by
  unfold apB
  rw [List.all_eq_true]
  exact fun j hj => h j (List.mem_range.1 hj)

set_option maxRecDepth 20000 in
theorem isRound_loop (f : Int) (ao : Option Addr) (cap : Nat) (l : List (Int × Int)) (n : Nat) (w : World) (Hn : Hid (n = l.length)) (hn : n ≤ 60) (hcap : n ≤ cap) (Hg : Hid (gdB f l = true)) (Hi : Hid (incB l = true)) (HA : Hid (CallsAt w ao l)) :
    Calls Try.prog 27 #[.int .i64 f, .slice ao n cap] w fun e w' => e = .returned (.bool (apB l)) ∧ Below w.heap.size w w' := by
  have Hr := Lib.hid (gd_range Hg.out)
  go_enter Try.func27, Try.ntmps27
  go_wp2_with fail
  refine (areCalls_any f ao cap l n w Hn.out (by omega) HA.out).mono ?_
  rintro e w1 ⟨rfl, hb1⟩
  rw [Hg.out]
  go_wp2_with fail
  refine (areInc_any ao cap l n w1 Hn.out (by omega) (HA.out.kept hb1)).mono ?_
  rintro e w2 ⟨rfl, hb2⟩
  rw [Hi.out]
  have hb12 : Below w.heap.size w w2 := hb1.trans (hb2.mono hb1.size)
  clear hb1 hb2
  go_wp2_with fail
  go_loopw [18] (fun i wr => ∃ k : Nat, k ≤ n ∧ i = .int .i64 k ∧ Hid (∀ j, j < k → apart l j = true) ∧ Below w.heap.size w wr) (fun i _ => n - (intOf i).toNat)
  case atStart => exact ⟨0, Nat.zero_le _, rfl, Lib.hid (fun j h => absurd h (Nat.not_lt_zero j)), hb12⟩
  case round =>
    obtain ⟨k, hk, rfl, hall, hbel⟩ := hrel
    by_cases hlt : k < n
    · rcases HA.out with h | ⟨b, off, rfl, hc⟩
      · exact absurd hlt (by rw [Hn.out, h]; simp)
      have Hc := Lib.hid hc
      clear hc
      have hkl : k < l.length := by rw [← Hn.out]; exact hlt
      have hr := Hr.out k hkl
      obtain ⟨x, hx⟩ := Int.eq_ofNat_of_zero_le hr.1
      obtain ⟨y, hy⟩ := Int.eq_ofNat_of_zero_le hr.2.2.1
      have hx10 : x < 10 := by omega
      have hy10 : y < 10 := by omega
      have h0 := hbel.cell (p := ⟨b, off + k * 2, none⟩) (World.block_lt_of_cell? w _ (Hc.out k hkl).1)
      have h1 := hbel.cell (p := ⟨b, off + k * 2 + 1, none⟩) (World.block_lt_of_cell? w _ (Hc.out k hkl).2)
      rw [(Hc.out k hkl).1, hx] at h0
      rw [(Hc.out k hkl).2, hy] at h1
      have hs := hbel.size
      obtain ⟨W, hW⟩ : ∃ W, wr.alloc (Obj.cells #[Value.int IntKind.i64 x, Value.int IntKind.i64 y] 46) = W := ⟨_, rfl⟩
      have c0 : W.cell? ⟨wr.heap.size, 0, none⟩ = some (.int .i64 x) := by rw [← hW]; simp
      have c1 : W.cell? ⟨wr.heap.size, 1, none⟩ = some (.int .i64 y) := by rw [← hW]; simp
      have HbW : Hid (Below w.heap.size w W) := by rw [← hW]; exact hbel.alloc hs _
      have HuL := Lib.hid (ubs_lt 0 (by omega) l k (fun i hi => Hr.out i (by omega)))
      have Hap : Hid (((ubs 0 l k).testBit x || (ubs 0 l k).testBit y) = !apart l k) := by
        show _ = _
        rw [ubs_zero, apart, hx, hy, Int.toNat_natCast, Int.toNat_natCast]
        cases (ub l k).testBit x <;> cases (ub l k).testBit y <;> rfl
      have hk0 : (0 : Int) ≤ k := by omega
      have hk1 : (k : Int) ≤ cap := by omega
      have hk2 : (k : Int) < n := by omega
      clear hx hy hr
      go_wp2_with fail
      try rw [hW]
      clear hW
      go_region_held3 (fun w' => w'.cell? ⟨wr.heap.size, 0, none⟩ = some (.int .i64 x) ∧ w'.cell? ⟨wr.heap.size, 1, none⟩ = some (.int .i64 y) ∧ Hid (Below w.heap.size w w'))
        (first
          | exact ⟨c0, c1, (HbW.out).drew⟩
          | (go_split_ands
             exact ⟨cell_old hbc (by assumption), cell_old hbc (by assumption), hbd⟩)
          | assumption
          | go_keep)
        (first
          | (go_at_call 43
             go_split_ands
             refine (with_any 0 (some ⟨b, off, none⟩) _ l k _ (by omega) (by omega) (by omega) (fun i hi => Hr.out i (by omega)) (HA.out.kept (Hid.out (by assumption)))).mono ?_
             rintro e w3 ⟨rfl, hbc⟩
             have hbd : Hid (Below w.heap.size w w3) := Lib.hid (Below.trans (Hid.out (by assumption)) (hbc.mono (Hid.out (by assumption : Hid (Below w.heap.size w _))).size)))
          | (go_at_call 44
             go_split_ands
             refine (hasOneOf_any _ x y _ HuL.out hx10 hy10).mono ?_
             rintro e w3 ⟨rfl, hbc⟩
             have hbd : Hid (Below w.heap.size w w3) := Lib.hid (Below.trans (Hid.out (by assumption)) (hbc.mono (Hid.out (by assumption : Hid (Below w.heap.size w _))).size)))
          | fail)
      rename_i hS
      have hb6 : Below w.heap.size w w3 := hS.2.2.out
      clear hS h0 h1 c0 c1
      rw [Hap.out]
      cases hc : apart l k
      · have Hno := Lib.hid (ap_no hkl hc)
        clear hc
        go_wp2_with fail
        go_ret
        exact ⟨ret_bool Hno.out.symm, hb6⟩
      · have Hall : Hid (∀ j, j < k + 1 → apart l j = true) := Lib.hid (fun i h2 => by
          by_cases hik : i = k
          · subst hik; exact hc
          · exact hall.out i (by omega))
        clear hc
        go_wp2_with fail
        go_roundw
        case rel => exact ⟨k + 1, by omega, by go_num, Hall, hb6⟩
        case measure => simp [intOf]; omega
    · obtain rfl : k = n := by omega
      have Hyes := Lib.hid (ap_yes (l := l) (fun j h2 => hall.out j (by rw [Hn.out]; exact h2)))
      go_wp2_with fail
      go_ret
      exact ⟨ret_bool Hyes.out.symm, hbel⟩

theorem isRound_any (f : Int) (ao : Option Addr) (cap : Nat) (l : List (Int × Int)) (n : Nat) (w : World) (hf : frB f = true) (hn : n = l.length) (hm : n ≤ 9223372036854775807) (hcap : n ≤ cap) (HA : CallsAt w ao l) :
    Calls Try.prog 27 #[.int .i64 f, .slice ao n cap] w fun e w' => e = .returned (.bool (rndB f l)) ∧ Below w.heap.size w w' := by
  have Hn := Lib.hid hn
  have Hm := Lib.hid hm
  have HA := Lib.hid HA
  rw [← rnd_eq hf]
  clear hn hm
  cases hg : gdB f l
  · rw [Bool.false_and]
    have Hg := Lib.hid hg
    clear hg
    go_enter Try.func27, Try.ntmps27
    go_wp2_with fail
    refine (areCalls_any f ao cap l n w Hn.out Hm.out HA.out).mono ?_
    rintro e w1 ⟨rfl, hb1⟩
    rw [Hg.out]
    go_wp2_with fail
    go_ret
    exact ⟨rfl, hb1⟩
  · have hl := gd_len' hg
    rw [Bool.true_and]
    cases hi : incB l
    · rw [Bool.false_and]
      have Hg := Lib.hid hg
      have Hi := Lib.hid hi
      clear hg hi
      go_enter Try.func27, Try.ntmps27
      go_wp2_with fail
      refine (areCalls_any f ao cap l n w Hn.out Hm.out HA.out).mono ?_
      rintro e w1 ⟨rfl, hb1⟩
      rw [Hg.out]
      go_wp2_with fail
      refine (areInc_any ao cap l n w1 Hn.out (by have := Hn.out; omega) (HA.out.kept hb1)).mono ?_
      rintro e w2 ⟨rfl, hb2⟩
      rw [Hi.out]
      have hb12 : Below w.heap.size w w2 := hb1.trans (hb2.mono hb1.size)
      clear hb1 hb2
      go_wp2_with fail
      go_ret
      exact ⟨rfl, hb12⟩
    · rw [Bool.true_and]
      exact isRound_loop f ao cap l n w Hn (by have := Hn.out; omega) hcap hg hi HA

theorem rnds_fr {f : Int} {L : List (List (Int × Int))} (h : frB f = false) : rndsB f L = false := by simp [rndsB, h]
theorem rnds_len {f : Int} {L : List (List (Int × Int))} (h : 20 < L.length) : rndsB f L = false := by
  have : decide (L.length ≤ 20) = false := by simp; omega
  simp [rndsB, this]
theorem rnds_no {f : Int} {L : List (List (Int × Int))} {k : Nat} (hk : k < L.length) (h : rndB f (crow L k) = false) : rndsB f L = false := by
  have : L.all (rndB f) = false := by
    rw [List.all_eq_false]
    exact ⟨L[k], List.getElem_mem hk, by rw [crow_get hk, h]; simp⟩
  simp [rndsB, this]
theorem rnds_yes {f : Int} {L : List (List (Int × Int))} (hf : frB f = true) (hl : L.length ≤ 20) (h : ∀ j, j < L.length → rndB f (crow L j) = true) : rndsB f L = true := by
  have : L.all (rndB f) = true := by
    rw [List.all_eq_true]
    intro c hc
    obtain ⟨i, hi, rfl⟩ := List.getElem_of_mem hc
    rw [crow_get hi]
    exact h i hi
  simp [rndsB, this, hf, hl]
theorem rnds_row {f : Int} {L : List (List (Int × Int))} (h : rndsB f L = true) (j : Nat) (hj : j < L.length) : rndB f (crow L j) = true := by
  simp only [rndsB, Bool.and_eq_true, List.all_eq_true] at h
  have := h.2.2 L[j] (List.getElem_mem hj)
  rw [crow_get hj] at this
  exact this
theorem rnds_frB {f : Int} {L : List (List (Int × Int))} (h : rndsB f L = true) : frB f = true := by
  simp only [rndsB, Bool.and_eq_true] at h; exact h.1
theorem rnds_len20 {f : Int} {L : List (List (Int × Int))} (h : rndsB f L = true) : L.length ≤ 20 := by
  simp only [rndsB, Bool.and_eq_true, decide_eq_true_eq] at h; exact h.2.1

set_option maxRecDepth 20000 in
theorem areRounds_any (f : Int) (ao : Option Addr) (cap : Nat) (L : List (List (Int × Int))) (n : Nat) (w : World) (Hn : Hid (n = L.length)) (hm : n ≤ 9223372036854775807) (HL : Hid (∀ i, (crow L i).length ≤ 9223372036854775807)) (HA : Hid (RowsAt w ao L)) :
    Calls Try.prog 10 #[.int .i64 f, .slice ao n cap] w fun e w' => e = .returned (.bool (rndsB f L)) ∧ Below w.heap.size w w' := by
  cases hf : frB f
  · have Hno := Lib.hid (rnds_fr (L := L) hf)
    have Hf := Lib.hid hf
    clear hf
    go_enter Try.func10, Try.ntmps10
    go_wp2_with fail
    refine (canBeFriends_any f w).mono ?_
    rintro e w1 ⟨rfl, rfl⟩
    rw [Hf.out]
    go_wp2_with fail
    go_ret
    exact ⟨ret_bool Hno.out.symm, Below.refl _ _⟩
  · have Hf := Lib.hid hf
    clear hf
    by_cases hl : n ≤ 20
    · have hd : decide ((n : Int) > 20) = false := by simp; omega
      go_enter Try.func10, Try.ntmps10
      go_wp2_with fail
      refine (canBeFriends_any f w).mono ?_
      rintro e w1 ⟨rfl, rfl⟩
      rw [Hf.out]
      go_wp2_with fail
      go_loopw [17] (fun i wr => ∃ k : Nat, k ≤ n ∧ i = .int .i64 k ∧ Hid (∀ j, j < k → rndB f (crow L j) = true) ∧ Below w.heap.size w wr) (fun i _ => n - (intOf i).toNat)
      case atStart => exact ⟨0, Nat.zero_le _, rfl, Lib.hid (fun j h => absurd h (Nat.not_lt_zero j)), Below.refl _ _⟩
      case round =>
        obtain ⟨k, hk, rfl, hall, hbel⟩ := hrel
        by_cases hlt : k < n
        · rcases HA.out with h | ⟨b, off, A, C, rfl, hc, hcap⟩
          · exact absurd hlt (by rw [Hn.out, h]; simp)
          have hkl : k < L.length := by rw [← Hn.out]; exact hlt
          obtain ⟨h0, hA⟩ := (hc.kept hbel) k hkl
          have hck := (hcap k hkl).1
          have hlk := HL.out k
          have hs := hbel.size
          have hk0 : (0 : Int) ≤ k := by omega
          have hk2 : (k : Int) < n := by omega
          have HAk := Lib.hid hA
          clear hc hcap hA
          go_wp2_with fail
          refine (isRound_any f (A k) (C k) (crow L k) _ wr Hf.out rfl hlk hck HAk.out).mono ?_
          rintro e w3 ⟨rfl, hb3⟩
          have hb4 : Below w.heap.size w w3 := hbel.trans (hb3.mono hs)
          clear hb3
          cases hr : rndB f (crow L k)
          · have Hno := Lib.hid (rnds_no hkl hr)
            clear hr
            go_wp2_with fail
            go_ret
            exact ⟨ret_bool Hno.out.symm, hb4⟩
          · have Hall : Hid (∀ j, j < k + 1 → rndB f (crow L j) = true) := Lib.hid (fun i h2 => by
              by_cases hik : i = k
              · subst hik; exact hr
              · exact hall.out i (by omega))
            clear hr
            go_wp2_with fail
            go_roundw
            case rel => exact ⟨k + 1, by omega, by go_num, Hall, hb4⟩
            case measure => simp [intOf]; omega
        · obtain rfl : k = n := by omega
          have Hyes := Lib.hid (rnds_yes (L := L) Hf.out (by rw [← Hn.out]; exact hl) (fun j h2 => hall.out j (by rw [Hn.out]; exact h2)))
          go_wp2_with fail
          go_ret
          exact ⟨ret_bool Hyes.out.symm, hbel⟩
    · have hd : decide ((n : Int) > 20) = true := by simp; omega
      have Hno := Lib.hid (rnds_len (f := f) (L := L) (by rw [← Hn.out]; omega))
      go_enter Try.func10, Try.ntmps10
      go_wp2_with fail
      refine (canBeFriends_any f w).mono ?_
      rintro e w1 ⟨rfl, rfl⟩
      rw [Hf.out]
      go_wp2_with fail
      go_ret
      exact ⟨ret_bool Hno.out.symm, Below.refl _ _⟩

end Go.Proofs.Ytnngdoiempmkkaa
