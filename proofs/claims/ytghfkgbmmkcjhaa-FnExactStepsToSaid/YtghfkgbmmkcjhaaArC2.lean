/- Sends that clash. -/
import Derived.Test.YtghfkgbmmkcjhaaArC
namespace Go.Proofs.Ytghfkgbmmkcjhaa
open Go.ChangeShapes Go.WideShapes Go.ChangeAt Go.RowKit
set_option linter.unusedVariables false


theorem take_at {w : World} {b off k : Nat} {l : List Snd} (hk : k ≤ l.length) (h : ∀ i, i < l.length → Sat3 w b off l i) : ∀ i, i < (l.take k).length → Sat3 w b off (l.take k) i := by
  intro i hi
  have hik : i < k := by rw [List.length_take] at hi; omega
  have h2 := h i (by omega)
  have e : (l.take k).getD i (0, 0, 0) = l.getD i (0, 0, 0) := by simp [List.getD_eq_getElem?_getD, hik]
  unfold Sat3 sf st sm at h2 ⊢
  rw [e]; exact h2
theorem any_take_succ {p : Snd → Bool} {l : List Snd} {k : Nat} (h : k < l.length) : (l.take (k + 1)).any p = ((l.take k).any p || p (lsn l k)) := by
  rw [List.take_succ_eq_append_getElem h, List.any_append, lsn_get l k h]; simp
theorem any_of_take {p : Snd → Bool} {l : List Snd} {k : Nat} (h : k < l.length) (hp : p (lsn l k) = true) : l.any p = true := by
  rw [List.any_eq_true]; exact ⟨_, lsn_mem l k h, hp⟩
theorem lsn_eta (l : List Snd) (i : Nat) : lsn l i = (sf l i, st l i, sm l i) := rfl

theorem indexF_zero (ao : Option Addr) (cap : Nat) (v : Value) (w : World) :
    Calls Try.prog 93 #[.slice ao 0 cap, v] w fun e w' => e = .returned (.int .i64 (-1)) ∧ w = w' := by
  go_enter Try.func93, Try.ntmps93
  go_wp2_with fail
  go_rounds 1
  go_ret
  exact ⟨rfl, rfl⟩

set_option maxHeartbeats 800000 in
set_option maxRecDepth 20000 in
theorem indexF_pos (g0 off cap q : Nat) (l : List Snd) (n : Nat) (s : Snd) (w : World) (Hn : Hid (n = l.length)) (hn : n ≤ 1048576) (hq : Hid (At3 w q s))
    (Hc : Hid (∀ i, i < n → Sat3 w g0 off l i)) :
    Calls Try.prog 93 #[.slice (some ⟨g0, off, none⟩) n cap, .func (.func 87) #[] #[.pointer (some ⟨q, 0, none⟩)]] w fun e w' => ∃ r : Int, e = .returned (.int .i64 r) ∧ decide (r ≥ 0) = l.any (meetB s) ∧ Below w.heap.size w w' := by
  have eg : ∀ args w, (callFunc 87 args).run Try.prog w = .ok (.enter 87 args) w := enters_of Try.func87 (by kernel_rfl) rfl
  go_enter Try.func93, Try.ntmps93
  go_wp2_with fail
  go_loopw [8] (fun i wr => ∃ k : Nat, k ≤ n ∧ i = .int .i64 k ∧ Hid ((l.take k).any (meetB s) = false) ∧ Below w.heap.size w wr) (fun i _ => n - (intOf i).toNat)
  case atStart => exact ⟨0, Nat.zero_le _, rfl, rfl, Below.refl _ _⟩
  case round =>
    obtain ⟨k, hk, rfl, hno, hbel⟩ := hrel
    by_cases hlt : k < n
    · obtain ⟨h0, h1, h2⟩ := (Hc.out k hlt).kept hbel
      have hkl : k < l.length := by rw [← Hn.out]; exact hlt
      have hsz := hbel.size
      have hk1 : (0 : Int) ≤ k := by omega
      have hk2 : (k : Int) < n := by omega
      have hCL := clos_any (sf l k) (st l k) (sm l k) s q wr (hq.out.kept hbel)
      rw [← lsn_eta] at hCL
      have hst := any_take_succ (p := meetB s) hkl
      have hyes := any_of_take (p := meetB s) hkl
      obtain ⟨m, hm⟩ : ∃ m, meetB s (lsn l k) = m := ⟨_, rfl⟩
      rw [hm] at hCL hst hyes
      rw [hno.out] at hst
      have HCL := Lib.hid hCL
      have Hst := Lib.hid hst
      have Hyes := Lib.hid hyes
      have Hb2 := Lib.hid hbel
      clear hbel hCL hst hyes hm
      cases m
      · go_wp2_with fail
        go_at_fn 87
        refine HCL.out.mono ?_
        rintro e w5 ⟨rfl, hb5⟩
        have Hb5 := Lib.hid (Hb2.out.trans (hb5.mono hsz))
        clear hb5
        go_wp2_with fail
        go_roundw
        case rel => exact ⟨k + 1, by omega, by go_num, Hst, Hb5.out⟩
        case measure => simp [intOf]; omega
      · have HA : Hid (l.any (meetB s) = true) := Hyes.out rfl
        clear Hyes
        go_wp2_with fail
        go_at_fn 87
        refine HCL.out.mono ?_
        rintro e w5 ⟨rfl, hb5⟩
        have Hb5 := Lib.hid (Hb2.out.trans (hb5.mono hsz))
        clear hb5
        go_wp2_with fail
        go_ret
        exact ⟨k, rfl, by rw [HA.out]; simp, Hb5.out⟩
    · obtain rfl : k = n := by omega
      have hA : l.any (meetB s) = false := by have h := hno.out; rw [Hn.out, List.take_length] at h; exact h
      have HA := Lib.hid hA
      clear hA
      go_wp2_with fail
      go_ret
      exact ⟨-1, rfl, by rw [HA.out]; simp, hbel⟩

theorem containsF_any (w : World) (ao : Option Addr) (cap : Nat) (l : List Snd) (n : Nat) (q : Nat) (s : Snd) (Hn : Hid (n = l.length)) (hn : n ≤ 1048576) (hq : Hid (At3 w q s)) (Hc : Hid (SendsAt w ao l)) :
    Calls Try.prog 86 #[.slice ao n cap, .func (.func 87) #[] #[.pointer (some ⟨q, 0, none⟩)]] w fun e w' => e = .returned (.bool (l.any (meetB s))) ∧ Below w.heap.size w w' := by
  have HX : Hid (Calls Try.prog 93 #[.slice ao n cap, .func (.func 87) #[] #[.pointer (some ⟨q, 0, none⟩)]] w fun e w' => ∃ r : Int, e = .returned (.int .i64 r) ∧ decide (r ≥ 0) = l.any (meetB s) ∧ Below w.heap.size w w') := by
    by_cases h0 : n = 0
    · subst h0
      have hl : l = [] := List.eq_nil_of_length_eq_zero Hn.out.symm
      subst hl
      refine (indexF_zero ao cap _ w).mono ?_
      rintro e w' ⟨rfl, rfl⟩
      exact ⟨-1, rfl, rfl, Below.refl _ _⟩
    · rcases Hc.out with h | ⟨b, off, rfl, hc⟩
      · subst h; exact absurd Hn.out h0
      · exact indexF_pos b off cap q l n s w Hn hn hq (by rw [Hn.out]; exact hc)
  obtain ⟨m, hm⟩ : ∃ m, l.any (meetB s) = m := ⟨_, rfl⟩
  rw [hm] at HX ⊢
  go_enter Try.func86, Try.ntmps86
  go_wp2_with fail
  refine HX.out.mono ?_
  rintro e w' ⟨r, rfl, hr, hb⟩
  go_wp2_with fail
  go_ret
  exact ⟨rfl, hb⟩

theorem clashes_any (w : World) (a b c : Int) (ao : Option Addr) (cap : Nat) (l : List Snd) (n : Nat) (Hn : Hid (n = l.length)) (hn : n ≤ 1048576) (Hc : Hid (SendsAt w ao l)) :
    Calls Try.prog 76 #[.agg #[.int .i64 a, .int .i64 b, .int .i64 c], .slice ao n cap] w fun e w' => e = .returned (.bool (l.any (meetB (a, b, c)))) ∧ Below w.heap.size w w' := by
  have hb1 : Below w.heap.size w (w.alloc (.cells #[.int .i64 a, .int .i64 b, .int .i64 c] 52)) := (Below.refl _ _).alloc (Nat.le_refl _) _
  have hs1 : (w.alloc (.cells #[.int .i64 a, .int .i64 b, .int .i64 c] 52)).heap.size = w.heap.size + 1 := by simp
  have hq : At3 (w.alloc (.cells #[.int .i64 a, .int .i64 b, .int .i64 c] 52)) w.heap.size (a, b, c) := ⟨by simp, by simp, by simp⟩
  have HX := Lib.hid (containsF_any _ ao cap l n w.heap.size (a, b, c) Hn hn hq (Hc.out.kept hb1))
  obtain ⟨m, hm⟩ : ∃ m, l.any (meetB (a, b, c)) = m := ⟨_, rfl⟩
  rw [hm] at HX ⊢
  clear hm hq
  go_enter Try.func76, Try.ntmps76
  go_wp2_with fail
  refine HX.out.mono ?_
  rintro e w' ⟨rfl, hb⟩
  have hb2 := hb1.trans (hb.mono (by rw [hs1]; omega))
  go_wp2_with fail
  go_ret
  exact ⟨rfl, hb2⟩

end Go.Proofs.Ytghfkgbmmkcjhaa
