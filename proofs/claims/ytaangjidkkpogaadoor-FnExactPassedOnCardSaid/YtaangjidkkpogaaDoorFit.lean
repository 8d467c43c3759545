/- Is a friend honest, what it says, does a cast fit: both sides. -/
import Derived.Test.YtaangjidkkpogaaDoorCls
import Derived.Test.YtaangjidkkpogaaDoorStr
import Derived.Lib.TrimByte
namespace Go.Proofs.YtaangjidkkpogaaDoor
open Go.ChangeShapes Go.WideShapes Go.ChangeAt Go.RowKit
set_option linter.unusedVariables false


theorem cbs_at (c : List Bool) (i : Nat) (h : i < (cbs c).size) : (cbs c)[i]'h = cby (hon c (i : Int)) := by
  have h2 : i < c.length := by rw [cbs_size] at h; exact h
  have h3 : (cbs c)[i]'h = (c.map cby).toArray[i]'(by simpa using h2) := rfl
  rw [h3]
  simp [hon, List.getD_eq_getElem?_getD, h2]
theorem cbs_cut (c : List Bool) (i : Nat) (h : i < c.length) : (cbs c).extract i (i + 1) = ⟨#[cby (hon c (i : Int))]⟩ := by
  unfold cbs
  rw [Lib.extract_mk]
  congr 1
  rw [show i + 1 - i = 1 by omega, List.drop_eq_getElem_cons (by simpa using h)]
  simp [hon, List.getD_eq_getElem?_getD, h]
theorem idx_c (c : List Bool) (x : Int) (h0 : 0 ≤ x) (h1 : x < c.length) : ∃ z : Int, (z == 104) = hon c x ∧ (z == 108) = (!hon c x) ∧ ∀ W : World, (Instr.index 9 (.string (cbs c)) (.int .i64 x)).run Tryd.prog W = .ok (.int .u8 z) W := by
  refine ⟨((cby (hon c x)).toNat : Int), by cases hon c x <;> rfl, by cases hon c x <;> rfl, fun W => ?_⟩
  rw [run_index_string W 9 (cbs c) .i64 x Tryd.underlying9, dif_pos (by rw [cbs_size]; omega)]
  rw [cbs_at, show ((x.toNat : Nat) : Int) = x by omega]
theorem isHonest_any (c : List Bool) (i : Nat) (w : World) (h : i < c.length) (hc : c.length ≤ 100) :
    Calls Tryd.prog 42 #[.string (cbs c), .int .i64 i] w fun e w' => e = .returned (.bool (hon c i)) ∧ w' = w := by
  obtain ⟨s, hs⟩ : ∃ s, cbs c = s := ⟨_, rfl⟩
  have hz : s.size = c.length := by rw [← hs, cbs_size]
  have hcut := cbs_cut c i h
  rw [hs] at hcut ⊢
  have hr : ∀ b, hon c (i : Int) = b → ((⟨#[cby (hon c (i : Int))]⟩ : ByteArray).toList == [104]) = b := by
    intro b hb
    rw [hb]
    cases b <;> simp [cby, Lib.toList_data]
  have hr2 := hr _ rfl
  rw [← hcut] at hr2
  obtain ⟨r, hr3⟩ : ∃ r, hon c (i : Int) = r := ⟨_, rfl⟩
  rw [hr3] at hr2 ⊢
  clear hr hr3 hcut hs
  go_enter Tryd.func42, Tryd.ntmps42
  go_wp2
  go_ret
  exact ⟨rfl, rfl⟩

theorem says_any (c : List Bool) (x y : Int) (h : Bool) (w : World) (hx : 0 ≤ x ∧ x < c.length) (hy : 0 ≤ y ∧ y < c.length) (hc : c.length ≤ 100) :
    Calls Tryd.prog 36 #[.string (cbs c), .agg #[.int .i64 x, .int .i64 y, .bool h]] w fun e w' => e = .returned (.bool (sayB c x y h)) ∧ Below w.heap.size w w' := by
  obtain ⟨a, rfl⟩ := Int.eq_ofNat_of_zero_le hx.1
  obtain ⟨b, rfl⟩ := Int.eq_ofNat_of_zero_le hy.1
  have HA := Lib.hid (fun w => isHonest_any c a w (by omega) hc)
  have HB := Lib.hid (fun w => isHonest_any c b w (by omega) hc)
  have hS : sayB c a b h = (hon c a == (hon c b == h)) := rfl
  rw [hS]
  generalize hon c a = ra at HA ⊢
  generalize hon c b = rb at HB ⊢
  generalize cbs c = s at HA HB ⊢
  clear hS hx hy hc
  go_enter Tryd.func36, Tryd.ntmps36
  go_wp2_with fail
  go_quiet ((go_at_call 42; exact Calls.quiet_of_same (HB.out _)))
  go_wp2_with fail
  refine (HA.out _).mono ?_
  rintro e w' ⟨rfl, rfl⟩
  go_wp2_with fail
  go_ret
  exact ⟨rfl, below_drewN ((Below.refl _ _).alloc (Nat.le_refl _) _) _⟩
set_option maxRecDepth 20000 in
theorem fits_pos (b off cap : Nat) (c : List Bool) (l : List Snd) (n : Nat) (w : World) (Hn : Hid (n = l.length)) (hn : n ≤ 1048576) (hc : Hid (c.length ≤ 100)) (HL : Hid (∀ i, i < n → (0 ≤ sf l i ∧ sf l i < c.length) ∧ (0 ≤ st l i ∧ st l i < c.length))) (Hc : Hid (∀ i, i < n → Sat3 w b off l i)) :
    Calls Tryd.prog 33 #[.string (cbs c), .slice (some ⟨b, off, none⟩) n cap] w fun e w' => e = .returned (.bool (fit l c)) ∧ Below w.heap.size w w' := by
  obtain ⟨r, Hr⟩ : ∃ r : Bool, Hid (r = fit l c) := ⟨_, Lib.hid rfl⟩
  rw [← Hr.out]
  go_enter Tryd.func33, Tryd.ntmps33
  go_wp2_with fail
  go_loopw [9] (fun i wr => ∃ k : Nat, k ≤ n ∧ i = .int .i64 k ∧ Below w.heap.size w wr ∧ ∀ i, i < k → sayB c (sf l i) (st l i) (sm l i) = true) (fun i _ => n - (intOf i).toNat)
  case atStart => exact ⟨0, Nat.zero_le _, rfl, Below.refl _ _, fun i hi => absurd hi (Nat.not_lt_zero _)⟩
  case round =>
    obtain ⟨k, hk, rfl, hbel, hgd⟩ := hrel
    have Hgd := Lib.hid hgd
    clear hgd
    by_cases hlt : k < n
    · obtain ⟨h0, h1, h2⟩ := (Hc.out k hlt).kept hbel
      have hb2 := hbel.alloc hbel.size (.cells #[.int .i64 (sf l k), .int .i64 (st l k), .bool (sm l k)] 48)
      have HS := Lib.hid (fun w => says_any c (sf l k) (st l k) (sm l k) w (HL.out k hlt).1 (HL.out k hlt).2 hc.out)
      cases hs : sayB c (sf l k) (st l k) (sm l k)
      · have HR : Hid (r = false) := Lib.hid (by rw [Hr.out]; exact fit_no (by rw [← Hn.out]; exact hlt) hs)
        rw [hs] at HS
        clear hs
        go_wp2_with fail
        refine (HS.out _).mono ?_
        rintro e w2 ⟨rfl, hb3⟩
        have Hb4 := Lib.hid (hb2.trans (hb3.mono hb2.size))
        clear hb3 hb2
        go_wp2_with fail
        go_ret
        exact ⟨ret_bool HR.out.symm, Hb4.out⟩
      · have Hg2 : Hid (∀ i, i < k + 1 → sayB c (sf l i) (st l i) (sm l i) = true) := Lib.hid (fun i hi => by
          by_cases h1 : i = k
          · subst h1; exact hs
          · exact Hgd.out i (by omega))
        rw [hs] at HS
        clear hs
        go_wp2_with fail
        refine (HS.out _).mono ?_
        rintro e w2 ⟨rfl, hb3⟩
        have Hb4 := Lib.hid (hb2.trans (hb3.mono hb2.size))
        clear hb3 hb2
        go_wp2_with fail
        go_roundw
        case rel => exact ⟨k + 1, by omega, by go_num, Hb4.out, Hg2.out⟩
        case measure => simp [intOf]; omega
    · have hR : r = true := by
        rw [Hr.out]
        exact fit_yes (fun i hi => Hgd.out i (by have := Hn.out; omega))
      go_wp2
      go_ret
      exact ⟨ret_bool hR.symm, hbel⟩
theorem fits_zero (ao : Option Addr) (cap : Nat) (s : ByteArray) (w : World) :
    Calls Tryd.prog 33 #[.string s, .slice ao 0 cap] w fun e w' => e = .returned (.bool true) ∧ Below w.heap.size w w' := by
  go_enter Tryd.func33, Tryd.ntmps33
  go_wp2_with fail
  go_rounds 1
  go_ret
  exact ⟨rfl, Below.refl _ _⟩
theorem fits_any (w : World) (c : List Bool) (ao : Option Addr) (cap : Nat) (l : List Snd) (n : Nat) (Hn : Hid (n = l.length)) (hn : n ≤ 1048576) (hc : Hid (c.length ≤ 100)) (HL : Hid (∀ i, i < n → (0 ≤ sf l i ∧ sf l i < c.length) ∧ (0 ≤ st l i ∧ st l i < c.length))) (Hc : SendsAt w ao l) :
    Calls Tryd.prog 33 #[.string (cbs c), .slice ao n cap] w fun e w' => e = .returned (.bool (fit l c)) ∧ Below w.heap.size w w' := by
  by_cases h0 : n = 0
  · subst h0
    have : l = [] := List.eq_nil_of_length_eq_zero Hn.out.symm
    subst this
    exact fits_zero ao cap _ w
  · rcases Hc with h | ⟨b, off, rfl, hc2⟩
    · subst h; exact absurd Hn.out h0
    · exact fits_pos b off cap c l n w Hn hn hc HL (by rw [Hn.out]; exact hc2)

theorem liSays_any (c : List Bool) (x y : Int) (w : World) (hx : 0 ≤ x ∧ x < c.length) (hy : 0 ≤ y ∧ y < c.length) :
    Calls Tryd.prog 35 #[.string (cbs c), .int .i64 x, .int .i64 y] w fun e w' => e = .returned (.bool (hon c y == hon c x)) ∧ ∃ m, w' = w.drewN m := by
  obtain ⟨z1, e1, _, i1⟩ := idx_c c x hx.1 hx.2
  obtain ⟨z2, e2, _, i2⟩ := idx_c c y hy.1 hy.2
  generalize cbs c = s at i1 i2 ⊢
  rw [← e1, ← e2]
  clear e1 e2 hx hy
  go_enter Tryd.func35, Tryd.ntmps35
  go_wp2_with fail
  go_quiet (fail)
  go_wp2_with fail
  go_ret
  exact ⟨rfl, _, rfl⟩
set_option maxRecDepth 20000 in
theorem liFits_pos (b off cap : Nat) (c : List Bool) (l : List Snd) (n : Nat) (w : World) (Hn : Hid (n = l.length)) (hn : n ≤ 1048576) (hc : Hid (c.length ≤ 100)) (HL : Hid (∀ i, i < n → (0 ≤ sf l i ∧ sf l i < c.length) ∧ (0 ≤ st l i ∧ st l i < c.length))) (Hc : Hid (∀ i, i < n → Sat3 w b off l i)) :
    Calls Tryd.prog 29 #[.slice (some ⟨b, off, none⟩) n cap, .string (cbs c)] w fun e w' => e = .returned (.bool (fit l c)) ∧ Below w.heap.size w w' := by
  obtain ⟨r, Hr⟩ : ∃ r : Bool, Hid (r = fit l c) := ⟨_, Lib.hid rfl⟩
  rw [← Hr.out]
  go_enter Tryd.func29, Tryd.ntmps29
  go_wp2_with fail
  go_loopw [9] (fun i wr => ∃ k : Nat, k ≤ n ∧ i = .int .i64 k ∧ Below w.heap.size w wr ∧ ∀ i, i < k → sayB c (sf l i) (st l i) (sm l i) = true) (fun i _ => n - (intOf i).toNat)
  case atStart => exact ⟨0, Nat.zero_le _, rfl, Below.refl _ _, fun i hi => absurd hi (Nat.not_lt_zero _)⟩
  case round =>
    obtain ⟨k, hk, rfl, hbel, hgd⟩ := hrel
    have Hgd := Lib.hid hgd
    clear hgd
    by_cases hlt : k < n
    · obtain ⟨h0, h1, h2⟩ := (Hc.out k hlt).kept hbel
      have hb2 := hbel.alloc hbel.size (.cells #[.int .i64 (sf l k), .int .i64 (st l k), .bool (sm l k)] 48)
      have HS := Lib.hid (fun w => liSays_any c (sf l k) (st l k) w (HL.out k hlt).1 (HL.out k hlt).2)
      have hse := say_ne c (sf l k) (st l k) (sm l k)
      generalize (hon c (st l k) == hon c (sf l k)) = y at HS hse
      cases hs : sayB c (sf l k) (st l k) (sm l k)
      · have HR : Hid (r = false) := Lib.hid (by rw [Hr.out]; exact fit_no (by rw [← Hn.out]; exact hlt) hs)
        rw [hs] at hse
        have hse2 : (!(y == sm l k)) = true := hse
        clear hse
        clear hs
        have Hb2 := Lib.hid hb2
        clear hb2
        go_wp2_with fail
        go_quiet ((go_at_call 35; exact Calls.quiet_of (HS.out _)))
        have Hb4 := Lib.hid (below_drewN Hb2.out nq)
        go_wp2_with fail
        go_ret
        exact ⟨ret_bool HR.out.symm, Hb4.out⟩
      · have Hg2 : Hid (∀ i, i < k + 1 → sayB c (sf l i) (st l i) (sm l i) = true) := Lib.hid (fun i hi => by
          by_cases h1 : i = k
          · subst h1; exact hs
          · exact Hgd.out i (by omega))
        rw [hs] at hse
        have hse2 : (!(y == sm l k)) = false := hse
        clear hse
        clear hs
        have Hb2 := Lib.hid hb2
        clear hb2
        go_wp2_with fail
        go_quiet ((go_at_call 35; exact Calls.quiet_of (HS.out _)))
        have Hb4 := Lib.hid (below_drewN Hb2.out nq)
        go_wp2_with fail
        go_roundw
        case rel => exact ⟨k + 1, by omega, by go_num, Hb4.out, Hg2.out⟩
        case measure => simp [intOf]; omega
    · have hR : r = true := by
        rw [Hr.out]
        exact fit_yes (fun i hi => Hgd.out i (by have := Hn.out; omega))
      go_wp2
      go_ret
      exact ⟨ret_bool hR.symm, hbel⟩
theorem liFits_zero (ao : Option Addr) (cap : Nat) (s : ByteArray) (w : World) :
    Calls Tryd.prog 29 #[.slice ao 0 cap, .string s] w fun e w' => e = .returned (.bool true) ∧ Below w.heap.size w w' := by
  go_enter Tryd.func29, Tryd.ntmps29
  go_wp2_with fail
  go_rounds 1
  go_ret
  exact ⟨rfl, Below.refl _ _⟩
theorem liFits_any (w : World) (c : List Bool) (ao : Option Addr) (cap : Nat) (l : List Snd) (n : Nat) (Hn : Hid (n = l.length)) (hn : n ≤ 1048576) (hc : Hid (c.length ≤ 100)) (HL : Hid (∀ i, i < n → (0 ≤ sf l i ∧ sf l i < c.length) ∧ (0 ≤ st l i ∧ st l i < c.length))) (Hc : SendsAt w ao l) :
    Calls Tryd.prog 29 #[.slice ao n cap, .string (cbs c)] w fun e w' => e = .returned (.bool (fit l c)) ∧ Below w.heap.size w w' := by
  by_cases h0 : n = 0
  · subst h0
    have : l = [] := List.eq_nil_of_length_eq_zero Hn.out.symm
    subst this
    exact liFits_zero ao cap _ w
  · rcases Hc with h | ⟨b, off, rfl, hc2⟩
    · subst h; exact absurd Hn.out h0
    · exact liFits_pos b off cap c l n w Hn hn hc HL (by rw [Hn.out]; exact hc2)

end Go.Proofs.YtaangjidkkpogaaDoor
