/- Who can hear from whom: the program. -/
import Derived.Test.YtolkfgjgnpjpkaaHeardS
import Derived.Test.YtolkfgjgnpjpkaaBefore
import Derived.Test.YtolkfgjgnpjpkaaKeys
import Derived.ScopeJumps
import Derived.WalkMore
import Derived.Deep.LoopGhost
namespace Go.Proofs.Ytolkfgjgnpjpkaa
open Go.ChangeShapes Go.WideShapes Go.ChangeAt Go.RowKit Go.Maps Go.Shelf
set_option linter.unusedVariables false


theorem wp_scope_ghost {P : Program} {a : Act} {w : World} {Q : Exit → Act → World → Prop} {c rest : Code} (l : Nat) (I : Nat → Act → World → Prop) (hf : findLabel c l = some rest)
    (first : c.wp P (Exit.jump l (fun a w => ∃ n, I n a w) Q) a w)
    (pass : ∀ n a w, I n a w → rest.wp P (Exit.jump l (fun a' w' => ∃ n', n' < n ∧ I n' a' w') Q) a w) : (Code.scope c).wp P Q a w := by
  refine wp_scope_jumps l (fun a w => ∃ n, I n a w) (fun a w => leastOf (fun n => I n a w)) hf first ?_
  intro a w hI
  refine wp_mono (pass _ a w (leastOf_spec hI).1) ?_
  intro e a' w' hq
  cases e with
  | goto l' =>
    obtain ⟨hl, n', hlt, hI'⟩ := hq
    exact ⟨hl, ⟨n', hI'⟩, Nat.lt_of_le_of_lt ((leastOf_spec ⟨n', hI'⟩).2 n' hI') hlt⟩
  | normal => exact hq
  | exit id => exact hq
  | ret => exact hq
  | panic ch => exact hq
  | outgrown => exact hq

theorem wp_scope_again {P : Program} {a : Act} {w : World} {Q : Exit → Act → World → Prop} {c X : Code} (l : Nat) (I : Nat → Act → World → Prop) (hf : findLabel c l = some (Code.skip.seq X))
    (pass : ∀ n a w, I n a w → X.wp P (Exit.jump l (fun a' w' => ∃ n', n' < n ∧ I n' a' w') Q) a w)
    (first : (∀ n a w, I n a w → X.wp P (Exit.jump l (fun a w => ∃ n, I n a w) Q) a w) → c.wp P (Exit.jump l (fun a w => ∃ n, I n a w) Q) a w) : (Code.scope c).wp P Q a w := by
  refine wp_scope_ghost l I hf (first fun n a w hI => wp_mono (pass n a w hI) ?_) (fun n a w hI => wp_seq (wp_skip (pass n a w hI)))
  intro e a' w' hq
  cases e with
  | goto l' =>
    obtain ⟨hl, n', _, hI'⟩ := hq
    exact ⟨hl, n', hI'⟩
  | normal => exact hq
  | exit id => exact hq
  | ret => exact hq
  | panic ch => exact hq
  | outgrown => exact hq

theorem look_bool {w : World} {b s j : Nat} (h : SetAt w b s) (hj : j < 10) : (Instr.lookup 72 (.map (some b)) (.int .i64 (j : Int)) false).run Try.prog w = .ok (.bool (s.testBit j)) w := by
  obtain ⟨v, ps, hrun, hv⟩ := World.ownsMap.lookup (z := .bool false) (zd := .lit (.bool false)) (zp := []) h law3 Try.underlying72 (Try.zeroValue4 w) (plainElem_bool Try.underlying4 false) (keyOf_int_mk Try.underlying3 (wf_nat j (by omega)))
  rw [atKey_int s j hj] at hv
  obtain ⟨x, rfl, hx⟩ := bool_inv Try.underlying4 hv
  simp only [Prod.mk.injEq, DataW.lit.injEq, Lit.bool.injEq] at hx
  rw [hrun, hx.1]

theorem wpList_lookup_bool (w : World) {ops : Array Oper} {rest : List Oper} {o : Oper} {a : Act} {Q : Exit → Act → World → Prop}
    (hg : o.guard = none) (m x : Operand) (hop : o.op = Op.lookup 72 m x false) (b s j : Nat) (hm : a.eval m = .map (some b)) (h : SetAt w b s) (hx : a.eval x = .int .i64 (j : Int)) (hj : j < 10)
    (hK : wpList Try.prog ops Q rest (a.put o.dst (.bool (s.testBit j))) w) : wpList Try.prog ops Q (o :: rest) a w := by
  refine wpList_plain hg fun K' hK' => ?_
  have hrun := look_bool h hj
  unfold Oper.wp
  simp [execOp, hop, hm, hx, hrun, Result.andThen]
  exact hK' _ _ hK

/-- What the program holds between two jumps: digits are of friends who hear; x hears the own news. -/
def Hs0 (F : Nat) (l : List (Int × Int)) (x s : Nat) : Prop := s < 2 ^ F ∧ (∀ j, s.testBit j = true → Path l x j) ∧ s.testBit x = true
theorem Hs0.start {F : Nat} {l : List (Int × Int)} {x : Nat} (hx : x < F) : Hs0 F l x (2 ^ x) := by
  refine ⟨Nat.pow_lt_pow_right (by decide) hx, fun j hb => ?_, Nat.testBit_two_pow_self⟩
  rw [Nat.testBit_two_pow, decide_eq_true_eq] at hb
  subst hb; exact .refl _
theorem Hs0.next {F : Nat} {l : List (Int × Int)} {x s y z i : Nat} (h : Hs0 F l x s) (hi : i < l.length) (ha : ca l i = y) (hb : cb l i = z) (hz : z < F) (hy : s.testBit y = true) : Hs0 F l x (s ||| 2 ^ z) := by
  refine ⟨Nat.or_lt_two_pow h.1 (Nat.pow_lt_pow_right (by decide) hz), fun j hbit => ?_, by rw [Nat.testBit_or, h.2.2, Bool.true_or]⟩
  rw [Nat.testBit_or, Bool.or_eq_true, Nat.testBit_two_pow, decide_eq_true_eq] at hbit
  rcases hbit with hbit | hbit
  · exact h.2.1 j hbit
  · subst hbit; exact (h.2.1 y hy).snoc i hi ha hb
/-- No arrow of the first n leads out. -/
def Shs (l : List (Int × Int)) (s n : Nat) : Prop := ∀ i, i < n → ∀ y z : Nat, ca l i = y → cb l i = z → s.testBit y = true → s.testBit z = true
theorem Hs0.done {F : Nat} {l : List (Int × Int)} {x s : Nat} (h : Hs0 F l x s) (hf : Fit F l.length l) (hs : Shs l s l.length) : IsHr F l x s := by
  have key : ∀ {y z : Nat}, Path l y z → s.testBit y = true → s.testBit z = true := by
    intro y z p
    induction p with
    | refl y => intro hy; exact hy
    | @step y z t i hi ha hb _ ih => intro hy; exact ih (hs i hi y z ha hb hy)
  exact ⟨h.1, fun j => ⟨fun hb => ⟨bit_lt h.1 hb, h.2.1 j hb⟩, fun ⟨_, p⟩ => key p h.2.2⟩⟩
theorem Shs.succ {l : List (Int × Int)} {s k y z : Nat} (h : Shs l s k) (ha : ca l k = y) (hb : cb l k = z) (he : s.testBit y = true → s.testBit z = true) : Shs l s (k + 1) := by
  intro i hi y' z' ha' hb' hy
  by_cases hik : i = k
  · subst hik
    obtain rfl : y = y' := by omega
    obtain rfl : z = z' := by omega
    exact he hy
  · exact h i (by omega) y' z' ha' hb' hy
theorem pc_more {s z : Nat} (hs : s < 1024) (hz : z < 10) (h : s.testBit z = false) : pc s < pc (s ||| 2 ^ z) := by
  have h2 := (pc_sub (a := s) (b := s ||| 2 ^ z) 10 (fun i _ hi => by rw [Nat.testBit_or, hi, Bool.true_or])).1
  rw [pcTo_ten, pcTo_ten] at h2
  have hz2 : 2 ^ z < 1024 := Nat.lt_of_lt_of_le (Nat.pow_lt_pow_right (by decide) hz) (by decide : 2 ^ 10 ≤ 1024)
  have h3 : pc (s ||| 2 ^ z) ≠ pc s := fun e => by
    have h4 := (pc_or_same hs hz2).1 e
    rw [h4, Nat.testBit_or, Nat.testBit_two_pow_self, Bool.or_true] at h
    cases h
  omega

set_option maxHeartbeats 1600000 in
set_option maxRecDepth 20000 in
theorem hearersOf_pos (b off cap : Nat) (F x : Nat) (l : List (Int × Int)) (n : Nat) (w : World) (Hn : Hid (n = l.length)) (hl : n ≤ 60) (hF : F ≤ 10) (hxF : x < F) (Hfit : Hid (Fit F n l))
    (Hc : Hid (∀ i, i < n → w.cell? ⟨b, off + i * 2, none⟩ = some (.int .i64 (ca l i)) ∧ w.cell? ⟨b, off + i * 2 + 1, none⟩ = some (.int .i64 (cb l i)))) :
    Calls Try.prog 96 #[.slice (some ⟨b, off, none⟩) n cap, .int .i64 x] w fun e w' => ∃ s, e = .returned (.map (some w.heap.size)) ∧ SetAt w' w.heap.size s ∧ IsHr F l x s ∧ Below w.heap.size w w' := by
  have Hfit2 : Hid (Fit F l.length l) := by rw [← Hn.out]; exact Hfit.out
  have hmm := @run_makeMap Try.prog
  go_enter Try.func96, Try.ntmps96
  go_wp2_with fail
  refine wp_scope_again 0 (fun m a w' => ∃ (s : Nat) (u6 u7 u8 u9 u10 u11 u12 u13 u14 u15 u16 u17 u18 u19 u20 u21 u22 u23 u24 u25 u26 u27 u28 u29 u30 u31 u32 : Value), a = { tmps := #[.slice (some ⟨b, off, none⟩) n cap, .int .i64 x, undef, undef, .map none, .map (some w.heap.size), u6, u7, u8, u9, u10, u11, u12, u13, u14, u15, u16, u17, u18, u19, u20, u21, u22, u23, u24, u25, u26, u27, u28, u29, u30, u31, u32], defers := [] } ∧ m = 10 - pc s ∧ SetAt w' w.heap.size s ∧ Hid (Hs0 F l x s) ∧ Below w.heap.size w w') rfl ?_ ?_
  case refine_1 =>
    rintro m a w' ⟨s, u6, u7, u8, u9, u10, u11, u12, u13, u14, u15, u16, u17, u18, u19, u20, u21, u22, u23, u24, u25, u26, u27, u28, u29, u30, u31, u32, rfl, hm, hset, hhs, hbel⟩
    have Hm := Lib.hid hm
    have Hset0 := Lib.hid hset
    clear hm hset
    go_wp2_with fail
    go_loopw [13] (fun i wr => ∃ k : Nat, k ≤ n ∧ i = .int .i64 k ∧ SetAt wr w.heap.size s ∧ Hid (Shs l s k) ∧ Below w.heap.size w wr) (fun i _ => n - (intOf i).toNat)
    case atStart => exact ⟨0, Nat.zero_le _, rfl, Hset0.out, (fun i hi => absurd hi (by omega)), hbel⟩
    case round =>
      obtain ⟨k, hk, rfl, hset, hsh, hbel2⟩ := hrel
      by_cases hlt : k < n
      · have h0 := hbel2.cell (p := ⟨b, off + k * 2, none⟩) (World.block_lt_of_cell? w _ (Hc.out k hlt).1)
        have h1 := hbel2.cell (p := ⟨b, off + k * 2 + 1, none⟩) (World.block_lt_of_cell? w _ (Hc.out k hlt).2)
        have hgc := Hfit.out k hlt
        obtain ⟨y, hy⟩ : ∃ y : Nat, ca l k = (y : Int) := ⟨(ca l k).toNat, by omega⟩
        obtain ⟨z, hz⟩ : ∃ z : Nat, cb l k = (z : Int) := ⟨(cb l k).toNat, by omega⟩
        rw [(Hc.out k hlt).1, hy] at h0
        rw [(Hc.out k hlt).2, hz] at h1
        rw [hy, hz] at hgc
        have Hy := Lib.hid hy
        have Hz := Lib.hid hz
        have hkl : k < l.length := by rw [← Hn.out]; exact hlt
        have hyF : y < F := by omega
        have hzF : z < F := by omega
        have hsz := hbel2.size
        have Hset := Lib.hid (World.ownsMap.alloc hset (.cells #[.int .i64 y, .int .i64 z] 62))
        have hs1 : SetAt (wr.alloc (.cells #[.int .i64 y, .int .i64 z] 62)) w.heap.size s := Hset.out
        have hb1 : Below w.heap.size w (wr.alloc (.cells #[.int .i64 y, .int .i64 z] 62)) := hbel2.alloc hsz _
        clear hy hz hgc hset hbel2
        have hry := look_bool hs1 (j := y) (by omega)
        have hrz := look_bool hs1 (j := z) (by omega)
        cases hty : s.testBit y
        · have hsh2 : Hid (Shs l s (k + 1)) := hsh.out.succ Hy.out Hz.out (fun h => by rw [hty] at h; cases h)
          rw [hty] at hry
          clear hty hrz
          go_wp2_with fail
          go_roundw
          case rel => exact ⟨k + 1, by omega, by go_num, hs1, hsh2, hb1⟩
          case measure => simp [intOf]; omega
        · cases htz : s.testBit z
          · have Hnext := Lib.hid (hhs.out.next hkl Hy.out Hz.out hzF hty)
            have hpm := pc_more (pow_small (f := F) hF hhs.out.1) (show z < 10 by omega) htz
            have hp2 := pc_ten (s ||| 2 ^ z)
            rw [hty] at hry
            rw [htz] at hrz
            clear hty htz
            go_wp2_with (at_mapUpdate; refine wpList_mapUpdate_own _ rfl _ _ _ 72 rfl 3 4 law3 Try.underlying72 (plainElem (H := Unit) Try.prog 4) w.heap.size 10 (setD s) rfl hs1 (by unfold maxLen; omega) _ _ (.int .i64 (z : Int)) rfl rfl (keyOf_int_mk Try.underlying3 (wf_nat z (by omega))) (.lit (.bool true)) [] (plainElem_bool Try.underlying4 true) ?_; intro w4 own4 gr4)
            have hset4 : SetAt w4 w.heap.size (s ||| 2 ^ z) := by
              have hc := World.ownsMap.canon own4 law3
              rw [set_put (by omega) hc] at own4
              exact set_at own4
            have hb4 : Below w.heap.size w w4 := hb1.grown gr4 (by simp; omega) (fun j hj => by cases hj; exact Nat.le_refl _)
            go_step3
            exact And.intro rfl ⟨10 - pc (s ||| 2 ^ z), by rw [Hm.out]; omega, s ||| 2 ^ z, _, _, _, _, _, _, _, _, _, _, _, _, _, _, _, _, _, _, _, _, _, _, _, _, _, _, _, rfl, rfl, hset4, Hnext.out, hb4⟩
          · have hsh2 : Hid (Shs l s (k + 1)) := hsh.out.succ Hy.out Hz.out (fun _ => htz)
            rw [hty] at hry
            rw [htz] at hrz
            clear hty htz
            go_wp2_with fail
            go_roundw
            case rel => exact ⟨k + 1, by omega, by go_num, hs1, hsh2, hb1⟩
            case measure => simp [intOf]; omega
      · obtain rfl : k = n := by omega
        have hdone := hhs.out.done Hfit2.out (by rw [← Hn.out]; exact hsh.out)
        have Hdone := Lib.hid hdone
        clear hdone
        go_wp2_with fail
        simp only [Exit.jump]
        go_ret
        exact ⟨s, rfl, hset, Hdone.out, hbel2⟩
  case refine_2 =>
    intro again
    go_wp2_with (refine wpList_insert_own _ rfl _ _ _ 72 rfl 3 4 law3 Try.underlying72 (plainElem (H := Unit) Try.prog 4) w.heap.size 0 (.map []) rfl (World.ownsMap_made w Try.prog 3 _) (by unfold maxLen; omega) _ _ (.int .i64 (x : Int)) rfl rfl (keyOf_int_mk Try.underlying3 (wf_nat x (by omega))) (.lit (.bool true)) [] (plainElem_bool Try.underlying4 true) ?_)
    intro w2 own2 gr2
    have hb2 : Below w.heap.size w w2 := ((Below.refl _ _).alloc (Nat.le_refl _) _).grown gr2 (by simp) (fun j hj => by cases hj; exact Nat.le_refl _)
    have hset : SetAt w2 w.heap.size (2 ^ x) := by
      have hc := World.ownsMap.canon own2 law3
      rw [set_zero] at own2 hc
      rw [set_put (by omega) hc, Nat.zero_or] at own2
      exact set_at own2
    have Hst := Lib.hid (Hs0.start (l := l) hxF)
    clear own2 gr2
    go_wp2_with fail
    go_step3
    refine (by assumption : ∀ a w, _ → _) _ _ ?_
    exact again _ _ _ ⟨2 ^ x, _, _, _, _, _, _, _, _, _, _, _, _, _, _, _, _, _, _, _, _, _, _, _, _, _, _, _, rfl, rfl, hset, Hst.out, hb2⟩

end Go.Proofs.Ytolkfgjgnpjpkaa
