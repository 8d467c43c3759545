/- Lists of wires that are joined: the program. -/
import Derived.Test.YtoigafjocckepaaLu0
import Derived.Test.YtoigafjocckepaaOpen
import Derived.Lib.AppendZerosOnto
import Derived.Laws.AppendOwnNone
namespace Go.Proofs.Ytoigafjocckepaa
open Go.ChangeShapes Go.WideShapes Go.ChangeAt Go.RowKit
set_option linter.unusedVariables false


theorem ws_append (M K : List Nat) : ws (M ++ K) = ws M ++ ws K := by simp [ws]
theorem ws_one (M : List Nat) : ∀ u ∈ ws M, u.oneCell' = true := by
  intro u hu
  simp only [ws, List.mem_map] at hu
  obtain ⟨x, _, rfl⟩ := hu
  rfl

/-- Lists of wires are appended to lists of wires. -/
theorem step_wl {P : Program} (w : World) {ops : Array Oper} {rest : List Oper} {o : Oper} {a : Act} {Q : Exit → Act → World → Prop} (hgd : o.guard = none) (s x : Operand) (t : TypeId)
    (ho : o.op = .call { callee := .builtin .append, args := #[s, x], argTypes := #[t, t] })
    (base : Nat) (i : TypeInfo) (ht : P.underlying t = some (.slice 52)) (hi : P.info? 52 = some i) (hz : i.zero = some (.agg #[.int .u16 0]))
    (hsize : i.size = 1) (hby : i.bytes = 2)
    (v : Value) (n : Nat) (xs : List Nat) (hs : a.eval s = v) (hown : w.ownsRow base 52 1 v n (ws xs))
    (ao : Option Addr) (m c : Nat) (l : List Nat) (hx : a.eval x = .slice ao m c) (hm : m = l.length) (hc : WLAt w ao l) (hnil : ao = none → c = 0)
    (hb1 : n + m ≤ 1000000) (hbase : base ≤ w.heap.size)
    (h : ∀ v' w', w'.ownsRow base 52 1 v' (n + m) (ws (xs ++ l)) → Below base w w' → wpList P ops Q rest (a.put o.dst v') w') : wpList P ops Q (o :: rest) a w := by
  have hlow : ∀ k, v.ownBlock = some k → base ≤ k := fun k hk => (hown.lt k hk).1
  cases ao with
  | none =>
    have hc0 := hnil rfl
    subst hc0
    have hm0 : m = 0 := by
      rcases hc with h | ⟨b, off, h, _⟩
      · rw [hm, h]; rfl
      · cases h
    subst hm0
    have hl : l = [] := List.eq_nil_of_length_eq_zero hm.symm
    subst hl
    refine wpList_append_own_none hgd s x t ho base 52 i 1 ht hi v n (ws xs) hs hown hx ?_
    refine h v w ?_ (Below.refl _ _)
    simpa using hown
  | some ad =>
    refine wpList_append_own w hgd s x t ho base 52 i (.agg #[.int .u16 0]) 1 2 ht hi hz hsize hby rfl (by decide) v n (ws xs) hs hown ad m c (ws l) hx (by rw [ws_length, hm, Nat.mul_one]) ?_ (ws_one l) (by unfold maxLen; omega) (by omega) hbase ?_
    · intro j u hj
      rcases hc with h | ⟨b, off, h, hcc⟩
      · subst h; simp [ws] at hj
      · cases h
        have hjl : j < l.length := by have := (List.getElem?_eq_some_iff.1 hj).1; rw [ws_length] at this; exact this
        rw [add_at, hcc j hjl]
        rw [ws_get l j hjl] at hj
        exact hj
    · intro v' w' h1 h2 _
      refine h v' w' (by rw [ws_append]; exact h1) ((Below.refl base w).grown h2 hbase hlow)

set_option maxRecDepth 20000 in
theorem grow_wl (n : Nat) (w : World) (hn : n ≤ 100000) :
    Calls Try.prog 65 #[.slice none 0 0, .int .i64 n] w fun e w' => ∃ v, e = .returned v ∧ w'.ownsRow w.heap.size 52 1 v 0 (ws []) ∧ Below w.heap.size w w' := by
  obtain ⟨i0, hi, hz0, hz1, hz2⟩ := info_parts infoWL
  have h1 : ¬ ((n : Int) < 0) := by omega
  by_cases h0 : n = 0
  · subst h0
    clear h1
    go_enter Try.func65, Try.ntmps65
    go_wp2
    go_ret
    exact ⟨_, rfl, World.ownsRow_nil _ _ _ _, Below.refl _ _⟩
  · have hbt : Try.t52.bytes = 2 := by kernel_rfl
    have f1 : ¬ 281474976710656 < Builtin.nextslicecap n 0 * Try.t52.bytes := by
      have := growslice_fits (need := n) (old := 0) (bytes := Try.t52.bytes) (by omega) (by rw [hbt]; omega)
      omega
    have f2 : (n : Int) * (Try.t52.bytes : Int) ≤ 281474976710656 := by rw [hbt]; omega
    have f3 : ¬ n * 1 = 0 := by omega
    have f3b : ¬ n = 0 := h0
    have f4 : 0 < n := by omega
    have f5 : (n : Int) ≤ 9223372036854775807 := by omega
    have f6 : (0 : Int) ≤ (n : Int) := by omega
    have hGn : n ≤ grownCap w n 0 52 := grownCap_ge w _ _ _
    have hGm : grownCap w n 0 52 ≤ maxLen := grownCap_le_maxLen w n 0 _ (by unfold maxLen; omega)
    have HG : Hid (∃ G, (Question.appendCap n 0 52).cut (w.tape w.drawn (Question.appendCap n 0 52)) = G ∧ n ≤ G ∧ G ≤ maxLen) := Lib.hid ⟨_, rfl, hGn, hGm⟩
    clear hGn hGm hbt
    go_enter Try.func65, Try.ntmps65
    go_wp2_with fail
    obtain ⟨G, hG, hGn, hGm⟩ := HG.out
    rw [hG]
    go_ret
    refine ⟨_, rfl, ⟨by simp [ws], .inr ⟨w.heap.size, G, _, rfl, Nat.le_refl _, heap_alloc_new w _, Nat.zero_le _, hGm, ?_, by simp [ws]⟩⟩, ?_⟩
    · simp [Builtin.zeroCells]; omega
    · exact ((Below.refl _ _).alloc (Nat.le_refl _) _).drew

/-- The first k lists, joined. -/
def fl (L : Nat → List Nat) : Nat → List Nat | 0 => [] | k + 1 => fl L k ++ L k

set_option maxRecDepth 20000 in
theorem concat_wl (w : World) (b : Nat) (A : Nat → Option Addr) (C : Nat → Nat) (L : Nat → List Nat) (Hs : Hid (∀ k, (fl L k).length ≤ 30000 ∧ (L k).length ≤ 30000))
    (HA : Hid (∀ k, k < 2 → w.cell? ⟨b, k, none⟩ = some (.slice (A k) (L k).length (C k)) ∧ WLAt w (A k) (L k) ∧ (A k = none → C k = 0))) :
    Calls Try.prog 46 #[.slice (some ⟨b, 0, none⟩) 2 2] w fun e w' => ∃ v, e = .returned v ∧ w'.ownsRow w.heap.size 52 1 v (fl L 2).length (ws (fl L 2)) ∧ Below w.heap.size w w' := by
  obtain ⟨i0, hi, hz0, hz1, hz2⟩ := info_parts infoWL
  go_enter Try.func46, Try.ntmps46
  go_wp2_with fail
  go_loopw [3, 11] (fun v i wr => ∃ k : Nat, k ≤ 2 ∧ i = .int .i64 k ∧ v = .int .i64 ((fl L k).length : Nat) ∧ Below w.heap.size w wr) (fun _ i _ => 2 - (intOf i).toNat)
  case atStart => exact ⟨0, Nat.zero_le _, rfl, rfl, Below.refl _ _⟩
  case round =>
    obtain ⟨k, hk, rfl, rfl, hbel⟩ := hrel
    by_cases hlt : k < 2
    · have h0 := cell_old hbel (HA.out k hlt).1
      have hk0 : (0 : Int) ≤ k := by omega
      have hk2 : (k : Int) < 2 := by omega
      have hfk := (Hs.out k).1
      have hck := (Hs.out k).2
      have hf1 := (Hs.out (k + 1)).1
      have Hsucc : Hid ((fl L (k + 1)).length = (fl L k).length + (L k).length) := Lib.hid (by show (fl L k ++ L k).length = _; rw [List.length_append])
      have hd : decide (((fl L k).length : Int) + ((L k).length : Int) < 0) = false := by simp only [decide_eq_false_iff_not]; omega
      go_wp2_with fail
      go_roundw
      case rel => exact ⟨k + 1, by omega, by go_num, by rw [Hsucc.out]; go_num, hbel⟩
      case measure => simp [intOf]; omega
    · obtain rfl : k = 2 := by omega
      have hfl := (Hs.out 2).1
      have hs := hbel.size
      obtain ⟨N, hN⟩ : ∃ N, (fl L 2).length = N := ⟨_, rfl⟩
      rw [hN] at hfl
      rw [hN]
      clear hN
      go_wp2_with fail
      refine (grow_wl N wr (by omega)).mono ?_
      rintro e w1 ⟨v0, rfl, own0, hb1⟩
      have Hown0 := Lib.hid (own_base hs own0)
      have hbel1 : Below w.heap.size w w1 := hbel.trans (hb1.mono hs)
      clear own0 hb1 hbel hfl hk
      go_wp2_with fail
      go_loopw [6, 27] (fun v i wr => ∃ k : Nat, k ≤ 2 ∧ i = .int .i64 k ∧ wr.ownsRow w.heap.size 52 1 v (fl L k).length (ws (fl L k)) ∧ Below w.heap.size w wr) (fun _ i _ => 2 - (intOf i).toNat)
      case atStart => exact ⟨0, Nat.zero_le _, rfl, Hown0.out, hbel1⟩
      case round =>
        obtain ⟨k, hk, rfl, hor, hbel⟩ := hrel
        by_cases hlt2 : k < 2
        · have hall := HA.out k hlt2
          have h0 := cell_old hbel hall.1
          have HAk := Lib.hid (hall.2.1.kept hbel)
          have Hnil := Lib.hid hall.2.2
          have hs := hbel.size
          have hk0 : (0 : Int) ≤ k := by omega
          have hk2 : (k : Int) < 2 := by omega
          have hfk := (Hs.out k).1
          have hck := (Hs.out k).2
          have Hor := Lib.hid hor
          obtain ⟨q, hq⟩ : ∃ q, (fl L k).length = q := ⟨_, rfl⟩
          have Hsucc : Hid ((fl L (k + 1)).length = q + (L k).length) := Lib.hid (by show (fl L k ++ L k).length = _; rw [List.length_append, hq])
          rw [hq] at Hor hfk
          clear hor hall hq
          go_wp2_with (at_builtin; refine step_wl _ rfl _ _ 47 rfl w.heap.size i0 Try.underlying47 hi hz0 hz1 hz2 _ q (fl L k) rfl Hor.out (A k) _ (C k) (L k) rfl rfl HAk.out Hnil.out (by omega) hs ?_)
          intro v1 w2 own1 hb1
          have Hown : Hid (w2.ownsRow w.heap.size 52 1 v1 (fl L (k + 1)).length (ws (fl L (k + 1)))) := Lib.hid (by rw [Hsucc.out]; exact own1)
          have hb2 : Below w.heap.size w w2 := hbel.trans hb1
          clear own1 hb1 hbel h0
          go_wp2_with fail
          go_roundw
          case rel => exact ⟨k + 1, by omega, by go_num, Hown.out, hb2⟩
          case measure => simp [intOf]; omega
        · obtain rfl : k = 2 := by omega
          have Hor := Lib.hid hor
          clear hor
          go_wp2_with fail
          go_ret
          exact ⟨_, rfl, Hor.out, hbel⟩

end Go.Proofs.Ytoigafjocckepaa
