/- How much the model says is known. -/
import Derived.Test.YtmgmkgjefplfdaaPlay
import Derived.Test.YtmgmkgjefplfdaaCount
namespace Go.Proofs.Ytmgmkgjefplfdaa
open Go.ChangeShapes Go.WideShapes Go.ChangeAt Go.RowKit
set_option linter.unusedVariables false

theorem cell_below {w w' : World} {a : Addr} {v : Value} (h : w.cell? a = some v) (hb : Below w.heap.size w w') : w'.cell? a = some v := (hb.cell (World.block_lt_of_cell? w _ h)).trans h

theorem count_lit (f : Int) (s : Nat → Nat) (w : World) (hs : ∀ i, s i < 1024) :
    Calls Try.prog 134 #[.agg #[.int .i64 f, .int .u16 (s 0), .int .u16 (s 1), .int .u16 (s 2), .int .u16 (s 3), .int .u16 (s 4), .int .u16 (s 5), .int .u16 (s 6), .int .u16 (s 7), .int .u16 (s 8), .int .u16 (s 9)]] w fun e w' => e = .returned (.int .i64 (cntTo s 10)) ∧ Below w.heap.size w w' := count_any f s w hs

theorem KA_cell {w : World} {b : Nat} {f : Int} {s : Nat → Nat} {t : TypeId} {fr : Nat × Nat} (hb : w.heap[b]? = some (.cells (KA f s) t fr)) (i : Nat) (hi : i < 10) : w.cell? ⟨b, i + 1, none⟩ = some (.int .u16 (s i)) := by
  rw [cell_of_row w b (i + 1) _ t fr hb, Nat.add_comm, KA_get f s i hi]

theorem KA_cell0 {w : World} {b : Nat} {f : Int} {s : Nat → Nat} {t : TypeId} {fr : Nat × Nat} (hb : w.heap[b]? = some (.cells (KA f s) t fr)) : w.cell? ⟨b, 0, none⟩ = some (.int .i64 f) := by
  rw [cell_of_row w b 0 _ t fr hb, KA_zero]

/-- The digits 1 among the first k. -/
def bl (x k : Nat) : List Int := ((List.range k).filter fun i => x.testBit i).map fun (i : Nat) => (i : Int)

theorem nums_shape' {w : World} {base n : Nat} {v : Value} {l : List Int} (h : w.ownsRow base 3 1 v n (ns l)) (hn : n = l.length) : ∃ ao cap, v = .slice ao n cap := by
  obtain ⟨ao, cap, hv, _⟩ := nums_shape h hn
  exact ⟨ao, cap, hv⟩

theorem bl_length (x : Nat) : (bl x 10).length = pc x := by simp [bl, pc]

theorem bl_yes (x k : Nat) (h : x.testBit k = true) : bl x (k + 1) = bl x k ++ [(k : Int)] := by simp [bl, List.range_succ, List.filter_append, h]

theorem bl_no (x k : Nat) (h : x.testBit k = false) : bl x (k + 1) = bl x k := by simp [bl, List.range_succ, List.filter_append, h]

theorem bl_le (x k : Nat) : (bl x k).length ≤ k := by
  have := List.length_filter_le (fun i => x.testBit i) (List.range k)
  simpa [bl] using this

theorem bl_done (x k : Nat) (h : x / 2 ^ k = 0) : ∀ d, bl x (k + d) = bl x k := by
  intro d
  induction d with
  | zero => rfl
  | succ d ih =>
    rw [← Nat.add_assoc, bl_no, ih]
    rw [Nat.testBit_eq_decide_div_mod_eq]
    have hlt : x < 2 ^ k := by
      rcases Nat.lt_or_ge x (2 ^ k) with h1 | h1
      · exact h1
      · have := Nat.div_pos h1 (Nat.two_pow_pos k); omega
    have hlt2 : x < 2 ^ (k + d) := Nat.lt_of_lt_of_le hlt (Nat.pow_le_pow_right (by decide) (by omega))
    rw [Nat.div_eq_of_lt hlt2]
    rfl

theorem and_one (y : Nat) (hy : y < 1024) : bits BinOp.and IntKind.i64 (y : Int) 1 = ((y % 2 : Nat) : Int) := by
  have hx2 : y &&& 1 < 2 ^ 10 := Nat.and_lt_two_pow (n := 10) _ (by decide)
  have h1 : (BitVec.ofInt 64 (y : Int)).toNat = y := by
    rw [BitVec.ofInt_natCast, BitVec.toNat_ofNat]; exact Nat.mod_eq_of_lt (by omega)
  have h2 : (BitVec.ofInt 64 (1 : Int)).toNat = 1 := rfl
  show IntKind.i64.wrap ((BitVec.ofInt 64 (y : Int) &&& BitVec.ofInt 64 (1 : Int)).toNat : Int) = _
  rw [BitVec.toNat_and, h1, h2, IntKind.wrap_i64, Nat.and_one_is_mod]
  omega

/-- The model's test of a digit. -/
theorem digit_test (x k : Nat) (hx : x < 1024) : (bits BinOp.and IntKind.i64 ((x : Int) / 2 ^ k) 1 == 1) = x.testBit k := by
  have e : (x : Int) / 2 ^ k = ((x / 2 ^ k : Nat) : Int) := by simp
  have hlt : x / 2 ^ k < 1024 := Nat.lt_of_le_of_lt (Nat.div_le_self _ _) hx
  rw [e, and_one _ hlt, Nat.testBit_eq_decide_div_mod_eq]
  rw [Bool.eq_iff_iff]
  simp
  omega

set_option maxRecDepth 20000 in
theorem caBits_any (x : Nat) (w : World) (hx : x < 1024) :
    Calls Try.prog 121 #[.int .i64 x] w fun e w' => ∃ v, e = .returned v ∧ w'.ownsRow w.heap.size 3 1 v (pc x) (ns (bl x 10)) ∧ Below w.heap.size w w' := by
  obtain ⟨i0, hi, hz0, hz1, hz2⟩ := info_parts info3
  go_enter Try.func121, Try.ntmps121
  go_wp2_with fail
  go_loopw [3, 4] (fun v i wr => ∃ k : Nat, k ≤ 10 ∧ i = .int .i64 k ∧ wr.ownsRow w.heap.size 3 1 v (bl x k).length (ns (bl x k)) ∧ Below w.heap.size w wr) (fun _ i _ => 10 - (intOf i).toNat)
  case atStart => exact ⟨0, Nat.zero_le _, rfl, World.ownsRow_nil _ _ _ _, Below.refl _ _⟩
  case round =>
    obtain ⟨k, hk, rfl, hor, hbel⟩ := hrel
    by_cases hp : x / 2 ^ k = 0
    · have e : bl x k = bl x 10 := by
        have := bl_done x k hp (10 - k)
        rw [← this, show k + (10 - k) = 10 by omega]
      rw [e, bl_length] at hor
      have Hor := Lib.hid hor
      have hd : ¬ (0 : Int) < (x : Int) / 2 ^ k := by
        have : (x : Int) / 2 ^ k = ((x / 2 ^ k : Nat) : Int) := by simp
        omega
      clear hor e hp
      go_wp2_with fail
      go_ret
      exact ⟨_, rfl, Hor.out, hbel⟩
    · have hk10 : k < 10 := by
        rcases Nat.lt_or_ge k 10 with h | h
        · exact h
        · obtain rfl : k = 10 := by omega
          exact absurd (Nat.div_eq_of_lt (by omega)) hp
      have hd : (0 : Int) < (x : Int) / 2 ^ k := by
        have : (x : Int) / 2 ^ k = ((x / 2 ^ k : Nat) : Int) := by simp
        rw [this]
        exact Int.natCast_pos.2 (Nat.pos_of_ne_zero hp)
      have hsz := hbel.size
      have hle := bl_le x k
      cases ht : x.testBit k
      · have hor2 := hor
        rw [← bl_no x k ht] at hor2
        have Hor := Lib.hid hor2
        clear hor2
        have htest : (bits BinOp.and IntKind.i64 ((x : Int) / 2 ^ k) 1 == 1) = false := by rw [digit_test x k hx, ht]
        clear hor ht hp
        go_wp2_with fail
        go_roundw
        case rel => exact ⟨k + 1, by omega, by go_num, Hor.out, hbel⟩
        case measure => simp [intOf]; omega
      · have Hyes := Lib.hid (bl_yes x k ht)
        have htest : (bits BinOp.and IntKind.i64 ((x : Int) / 2 ^ k) 1 == 1) = true := by rw [digit_test x k hx, ht]
        clear ht hp
        go_wp2_with (at_builtin; refine wpList_append_own _ rfl _ _ 61 rfl w.heap.size 3 i0 (.int .i64 0) 1 8 Try.underlying61 hi hz0 hz1 hz2 rfl (by decide) _ _ _ rfl (hor.alloc _) ⟨wr.heap.size, 0, none⟩ 1 1 [.int .i64 k] rfl rfl ?c1 ?c2 ?c3 ?c4 ?c5 ?_)
        case c1 => exact World.news_of_block (cs := #[.int .i64 k]) (t := 3) (fr := (0, 0)) (heap_alloc_new _ _)
        case c2 => intro u hu; simp at hu; subst hu; rfl
        case c3 => unfold maxLen; omega
        case c4 => omega
        case c5 => simp; omega
        intro v' w1 hown' hgr _
        have Hown := Lib.hid hown'
        have Hbel := Lib.hid ((hbel.alloc hsz _).grown hgr (by simp; omega) (fun b hb => (hor.lt b hb).1))
        clear hown' hgr hor hbel
        go_wp2_with fail
        go_roundw
        case rel => exact ⟨k + 1, by omega, by go_num, by rw [Hyes.out, ns_append, List.length_append]; exact Hown.out, Hbel.out⟩
        case measure => simp [intOf]; omega

set_option maxRecDepth 20000 in
theorem caCount_row (g cap base f : Nat) (s : Nat → Nat) (w : World) (hs : ∀ i, s i < 1024) (hf : f ≤ 10) (hown : w.ownsRow base 3 1 (.slice (some ⟨g, 0, none⟩) f cap) f (ns (kl f s))) :
    Calls Try.prog 123 #[.slice (some ⟨g, 0, none⟩) f cap] w fun e w' => e = .returned (.int .i64 (cntTo s f)) ∧ Below w.heap.size w w' := by
  have Hs := Lib.hid hs
  have Hc := Lib.hid (kl_cells hown)
  clear hs hown
  go_enter Try.func123, Try.ntmps123
  go_wp2_with fail
  go_loopw [3, 8] (fun t i wr => ∃ k : Nat, k ≤ f ∧ i = .int .i64 k ∧ t = .int .i64 (cntTo s k) ∧ Below w.heap.size w wr) (fun _ i _ => f - (intOf i).toNat)
  case atStart => exact ⟨0, Nat.zero_le _, rfl, rfl, Below.refl _ _⟩
  case round =>
    obtain ⟨k, hk, rfl, rfl, hbel⟩ := hrel
    by_cases hlt : k < f
    · have h0 := hbel.cell (p := ⟨g, 0 + k, none⟩) (World.block_lt_of_cell? w _ (Hc.out k hlt))
      rw [Hc.out k hlt, Nat.zero_add] at h0
      have hpl := pc_le ⟨s k, Hs.out k⟩
      have hcl := cntTo_le s Hs.out k
      simp only at hpl
      have hsz := hbel.size
      go_wp2_with fail
      refine (caBits_any (s k) wr (Hs.out k)).mono ?_
      rintro e w2 ⟨v2, rfl, own2, hb2⟩
      have hb3 := hbel.trans (hb2.mono hsz)
      obtain ⟨ao, cap2, hv⟩ := nums_shape' own2 (bl_length (s k)).symm
      rw [hv]
      clear hb2 own2 hv h0
      go_wp2_with fail
      go_roundw
      case rel => exact ⟨k + 1, by omega, by go_num, by simp only [cntTo]; go_num, hb3⟩
      case measure => simp [intOf]; omega
    · obtain rfl : k = f := by omega
      clear hlt hk
      go_wp2_with fail
      go_ret
      exact ⟨rfl, hbel⟩

theorem caCount_any (base f : Nat) (v : Value) (s : Nat → Nat) (w : World) (hs : ∀ i, s i < 1024) (h1 : 1 ≤ f) (hf : f ≤ 10) (hown : w.ownsRow base 3 1 v f (ns (kl f s))) :
    Calls Try.prog 123 #[v] w fun e w' => e = .returned (.int .i64 (cntTo s f)) ∧ Below w.heap.size w w' := by
  obtain ⟨g, cap, rfl⟩ := own_apos' hown (by omega)
  exact caCount_row g cap base f s w hs hf hown

theorem full_pc : ∀ f : Fin 11, ∀ x : Fin 1024, x.val < 2 ^ f.val → pc x.val ≤ f.val ∧ (pc x.val = f.val ↔ x.val = 2 ^ f.val - 1) := by decide +kernel

/-- Whether each of so many friends knows all news. -/
def allB (f : Nat) (s : Nat → Nat) : Bool := (List.range f).all fun i => s i == 2 ^ f - 1

theorem stp_zero {f : Nat} {s : Nat → Nat} (h : ∀ i, f ≤ i → s i = 0) {c : Int × Int} (h0 : 0 ≤ c.1) (h1 : c.1 < c.2) (h2 : c.2 < f) : ∀ i, f ≤ i → stp s c i = 0 := by
  intro i hi
  simp [stp, upd, show i ≠ c.2.toNat by omega, show i ≠ c.1.toNat by omega, h i hi]

theorem play_zero {f : Nat} {l : List (Int × Int)} (hg : gdB (f : Int) l = true) : ∀ i, f ≤ i → play f l i = 0 := by
  have key : ∀ k, k ≤ l.length → ∀ i, f ≤ i → play f (l.take k) i = 0 := by
    intro k
    induction k with
    | zero => intro _ i hi; simp [play, own0, show ¬ i < f by omega]
    | succ k ih =>
      intro hk i hi
      rw [play_succ f l k (by omega)]
      have hc := gd_call hg (i := k) (by omega)
      exact stp_zero (ih (by omega)) hc.1 hc.2.1 hc.2.2 i hi
  have := key l.length (Nat.le_refl _)
  rwa [List.take_length] at this

theorem pc_zero : pc 0 = 0 := by decide

theorem cnt_more {s : Nat → Nat} {f : Nat} (h : ∀ i, f ≤ i → s i = 0) : ∀ d, cntTo s (f + d) = cntTo s f := by
  intro d
  induction d with
  | zero => rfl
  | succ d ih => rw [← Nat.add_assoc]; simp only [cntTo]; rw [ih, h _ (by omega), pc_zero]; rfl

theorem cnt_ten {f : Nat} {l : List (Int × Int)} (hg : gdB (f : Int) l = true) : cntTo (play f l) 10 = cntTo (play f l) f := by
  have hf := gd_fr hg
  have := cnt_more (play_zero hg) (10 - f)
  rwa [show f + (10 - f) = 10 by omega] at this

theorem cnt_bound {f : Nat} (hf : f ≤ 10) {s : Nat → Nat} (hs : ∀ i, s i < 2 ^ f) : ∀ k, cntTo s k ≤ f * k ∧ (cntTo s k = f * k ↔ ∀ i, i < k → s i = 2 ^ f - 1) := by
  have hp : 2 ^ f ≤ 1024 := Nat.pow_le_pow_right (n := 2) (by decide) hf
  intro k
  induction k with
  | zero => simp [cntTo]
  | succ k ih =>
    have hx := full_pc ⟨f, by omega⟩ ⟨s k, by have := hs k; omega⟩ (hs k)
    simp only at hx
    simp only [cntTo, Nat.mul_succ]
    refine ⟨by omega, ⟨fun h => ?_, fun h => ?_⟩⟩
    · have a1 : cntTo s k = f * k := by omega
      have a2 : pc (s k) = f := by omega
      intro i hi
      by_cases hik : i = k
      · subst hik; exact hx.2.1 a2
      · exact ih.2.1 a1 i (by omega)
    · have a1 := ih.2.2 (fun i hi => h i (by omega))
      have a2 := hx.2.2 (h k (by omega))
      omega

end Go.Proofs.Ytmgmkgjefplfdaa
