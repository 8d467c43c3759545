/- WhoKnows: the model and the program. -/
import Derived.Test.YtffnmpmgnaephaaNeeded
namespace Go.Proofs.Ytffnmpmgnaephaa
open Go.ChangeShapes Go.WideShapes Go.ChangeAt Go.RowKit
set_option linter.unusedVariables false

theorem l1In_any (x lo hi : Int) (w : World) : Calls Try.prog 52 #[.int .i64 x, .int .i64 lo, .int .i64 hi] w fun e w' => e = .returned (.bool (decide (lo ≤ x ∧ x ≤ hi))) ∧ w = w' := by
  by_cases h1 : lo ≤ x
  · by_cases h2 : x ≤ hi
    · rw [show decide (lo ≤ x ∧ x ≤ hi) = true by simp [h1, h2]]
      go_enter Try.func52, Try.ntmps52
      go_wp2
      go_ret
      exact ⟨by first | rfl | (simp; done) | (simp; omega), rfl⟩
    · rw [show decide (lo ≤ x ∧ x ≤ hi) = false by simp [h2]]
      have hd : decide (x ≤ hi) = false := by simpa using h2
      go_enter Try.func52, Try.ntmps52
      go_wp2
      go_ret
      exact ⟨by first | rfl | (simp; done) | (simp; omega), rfl⟩
  · rw [show decide (lo ≤ x ∧ x ≤ hi) = false by simp [h1]]
    have hd : decide (lo ≤ x) = false := by simpa using h1
    go_enter Try.func52, Try.ntmps52
    go_wp2
    go_ret
    exact ⟨rfl, rfl⟩

theorem wrap_pow16 : ∀ k : Nat, k < 10 → IntKind.u16.wrap ((2 : Int) ^ k) = ((2 ^ k : Nat) : Int) := wrap_pow

theorem pow_small : ∀ k : Nat, k < 10 → 2 ^ k < 1024 := by decide

theorem and_pow (n x : Nat) : n &&& 2 ^ x = if n.testBit x then 2 ^ x else 0 := by
  apply Nat.eq_of_testBit_eq
  intro i
  rw [Nat.testBit_and, Nat.testBit_two_pow]
  by_cases h : x = i
  · subst h
    cases hb : n.testBit x <;> simp [Nat.testBit_two_pow_self]
  · cases hb : n.testBit x <;> simp [h]

theorem has_test (n x : Nat) (hn : n < 1024) (hx : x < 10) : (bits BinOp.and IntKind.u16 (n : Int) (IntKind.u16.wrap (2 ^ x)) != 0) = n.testBit x := by
  rw [wrap_pow16 x hx, bits_and_nat n (2 ^ x) hn (pow_small x hx), and_pow]
  have hp : 0 < 2 ^ x := Nat.two_pow_pos x
  cases n.testBit x
  · simp
  · simp only [if_true]; rw [bne_iff_ne]; omega

theorem has_any (n x : Nat) (w : World) (hn : n < 1024) (hx : x < 10) :
    Calls Try.prog 54 #[.int .u16 n, .int .i64 x] w fun e w' => e = .returned (.bool (n.testBit x)) ∧ w = w' := by
  have HT := Lib.hid (has_test n x hn hx)
  go_enter Try.func54, Try.ntmps54
  go_wp2
  go_ret
  exact ⟨ret_bool HT.out, rfl⟩

/-- The friends who know the news of a friend. -/
def wl (_F : Nat) (s : Nat → Nat) (x k : Nat) : List Int := ((List.range k).filter fun i => (s i).testBit x).map fun (i : Nat) => (i : Int)

theorem wl_yes (F : Nat) (s : Nat → Nat) (x k : Nat) (h : (s k).testBit x = true) : wl F s x (k + 1) = wl F s x k ++ [(k : Int)] := by simp [wl, List.range_succ, List.filter_append, h]

theorem wl_no (F : Nat) (s : Nat → Nat) (x k : Nat) (h : (s k).testBit x = false) : wl F s x (k + 1) = wl F s x k := by simp [wl, List.range_succ, List.filter_append, h]

theorem wl_le (F : Nat) (s : Nat → Nat) (x k : Nat) : (wl F s x k).length ≤ k := by
  have := List.length_filter_le (fun i => (s i).testBit x) (List.range k)
  simpa [wl] using this

def whoB (f : Int) (l : List (Int × Int)) (x : Int) : Bool := gdB f l && decide (0 ≤ x ∧ x ≤ f - 1)

def whoL (f : Int) (l : List (Int × Int)) (x : Int) : List Int := if whoB f l x then wl f.toNat (play f.toNat l) x.toNat f.toNat else []

theorem whoL_length (f : Int) (l : List (Int × Int)) (x : Int) : (whoL f l x).length ≤ 60 := by
  unfold whoL
  cases h : whoB f l x
  · simp
  · simp only [whoB, Bool.and_eq_true] at h
    have hf := gd_fr h.1
    have := wl_le f.toNat (play f.toNat l) x.toNat f.toNat
    simp only [if_true]
    omega

set_option maxRecDepth 20000 in
theorem specWho_no (w : World) (f : Int) (ao : Option Addr) (cap : Nat) (l : List (Int × Int)) (n : Nat) (Hn : Hid (n = l.length)) (hs : n ≤ 1048576) (Hc : CallsAt w ao l) (x : Int) (hno : whoB f l x = false) :
    Calls Try.prog 25 #[.int .i64 f, .slice ao n cap, .int .i64 x] w fun e w' => ∃ v, e = .returned (.tuple #[v, .bool false]) ∧ w'.ownsRow w.heap.size 3 1 v 0 (ns []) ∧ Below w.heap.size w w' := by
  have HHc := Lib.hid Hc
  clear Hc
  cases hg : gdB f l
  · have Hg := Lib.hid hg
    clear hg hno
    go_enter Try.func25, Try.ntmps25
    go_wp2_with fail
    refine (caGood_any f ao cap l n w Hn.out (by omega) HHc.out).mono ?_
    rintro e w1 ⟨rfl, hb⟩
    rw [Hg.out]
    go_wp2_with fail
    go_ret2
    exact ⟨_, rfl, World.ownsRow_nil _ _ _ _, hb⟩
  · have hff := gd_fr hg
    have hx : decide (0 ≤ x ∧ x ≤ f - 1) = false := by simpa [whoB, hg] using hno
    have Hg := Lib.hid hg
    have Hx := Lib.hid hx
    clear hg hno hx
    go_enter Try.func25, Try.ntmps25
    go_wp2_with fail
    refine (caGood_any f ao cap l n w Hn.out (by omega) HHc.out).mono ?_
    rintro e w1 ⟨rfl, hb⟩
    rw [Hg.out]
    go_wp2_with fail
    refine (l1In_any x 0 (f - 1) w1).mono ?_
    rintro e w' ⟨rfl, rfl⟩
    rw [Hx.out]
    go_wp2_with fail
    go_ret2
    exact ⟨_, rfl, World.ownsRow_nil _ _ _ _, hb⟩

set_option maxRecDepth 20000 in
theorem specWho_yes (w : World) (F : Nat) (ao : Option Addr) (cap : Nat) (l : List (Int × Int)) (n : Nat) (Hn : Hid (n = l.length)) (hs : n ≤ 1048576) (HHc : Hid (CallsAt w ao l)) (x : Nat) (Hg : Hid (gdB (F : Int) l = true)) (hff : 1 ≤ (F : Int) ∧ (F : Int) ≤ 10) (hx : x < F) :
    Calls Try.prog 25 #[.int .i64 F, .slice ao n cap, .int .i64 x] w fun e w' => ∃ v, e = .returned (.tuple #[v, .bool true]) ∧ w'.ownsRow w.heap.size 3 1 v (wl F (play F l) x F).length (ns (wl F (play F l) x F)) ∧ Below w.heap.size w w' := by
  obtain ⟨i0, hi, hz0, hz1, hz2⟩ := info_parts info3
  have Hx : Hid (decide ((0 : Int) ≤ x ∧ (x : Int) ≤ F - 1) = true) := by show _ = true; simp; omega
  go_enter Try.func25, Try.ntmps25
  go_wp2_with fail
  refine (caGood_any F ao cap l n w Hn.out (by omega) HHc.out).mono ?_
  rintro e w1 ⟨rfl, hb1⟩
  rw [Hg.out]
  have Hc1 := Lib.hid (HHc.out.kept hb1)
  go_wp2_with fail
  refine (l1In_any x 0 (F - 1) w1).mono ?_
  rintro e w' ⟨rfl, rfl⟩
  rw [Hx.out]
  go_wp2_with fail
  refine (caPlay_any F ao cap l n w1 Hn Hg.out Hc1.out).mono ?_
  rintro e w2 ⟨v, rfl, own2, hb2⟩
  obtain ⟨g, cg, hv⟩ := own_apos' own2 (by omega)
  rw [hv] at own2
  have Hc2 := Lib.hid (kl_cells own2)
  have hb3 : Below w.heap.size w w2 := hb1.trans (hb2.mono hb1.size)
  have HB3 := Lib.hid hb3
  rw [hv]
  clear own2 hb2 hv hb3
  go_wp2_with fail
  go_loopw [8, 26] (fun v i wr => ∃ k : Nat, k ≤ F ∧ i = .int .i64 k ∧ wr.ownsRow w2.heap.size 3 1 v (wl F (play F l) x k).length (ns (wl F (play F l) x k)) ∧ Below w2.heap.size w2 wr) (fun _ i _ => F - (intOf i).toNat)
  case atStart => exact ⟨0, Nat.zero_le _, rfl, World.ownsRow_nil _ _ _ _, Below.refl _ _⟩
  case round =>
    obtain ⟨k, hk, rfl, hor, hbel⟩ := hrel
    by_cases hlt : k < F
    · have hsz := hbel.size
      have hle := wl_le F (play F l) x k
      have h0 := hbel.cell (p := ⟨g, 0 + k, none⟩) (World.block_lt_of_cell? w2 _ (Hc2.out k hlt))
      rw [Hc2.out k hlt, Nat.zero_add] at h0
      have hsm := play_small F (by omega) l k
      cases ht : (play F l k).testBit x
      · have hor2 := hor
        rw [← wl_no F (play F l) x k ht] at hor2
        have Hor := Lib.hid hor2
        have htest : (bits BinOp.and IntKind.i64 ((play F l k : Int) / 2 ^ x) 1 == 1) = false := by rw [digit_test _ x hsm, ht]
        clear hor hor2 ht hsm
        go_wp2_with fail
        go_roundw
        case rel => exact ⟨k + 1, by omega, by go_num, Hor.out, hbel⟩
        case measure => simp [intOf]; omega
      · have Hyes := Lib.hid (wl_yes F (play F l) x k ht)
        have htest : (bits BinOp.and IntKind.i64 ((play F l k : Int) / 2 ^ x) 1 == 1) = true := by rw [digit_test _ x hsm, ht]
        clear ht hsm
        go_wp2_with (at_builtin; refine wpList_append_own _ rfl _ _ 38 rfl w2.heap.size 3 i0 (.int .i64 0) 1 8 Try.underlying38 hi hz0 hz1 hz2 rfl (by decide) _ _ _ rfl (hor.alloc _) ⟨wr.heap.size, 0, none⟩ 1 1 [.int .i64 k] rfl rfl ?c1 ?c2 ?c3 ?c4 ?c5 ?_)
        case c1 => exact World.news_of_block (cs := #[.int .i64 k]) (t := 3) (fr := (0, 0)) (heap_alloc_new _ _)
        case c2 => intro u hu; simp at hu; subst hu; rfl
        case c3 => unfold maxLen; omega
        case c4 => omega
        case c5 => simp; omega
        intro v' w4 hown' hgr _
        have Hown := Lib.hid hown'
        have Hbel := Lib.hid ((hbel.alloc hsz _).grown hgr (by simp; omega) (fun b hb => (hor.lt b hb).1))
        clear hown' hgr hor hbel h0
        go_wp2_with fail
        go_roundw
        case rel => exact ⟨k + 1, by omega, by go_num, by rw [Hyes.out, ns_append, List.length_append]; exact Hown.out, Hbel.out⟩
        case measure => simp [intOf]; omega
    · obtain rfl : k = F := by omega
      have Hor := Lib.hid hor
      clear hor hlt hk
      go_wp2_with fail
      go_ret2
      exact ⟨_, rfl, own_lower Hor.out HB3.out.size, HB3.out.trans (hbel.mono HB3.out.size)⟩

theorem specWho_any (w : World) (f : Int) (ao : Option Addr) (cap : Nat) (l : List (Int × Int)) (n : Nat) (Hn : Hid (n = l.length)) (hs : n ≤ 1048576) (Hc : CallsAt w ao l) (x : Int) :
    Calls Try.prog 25 #[.int .i64 f, .slice ao n cap, .int .i64 x] w fun e w' => ∃ v, e = .returned (.tuple #[v, .bool (whoB f l x)]) ∧ w'.ownsRow w.heap.size 3 1 v (whoL f l x).length (ns (whoL f l x)) ∧ Below w.heap.size w w' := by
  cases h : whoB f l x
  · rw [show whoL f l x = [] by simp [whoL, h]]
    exact specWho_no w f ao cap l n Hn hs Hc x h
  · have h2 := h
    simp only [whoB, Bool.and_eq_true, decide_eq_true_eq] at h2
    have hff := gd_fr h2.1
    obtain ⟨F, rfl⟩ := Int.eq_ofNat_of_zero_le (show 0 ≤ f by omega)
    obtain ⟨X, rfl⟩ := Int.eq_ofNat_of_zero_le h2.2.1
    rw [show whoL F l X = wl F (play F l) X F by simp [whoL, h]]
    exact specWho_yes w F ao cap l n Hn hs Hc X h2.1 hff (by omega)

set_option maxRecDepth 20000 in
theorem implWho_no (w : World) (f : Int) (ao : Option Addr) (cap : Nat) (l : List (Int × Int)) (n : Nat) (Hn : Hid (n = l.length)) (hs : n ≤ 1048576) (Hc : CallsAt w ao l) (x : Int) (hno : whoB f l x = false) :
    Calls Try.prog 26 #[.int .i64 f, .slice ao n cap, .int .i64 x] w fun e w' => ∃ v, e = .returned (.tuple #[v, .bool false]) ∧ w'.ownsRow w.heap.size 3 1 v 0 (ns []) ∧ Below w.heap.size w w' := by
  have HHc := Lib.hid Hc
  clear Hc
  cases hg : gdB f l
  · have Hg := Lib.hid hg
    clear hg hno
    go_enter Try.func26, Try.ntmps26
    go_wp2_with fail
    refine (areCalls_any f ao cap l n w Hn.out (by omega) HHc.out).mono ?_
    rintro e w1 ⟨rfl, hb⟩
    rw [Hg.out]
    go_wp2_with fail
    go_ret2
    exact ⟨_, rfl, World.ownsRow_nil _ _ _ _, hb⟩
  · have hff := gd_fr hg
    have hx : ¬ (0 ≤ x ∧ x < f) := by
      have : ¬ (0 ≤ x ∧ x ≤ f - 1) := by simpa [whoB, hg] using hno
      omega
    have Hg := Lib.hid hg
    have Hx := Lib.hid hx
    clear hg hno hx
    go_enter Try.func26, Try.ntmps26
    go_wp2_with fail
    refine (areCalls_any f ao cap l n w Hn.out (by omega) HHc.out).mono ?_
    rintro e w1 ⟨rfl, hb⟩
    rw [Hg.out]
    go_wp2_with fail
    refine (isFriend_no f x w1 Hx.out).mono ?_
    rintro e w' ⟨rfl, rfl⟩
    go_wp2_with fail
    go_ret2
    exact ⟨_, rfl, World.ownsRow_nil _ _ _ _, hb⟩

set_option maxRecDepth 20000 in
theorem implWho_yes (w : World) (F : Nat) (ao : Option Addr) (cap : Nat) (l : List (Int × Int)) (n : Nat) (Hn : Hid (n = l.length)) (hs : n ≤ 1048576) (HHc : Hid (CallsAt w ao l)) (x : Nat) (Hg : Hid (gdB (F : Int) l = true)) (hff : 1 ≤ (F : Int) ∧ (F : Int) ≤ 10) (hx : x < F) :
    Calls Try.prog 26 #[.int .i64 F, .slice ao n cap, .int .i64 x] w fun e w' => ∃ v, e = .returned (.tuple #[v, .bool true]) ∧ w'.ownsRow w.heap.size 3 1 v (wl F (play F l) x F).length (ns (wl F (play F l) x F)) ∧ Below w.heap.size w w' := by
  obtain ⟨i0, hi, hz0, hz1, hz2⟩ := info_parts info3
  go_enter Try.func26, Try.ntmps26
  go_wp2_with fail
  refine (areCalls_any F ao cap l n w Hn.out (by omega) HHc.out).mono ?_
  rintro e w1 ⟨rfl, hb1⟩
  rw [Hg.out]
  have Hc1 := Lib.hid (HHc.out.kept hb1)
  go_wp2_with fail
  refine (isFriend_yes F x w1 (by omega) (by omega)).mono ?_
  rintro e w' ⟨rfl, rfl⟩
  go_wp2_with fail
  refine (knowledgeBehind_any F ao cap l n w1 Hn Hg.out Hc1.out).mono ?_
  rintro e w2 ⟨rfl, hb2⟩
  have hb3 : Below w.heap.size w w2 := hb1.trans (hb2.mono hb1.size)
  have hs3 := hb3.size
  have HB3 := Lib.hid hb3
  clear hb2 hb3
  go_wp2_with (with_reducible refine wpList_store_row rfl 57 (.tmp 8) (.tmp 23) rfl w2.heap.size (KA F (play F l)) ?r1 ?r2 57 _ (heap_alloc_new w2 _) ?r3 ?r4 ?r5 ?_)
  case r1 => rfl
  case r2 => rfl
  case r3 => rw [info57, KA_size]
  case r4 => rw [KA_size]; rfl
  case r5 => exact KA_one _ _
  have hB0 : ((w2.alloc (.cells ZA 57)).setRow w2.heap.size (KA F (play F l))).heap[w2.heap.size]? = some (.cells (KA F (play F l)) 57 (0, 0)) := setRow_heap _ _ _ _ _ _ (heap_alloc_new w2 _)
  have hb0 : Below w.heap.size w ((w2.alloc (.cells ZA 57)).setRow w2.heap.size (KA F (play F l))) := below_setRow (HB3.out.alloc hs3 _) hs3 _
  have HB0 := Lib.hid hB0
  have HH0 := Lib.hid hb0
  have hsz0 : ((w2.alloc (.cells ZA 57)).setRow w2.heap.size (KA F (play F l))).heap.size = w2.heap.size + 1 := by simp
  have HS0 := Lib.hid hsz0
  clear hB0 hb0 hsz0
  go_loopw [9, 25] (fun v i wr => ∃ k : Nat, k ≤ F ∧ i = .int .i64 k ∧ wr.ownsRow (w2.heap.size + 1) 3 1 v (wl F (play F l) x k).length (ns (wl F (play F l) x k)) ∧ wr.heap[w2.heap.size]? = some (.cells (KA F (play F l)) 57 (0, 0)) ∧ Below w.heap.size w wr) (fun _ i _ => F - (intOf i).toNat)
  case atStart => exact ⟨0, Nat.zero_le _, rfl, World.ownsRow_nil _ _ _ _, HB0.out, HH0.out⟩
  case round =>
    obtain ⟨k, hk, rfl, hor, hB, hbel⟩ := hrel
    have HBk := Lib.hid hB
    have hBs : w2.heap.size < wr.heap.size := (Array.getElem?_eq_some_iff.1 hB).1
    have hcell := KA_cell hB
    have Hcell := Lib.hid hcell
    clear hB hcell
    by_cases hlt : k < F
    · have hsz := hbel.size
      have hle := wl_le F (play F l) x k
      have h0 := Hcell.out k (by omega)
      rw [Nat.add_comm] at h0
      have hsm := play_small F (by omega) l k
      go_wp2_with fail
      refine (has_any (play F l k) x wr hsm (by omega)).mono ?_
      rintro e w' ⟨rfl, rfl⟩
      cases ht : (play F l k).testBit x
      · have hor2 := hor
        rw [← wl_no F (play F l) x k ht] at hor2
        have Hor := Lib.hid hor2
        clear hor hor2 ht hsm
        go_wp2_with fail
        go_roundw
        case rel => exact ⟨k + 1, by omega, by go_num, Hor.out, HBk.out, hbel⟩
        case measure => simp [intOf]; omega
      · have Hyes := Lib.hid (wl_yes F (play F l) x k ht)
        clear ht hsm
        go_wp2_with (at_builtin; refine wpList_append_own _ rfl _ _ 38 rfl (w2.heap.size + 1) 3 i0 (.int .i64 0) 1 8 Try.underlying38 hi hz0 hz1 hz2 rfl (by decide) _ _ _ rfl (hor.alloc _) ⟨wr.heap.size, 0, none⟩ 1 1 [.int .i64 k] rfl rfl ?c1 ?c2 ?c3 ?c4 ?c5 ?_)
        case c1 => exact World.news_of_block (cs := #[.int .i64 k]) (t := 3) (fr := (0, 0)) (heap_alloc_new _ _)
        case c2 => intro u hu; simp at hu; subst hu; rfl
        case c3 => unfold maxLen; omega
        case c4 => omega
        case c5 => simp; omega
        intro v' w4 hown' hgr _
        have Hown := Lib.hid hown'
        have Hbel := Lib.hid ((hbel.alloc hsz _).grown hgr (by simp; omega) (fun b hb => by have := (hor.lt b hb).1; omega))
        have hB4 : w4.heap[w2.heap.size]? = some (.cells (KA F (play F l)) 57 (0, 0)) := by
          rw [hgr.block _ (by simp; omega) (fun h => by have := (hor.lt _ h.symm).1; omega), Below.heap_alloc _ _ _ hBs]
          exact HBk.out
        have HB4 := Lib.hid hB4
        clear hown' hgr hor hbel h0 hB4
        go_wp2_with fail
        go_roundw
        case rel => exact ⟨k + 1, by omega, by go_num, by rw [Hyes.out, ns_append, List.length_append]; exact Hown.out, HB4.out, Hbel.out⟩
        case measure => simp [intOf]; omega
    · obtain rfl : k = F := by omega
      have Hor := Lib.hid hor
      clear hor hlt hk
      go_wp2_with fail
      go_ret2
      exact ⟨_, rfl, own_lower Hor.out (by omega), hbel⟩

theorem implWho_any (w : World) (f : Int) (ao : Option Addr) (cap : Nat) (l : List (Int × Int)) (n : Nat) (Hn : Hid (n = l.length)) (hs : n ≤ 1048576) (Hc : CallsAt w ao l) (x : Int) :
    Calls Try.prog 26 #[.int .i64 f, .slice ao n cap, .int .i64 x] w fun e w' => ∃ v, e = .returned (.tuple #[v, .bool (whoB f l x)]) ∧ w'.ownsRow w.heap.size 3 1 v (whoL f l x).length (ns (whoL f l x)) ∧ Below w.heap.size w w' := by
  cases h : whoB f l x
  · rw [show whoL f l x = [] by simp [whoL, h]]
    exact implWho_no w f ao cap l n Hn hs Hc x h
  · have h2 := h
    simp only [whoB, Bool.and_eq_true, decide_eq_true_eq] at h2
    have hff := gd_fr h2.1
    obtain ⟨F, rfl⟩ := Int.eq_ofNat_of_zero_le (show 0 ≤ f by omega)
    obtain ⟨X, rfl⟩ := Int.eq_ofNat_of_zero_le h2.2.1
    rw [show whoL F l X = wl F (play F l) X F by simp [whoL, h]]
    exact implWho_yes w F ao cap l n Hn hs Hc X h2.1 hff (by omega)
end Go.Proofs.Ytffnmpmgnaephaa
