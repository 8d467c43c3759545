/- The plans around a table: the model's and the program's, with what the appends of both leave in memory. -/
import Derived.Test.YtjmckdnjghnlbaaAre
import Derived.Deep.AppendLies
import Derived.Laws.AppendOwnNone
namespace Go.Proofs.Ytjmckdnjghnlbaa
open Go.ChangeShapes Go.WideShapes Go.ChangeAt Go.RowKit

/-- The calls of the first friend with a, a + 1, .. : k of them. -/
def star (a : Int) (k : Nat) : List (Int × Int) := (List.range k).map fun (i : Nat) => (0, a + (i : Int))
theorem star_length (a : Int) (k : Nat) : (star a k).length = k := by simp [star]
theorem star_succ (a : Int) (k : Nat) : star a (k + 1) = star a k ++ [(0, a + (k : Int))] := by simp [star, List.range_succ]

theorem callsOfFirst_any (a : Int) (m : Nat) (w : World) (h0 : 0 ≤ a) (h1 : a ≤ 10) (hm : m ≤ 10) :
    Calls Try.prog 100 #[.int .i64 a, .int .i64 (a + m)] w fun e w' => ∃ v, e = .returned v ∧ w'.ownsRow w.heap.size 56 2 v m (cs (star a m)) ∧ Below w.heap.size w w' := by
  obtain ⟨i0, hi, hz0, hz1, hz2⟩ := info_parts info56
  go_enter Try.func100, Try.ntmps100
  go_wp2_with fail
  go_loopw [5, 6] (fun v i wr => ∃ k : Nat, k ≤ m ∧ i = .int .i64 (a + k) ∧ wr.ownsRow w.heap.size 56 2 v k (cs (star a k)) ∧ Below w.heap.size w wr) (fun _ i _ => (a + m - intOf i).toNat)
  case atStart => exact ⟨0, Nat.zero_le _, by go_num, World.ownsRow_nil _ _ _ _, Below.refl _ _⟩
  case round =>
    obtain ⟨k, hk, rfl, hor, hbel⟩ := hrel
    by_cases hlt : k < m
    · have hsz := hbel.size
      go_wp2_with (at_builtin; refine wpList_append_own _ rfl _ _ 25 rfl w.heap.size 56 i0 (.agg #[.int .i64 0, .int .i64 0]) 2 16 Try.underlying25 hi hz0 hz1 hz2 rfl (by decide) _ _ _ rfl (hor.alloc _) ⟨wr.heap.size, 0, none⟩ 1 1 [.int .i64 0, .int .i64 (a + k)] rfl rfl ?c1 ?c2 ?c3 ?c4 ?c5 ?_)
      case c1 => exact World.news_of_block (cs := #[.int .i64 0, .int .i64 (a + k)]) (t := 56) (fr := (0, 0)) (heap_alloc_new _ _)
      case c2 => intro u hu; simp at hu; rcases hu with rfl | rfl <;> rfl
      case c3 => unfold maxLen; omega
      case c4 => omega
      case c5 => simp; omega
      intro v' w1 hown' hgr _
      have Hown := Lib.hid hown'
      have Hbel := Lib.hid ((hbel.alloc hsz _).grown hgr (by simp; omega) (fun b hb => (hor.lt b hb).1))
      clear hown' hgr hor hbel
      go_wp2_with fail
      go_roundw
      case rel => exact ⟨k + 1, by omega, by go_num, by rw [star_succ, cs_append]; exact Hown.out, Hbel.out⟩
      case measure => simp [intOf]; omega
    · obtain rfl : k = m := by omega
      have Hor := Lib.hid hor
      clear hor
      go_wp2_with fail
      go_ret
      exact ⟨_, rfl, Hor.out, hbel⟩

theorem callsOfFirst_none (a b : Int) (w : World) (h : b ≤ a) :
    Calls Try.prog 100 #[.int .i64 a, .int .i64 b] w fun e w' => e = .returned (.slice none 0 0) ∧ w = w' := by
  go_enter Try.func100, Try.ntmps100
  go_wp2_with fail
  go_rounds 1
  go_ret
  exact ⟨rfl, rfl⟩

/-- Two values that own, the second one what was made behind the first one: they don't meet. -/
theorem apart_of {w1 w2 : World} {b1 : Nat} {e1 e2 : TypeId} {s1 s2 : Nat} {v1 v2 : Value} {n1 n2 : Nat} {x1 x2 : List Value} (h1 : w1.ownsRow b1 e1 s1 v1 n1 x1) (h2 : w2.ownsRow w1.heap.size e2 s2 v2 n2 x2) :
    v1.ownBlock = none ∨ v1.ownBlock ≠ v2.ownBlock := by
  cases hv : v1.ownBlock with
  | none => exact .inl rfl
  | some k =>
    refine .inr fun hh => ?_
    have a1 := (h1.lt k hv).2
    have a2 := (h2.lt k hh.symm).1
    omega
theorem apart_of' {w1 w2 : World} {b1 : Nat} {e1 e2 : TypeId} {s1 s2 : Nat} {v1 v2 : Value} {n1 n2 : Nat} {x1 x2 : List Value} (h1 : w1.ownsRow b1 e1 s1 v1 n1 x1) (h2 : w2.ownsRow w1.heap.size e2 s2 v2 n2 x2) :
    v2.ownBlock = none ∨ v2.ownBlock ≠ v1.ownBlock := by
  cases hv : v2.ownBlock with
  | none => exact .inl rfl
  | some k =>
    refine .inr fun hh => ?_
    have a1 := (h1.lt k hh.symm).2
    have a2 := (h2.lt k hv).1
    omega

theorem own_apos {w : World} {base : Nat} {e : TypeId} {size : Nat} {v : Value} {n : Nat} {xs : List Value} (h : w.ownsRow base e size v n xs) (hn : 0 < n) : ∃ g cap, v = .slice (some ⟨g, 0, none⟩) n cap := by
  rcases h.2 with ⟨_, h0⟩ | ⟨g, cap, cur, rfl, _⟩
  · omega
  · exact ⟨g, cap, rfl⟩

/-- The plan around a table. -/
def tabL (f : Int) : List (Int × Int) := if frB f then star 1 (f - 1).toNat ++ star 1 (f - 2).toNat else []

theorem callsOfFirst_to (a b : Int) (m : Nat) (w : World) (h0 : 0 ≤ a) (h1 : a ≤ 10) (hm : m ≤ 10) (Hb : Hid (b = a + m)) :
    Calls Try.prog 100 #[.int .i64 a, .int .i64 b] w fun e w' => ∃ v, e = .returned v ∧ w'.ownsRow w.heap.size 56 2 v m (cs (star a m)) ∧ Below w.heap.size w w' := by
  rw [Hb.out]
  exact callsOfFirst_any a m w h0 h1 hm

theorem implTable_3 (f : Int) (m : Nat) (w : World) (hf : f = m + 3) (hm : m ≤ 7) :
    Calls Try.prog 62 #[.int .i64 f] w fun e w' => ∃ v, e = .returned (.tuple #[v, .bool true]) ∧ w'.ownsRow w.heap.size 56 2 v (m + 2 + (m + 1)) (cs (star 1 (m + 2) ++ star 1 (m + 1))) ∧ Below w.heap.size w w' := by
  obtain ⟨i0, hi, hz0, hz1, hz2⟩ := info_parts info56
  have hfr : frB f = true := by simp [frB]; omega
  have Hfr := Lib.hid hfr
  have He1 : Hid (f = 1 + ((m + 2 : Nat) : Int)) := by show f = _; omega
  have He2 : Hid (f - 1 = 1 + ((m + 1 : Nat) : Int)) := by show f - 1 = _; omega
  have hl : 3 ≤ f := by omega
  have hh : f ≤ 10 := by omega
  clear hfr hf
  go_enter Try.func62, Try.ntmps62
  go_wp2_with fail
  refine (canBeFriends_any f w).mono ?_
  rintro e w' ⟨rfl, rfl⟩
  rw [Hfr.out]
  go_wp2_with fail
  refine (callsOfFirst_to 1 f (m + 2) w (by omega) (by omega) (by omega) He1).mono ?_
  rintro e w1 ⟨v1, rfl, own1, bel1⟩
  have Hown1 := Lib.hid own1
  clear own1
  go_wp2_with fail
  refine (callsOfFirst_to 1 (f - 1) (m + 1) w1 (by omega) (by omega) (by omega) He2).mono ?_
  rintro e w2 ⟨v2, rfl, own2, bel2⟩
  have Hs := Lib.hid (own_apos own2 (by omega))
  have Hown2 := Lib.hid own2
  have Hown1b := Lib.hid (own_later Hown1.out bel2)
  have hbel := bel1.trans (bel2.mono bel1.size)
  have hsz := hbel.size
  clear own2 bel2 bel1
  obtain ⟨g, cap, hv⟩ := Hs.out
  have Hown2b : Hid (w2.ownsRow w1.heap.size 56 2 (.slice (some ⟨g, 0, none⟩) (m + 1) cap) (m + 1) (cs (star 1 (m + 1)))) := by rw [← hv]; exact Hown2.out
  rw [hv]
  clear hv Hown2 Hs
  go_wp2_with (at_builtin; refine wpList_append_own _ rfl _ _ 25 rfl w.heap.size 56 i0 (.agg #[.int .i64 0, .int .i64 0]) 2 16 Try.underlying25 hi hz0 hz1 hz2 rfl (by decide) _ _ _ rfl Hown1b.out ⟨g, 0, none⟩ (m + 1) cap (cs (star 1 (m + 1))) rfl ?c0 ?c1 ?c2 ?c3 ?c4 ?c5 ?_)
  case c0 => rw [cs_length, star_length]
  case c1 => exact Hown2b.out.cells rfl
  case c2 => exact cs_one _
  case c3 => unfold maxLen; omega
  case c4 => omega
  case c5 => exact hsz
  intro v' w3 hown' hgr _
  have Hown := Lib.hid hown'
  have Hbel := Lib.hid (hbel.grown hgr hsz (fun b hb => (Hown1b.out.lt b hb).1))
  clear hown' hgr hbel
  go_wp2_with fail
  go_ret2
  exact ⟨v', rfl, by rw [cs_append]; exact Hown.out, Hbel.out⟩

theorem implTable_2 (w : World) :
    Calls Try.prog 62 #[.int .i64 2] w fun e w' => ∃ v, e = .returned (.tuple #[v, .bool true]) ∧ w'.ownsRow w.heap.size 56 2 v 1 (cs (star 1 1)) ∧ Below w.heap.size w w' := by
  obtain ⟨i0, hi, hz0, hz1, hz2⟩ := info_parts info56
  go_enter Try.func62, Try.ntmps62
  go_wp2_with fail
  refine (canBeFriends_any 2 w).mono ?_
  rintro e w' ⟨rfl, rfl⟩
  rw [show frB 2 = true from rfl]
  go_wp2_with fail
  refine (callsOfFirst_to 1 2 1 w (by omega) (by omega) (by omega) (by show (2 : Int) = _; omega)).mono ?_
  rintro e w1 ⟨v1, rfl, own1, bel1⟩
  have Hown1 := Lib.hid own1
  clear own1
  go_wp2_with fail
  refine (callsOfFirst_none 1 1 w1 (by omega)).mono ?_
  rintro e w' ⟨rfl, rfl⟩
  go_wp2_with (at_builtin; refine wpList_append_own_none rfl _ _ 25 rfl w.heap.size 56 i0 2 Try.underlying25 hi _ _ _ rfl Hown1.out rfl ?_)
  go_ret2
  exact ⟨v1, rfl, Hown1.out, bel1⟩

theorem implTable_1 (w : World) :
    Calls Try.prog 62 #[.int .i64 1] w fun e w' => ∃ v, e = .returned (.tuple #[v, .bool true]) ∧ w'.ownsRow w.heap.size 56 2 v 0 (cs []) ∧ Below w.heap.size w w' := by
  obtain ⟨i0, hi, hz0, hz1, hz2⟩ := info_parts info56
  have Hown1 := Lib.hid (World.ownsRow_nil w w.heap.size 56 2)
  go_enter Try.func62, Try.ntmps62
  go_wp2_with fail
  refine (canBeFriends_any 1 w).mono ?_
  rintro e w' ⟨rfl, rfl⟩
  rw [show frB 1 = true from rfl]
  go_wp2_with fail
  refine (callsOfFirst_none 1 1 w (by omega)).mono ?_
  rintro e w' ⟨rfl, rfl⟩
  go_wp2_with fail
  refine (callsOfFirst_none 1 0 w (by omega)).mono ?_
  rintro e w' ⟨rfl, rfl⟩
  go_wp2_with (at_builtin; refine wpList_append_own_none rfl _ _ 25 rfl w.heap.size 56 i0 2 Try.underlying25 hi _ _ _ rfl Hown1.out rfl ?_)
  go_ret2
  exact ⟨_, rfl, Hown1.out, Below.refl _ _⟩

theorem implTable_0 (f : Int) (w : World) (hf : frB f = false) :
    Calls Try.prog 62 #[.int .i64 f] w fun e w' => ∃ v, e = .returned (.tuple #[v, .bool false]) ∧ w'.ownsRow w.heap.size 56 2 v 0 (cs []) ∧ Below w.heap.size w w' := by
  have Hf := Lib.hid hf
  clear hf
  have Hown1 := Lib.hid (World.ownsRow_nil w w.heap.size 56 2)
  go_enter Try.func62, Try.ntmps62
  go_wp2_with fail
  refine (canBeFriends_any f w).mono ?_
  rintro e w' ⟨rfl, rfl⟩
  rw [Hf.out]
  go_wp2_with fail
  go_ret2
  exact ⟨_, rfl, Hown1.out, Below.refl _ _⟩

theorem implTable_any (w : World) (f : Int) :
    Calls Try.prog 62 #[.int .i64 f] w fun e w' => ∃ v, e = .returned (.tuple #[v, .bool (frB f)]) ∧ w'.ownsRow w.heap.size 56 2 v (tabL f).length (cs (tabL f)) ∧ Below w.heap.size w w' := by
  cases hf : frB f
  · have : tabL f = [] := by simp [tabL, hf]
    rw [this]
    exact implTable_0 f w hf
  · have hff : 1 ≤ f ∧ f ≤ 10 := by simpa [frB] using hf
    by_cases h1 : f = 1
    · subst h1; exact implTable_1 w
    by_cases h2 : f = 2
    · subst h2; exact implTable_2 w
    obtain ⟨m, hm⟩ : ∃ m : Nat, f = m + 3 := ⟨(f - 3).toNat, by omega⟩
    have e1 : (f - 1).toNat = m + 2 := by omega
    have e2 : (f - 2).toNat = m + 1 := by omega
    have : tabL f = star 1 (m + 2) ++ star 1 (m + 1) := by simp [tabL, hf, e1, e2]
    rw [this, List.length_append, star_length, star_length]
    exact implTable_3 f m w hm (by omega)

theorem specTable_0 (f : Int) (w : World) (hf : frB f = false) :
    Calls Try.prog 61 #[.int .i64 f] w fun e w' => ∃ v, e = .returned (.tuple #[v, .bool false]) ∧ w'.ownsRow w.heap.size 56 2 v 0 (cs []) ∧ Below w.heap.size w w' := by
  have Hf := Lib.hid hf
  clear hf
  have Hown1 := Lib.hid (World.ownsRow_nil w w.heap.size 56 2)
  go_enter Try.func61, Try.ntmps61
  go_wp2_with fail
  refine (caFriends_any f w).mono ?_
  rintro e w' ⟨rfl, rfl⟩
  rw [Hf.out]
  go_wp2_with fail
  go_ret2
  exact ⟨_, rfl, Hown1.out, Below.refl _ _⟩

set_option maxRecDepth 20000 in
theorem specTable_1 (f : Int) (m : Nat) (w : World) (hf : f = m + 1) (hm : m ≤ 9) :
    Calls Try.prog 61 #[.int .i64 f] w fun e w' => ∃ v, e = .returned (.tuple #[v, .bool true]) ∧ w'.ownsRow w.heap.size 56 2 v (m + (m - 1)) (cs (star 1 m ++ star 1 (m - 1))) ∧ Below w.heap.size w w' := by
  obtain ⟨i0, hi, hz0, hz1, hz2⟩ := info_parts info56
  have hfr : frB f = true := by simp [frB]; omega
  have Hfr := Lib.hid hfr
  have hl : 1 ≤ f := by omega
  have hh : f ≤ 10 := by omega
  have Hf : Hid (f = m + 1) := hf
  have hf1 : f ≤ m + 1 := by omega
  have hf2 : m + 1 ≤ f := by omega
  clear hfr hf
  go_enter Try.func61, Try.ntmps61
  go_wp2_with fail
  refine (caFriends_any f w).mono ?_
  rintro e w' ⟨rfl, rfl⟩
  rw [Hfr.out]
  go_wp2_with fail
  go_loopw [4, 5] (fun v i wr => ∃ k : Nat, k ≤ m ∧ i = .int .i64 (1 + k) ∧ wr.ownsRow w.heap.size 56 2 v k (cs (star 1 k)) ∧ Below w.heap.size w wr) (fun _ i _ => (f - intOf i).toNat)
  case atStart => exact ⟨0, Nat.zero_le _, by go_num, World.ownsRow_nil _ _ _ _, Below.refl _ _⟩
  case round =>
    obtain ⟨k, hk, rfl, hor, hbel⟩ := hrel
    by_cases hlt : k < m
    · have hsz := hbel.size
      go_wp2_with (at_builtin; refine wpList_append_own _ rfl _ _ 25 rfl w.heap.size 56 i0 (.agg #[.int .i64 0, .int .i64 0]) 2 16 Try.underlying25 hi hz0 hz1 hz2 rfl (by decide) _ _ _ rfl (hor.alloc _) ⟨wr.heap.size, 0, none⟩ 1 1 [.int .i64 0, .int .i64 (1 + k)] rfl rfl ?c1 ?c2 ?c3 ?c4 ?c5 ?_)
      case c1 => exact World.news_of_block (cs := #[.int .i64 0, .int .i64 (1 + k)]) (t := 56) (fr := (0, 0)) (heap_alloc_new _ _)
      case c2 => intro u hu; simp at hu; rcases hu with rfl | rfl <;> rfl
      case c3 => unfold maxLen; omega
      case c4 => omega
      case c5 => simp; omega
      intro v' w1 hown' hgr _
      have Hown := Lib.hid hown'
      have Hbel := Lib.hid ((hbel.alloc hsz _).grown hgr (by simp; omega) (fun b hb => (hor.lt b hb).1))
      clear hown' hgr hor hbel
      go_wp2_with fail
      go_roundw
      case rel => exact ⟨k + 1, by omega, by go_num, by rw [star_succ, cs_append]; exact Hown.out, Hbel.out⟩
      case measure => simp [intOf]; omega
    · obtain rfl : k = m := by omega
      have Hor := Lib.hid hor
      have Hb5 := Lib.hid hbel
      clear hor hbel hlt hk
      go_wp2_with fail
      go_loopw [4, 6] (fun v i wr => ∃ j : Nat, j ≤ k - 1 ∧ i = .int .i64 (1 + j) ∧ wr.ownsRow w.heap.size 56 2 v (k + j) (cs (star 1 k ++ star 1 j)) ∧ Below w.heap.size w wr) (fun _ i _ => (f - intOf i).toNat)
      case atStart => exact ⟨0, Nat.zero_le _, by go_num, by simpa [star] using Hor.out, Hb5.out⟩
      case round =>
        obtain ⟨j, hj, rfl, hor, hbel⟩ := hrel
        by_cases hlt2 : j < k - 1
        · have hsz := hbel.size
          go_wp2_with (at_builtin; refine wpList_append_own _ rfl _ _ 25 rfl w.heap.size 56 i0 (.agg #[.int .i64 0, .int .i64 0]) 2 16 Try.underlying25 hi hz0 hz1 hz2 rfl (by decide) _ _ _ rfl (hor.alloc _) _ 1 1 [.int .i64 0, .int .i64 (1 + j)] rfl rfl ?d1 ?d2 ?d3 ?d4 ?d5 ?_)
          case d1 => exact World.news_of_block (cs := #[.int .i64 0, .int .i64 (1 + j)]) (t := 56) (fr := (0, 0)) (heap_alloc_new _ _)
          case d2 => intro u hu; simp at hu; rcases hu with rfl | rfl <;> rfl
          case d3 => unfold maxLen; omega
          case d4 => omega
          case d5 => simp; omega
          intro v' w1 hown' hgr _
          have Hown := Lib.hid hown'
          have Hbel := Lib.hid ((hbel.alloc hsz _).grown hgr (by simp; omega) (fun b hb => (hor.lt b hb).1))
          clear hown' hgr hor hbel
          go_wp2_with fail
          go_roundw
          case rel => exact ⟨j + 1, by omega, by go_num, by rw [star_succ, ← List.append_assoc, cs_append]; exact Hown.out, Hbel.out⟩
          case measure => simp [intOf]; omega
        · obtain rfl : j = k - 1 := by omega
          have Hor2 := Lib.hid hor
          clear hor
          go_wp2_with fail
          go_ret2
          exact ⟨_, rfl, Hor2.out, hbel⟩

theorem specTable_any (w : World) (f : Int) :
    Calls Try.prog 61 #[.int .i64 f] w fun e w' => ∃ v, e = .returned (.tuple #[v, .bool (frB f)]) ∧ w'.ownsRow w.heap.size 56 2 v (tabL f).length (cs (tabL f)) ∧ Below w.heap.size w w' := by
  cases hf : frB f
  · have : tabL f = [] := by simp [tabL, hf]
    rw [this]
    exact specTable_0 f w hf
  · have hff : 1 ≤ f ∧ f ≤ 10 := by simpa [frB] using hf
    obtain ⟨m, hm⟩ : ∃ m : Nat, f = m + 1 := ⟨(f - 1).toNat, by omega⟩
    have e1 : (f - 1).toNat = m := by omega
    have e2 : (f - 2).toNat = m - 1 := by omega
    have : tabL f = star 1 m ++ star 1 (m - 1) := by simp [tabL, hf, e1, e2]
    rw [this, List.length_append, star_length, star_length]
    exact specTable_1 f m w hm (by omega)

theorem eqCallS_own {b1 b2 : Nat} (v1 v2 : Value) (l : List (Int × Int)) (n m : Nat) (w : World) (hn : n = l.length) (hm : m = l.length) (hl : n ≤ 9223372036854775807) (h1 : w.ownsRow b1 56 2 v1 n (cs l)) (h2 : w.ownsRow b2 56 2 v2 m (cs l)) :
    Calls Try.prog 23 #[v1, v2] w fun e w' => e = .returned (.bool true) ∧ Below w.heap.size w w' := by
  obtain ⟨ao, ka, rfl, hc, _⟩ := own_shape h1 hn
  obtain ⟨bo, kb, rfl, hd, _⟩ := own_shape h2 hm
  exact eqCallS_any ao bo ka kb l n m w hn hm hl hc hd

theorem tabL_length (f : Int) : (tabL f).length ≤ 60 := by
  unfold tabL
  cases hf : frB f
  · simp
  · have hff : 1 ≤ f ∧ f ≤ 10 := by simpa [frB] using hf
    simp [star_length]
    omega
end Go.Proofs.Ytjmckdnjghnlbaa
