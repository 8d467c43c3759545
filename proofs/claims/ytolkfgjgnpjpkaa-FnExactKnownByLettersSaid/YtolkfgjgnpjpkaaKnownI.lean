/- What each friend knows behind letters, as lists: the program. -/
import Derived.Test.YtolkfgjgnpjpkaaReadAll
import Derived.Test.YtolkfgjgnpjpkaaKeys
import Derived.Test.YtolkfgjgnpjpkaaRows2
namespace Go.Proofs.Ytolkfgjgnpjpkaa
open Go.ChangeShapes Go.WideShapes Go.ChangeAt Go.RowKit
set_option linter.unusedVariables false


theorem OwnSS.store {w : World} {base g n cap : Nat} {X : List Value} {L : List (List Int)} (h : OwnSS w base (.slice (some ⟨g, 0, none⟩) n cap) X L) (hn : n = L.length) (j : Nat) (hj : j < L.length) (x : Value) (l : List Int)
    (hx : w.ownsRow base 3 1 x l.length (ns l)) (hxv : ∀ b, x.ownBlock = some b → b ≠ g) (hxX : ∀ (i : Nat) (y : Value) (b : Nat), X[i]? = some y → y.ownBlock = some b → x.ownBlock ≠ some b) :
    OwnSS (w.setCell ⟨g, j, none⟩ x) base (.slice (some ⟨g, 0, none⟩) n cap) (X.set j x) (L.set j l) := by
  subst hn
  have hXL := h.2.1
  have far : ∀ k, k ≠ g → (w.setCell ⟨g, j, none⟩ x).heap[k]? = w.heap[k]? := fun k hk => Below.heap_setCell _ _ _ _ (by simpa using hk)
  have h5 := (h.1.stored j x).1
  refine ⟨by rw [List.length_set]; exact h5, by simp [hXL], fun i y m hy hm => ?_, fun i k y z b hik hy hz hb => ?_⟩
  · by_cases hij : i = j
    · subst hij
      rw [List.getElem?_set_self (by rw [hXL]; exact hj)] at hy
      rw [List.getElem?_set_self hj] at hm
      obtain rfl : x = y := by simpa using hy
      obtain rfl : l = m := by simpa using hm
      refine ⟨own_same hx (fun k hk => far k (hxv k hk)), fun b hb e => hxv b hb ?_⟩
      simpa [Value.ownBlock] using e.symm
    · rw [List.getElem?_set_ne (Ne.symm hij)] at hy hm
      obtain ⟨h1, h2⟩ := h.2.2.1 i y m hy hm
      refine ⟨own_same h1 (fun k hk => far k ?_), h2⟩
      intro e
      exact h2 k hk (by rw [e]; rfl)
  · by_cases hij : i = j
    · subst hij
      rw [List.getElem?_set_self (by have := (List.getElem?_eq_some_iff.1 hy).1; simpa using this)] at hy
      obtain rfl : x = y := by simpa using hy
      rw [List.getElem?_set_ne (by omega)] at hz
      intro e
      exact hxX k z b hz e hb
    · rw [List.getElem?_set_ne (Ne.symm hij)] at hy
      by_cases hkj : k = j
      · subst hkj
        rw [List.getElem?_set_self (by have := (List.getElem?_eq_some_iff.1 hz).1; simpa using this)] at hz
        obtain rfl : x = z := by simpa using hz
        exact hxX i y b hy hb
      · rw [List.getElem?_set_ne (Ne.symm hkj)] at hz
        exact h.2.2.2 i k y z b hik hy hz hb
theorem RdB.low {w w' : World} {base g cap : Nat} {bs : List Nat} {s : Nat → Nat} {r : Option Nat} (h : RdB w base g cap bs s) (hgr : w.grownBy w' r) (hr : ∀ b, r = some b → b < base) : RdB w' base g cap bs s := by
  have hg := (h.1.lt g rfl).1
  refine ⟨h.1.kept hgr (.inr ?_), h.2.1, fun i hi => ⟨(h.2.2 i hi).1, ((h.2.2 i hi).2).kept hgr ?_⟩⟩
  · intro e
    have := hr g e.symm
    omega
  · intro e
    have := hr _ e.symm
    have := (h.2.2 i hi).1
    omega
theorem grown_one (w : World) (g o : Nat) (u : Value) : w.grownBy (w.setCell ⟨g, o, none⟩ u) (some g) := grown_set ⟨rfl, rfl, rfl, Nat.le_refl _, fun _ _ _ => rfl⟩ o u

/-- What the first k know, and nothing of the others. -/
def knS (s : Nat → Nat) (k : Nat) : List (List Int) := (List.range k).map fun i => bl (s i) 10
def knP (F : Nat) (s : Nat → Nat) (k : Nat) : List (List Int) := knS s k ++ List.replicate (F - k) []
theorem knS_length (s : Nat → Nat) (k : Nat) : (knS s k).length = k := by simp [knS]
theorem knS_succ (s : Nat → Nat) (k : Nat) : knS s (k + 1) = knS s k ++ [bl (s k) 10] := by simp [knS, List.range_succ]
theorem knP_length (F : Nat) (s : Nat → Nat) (k : Nat) (h : k ≤ F) : (knP F s k).length = F := by simp [knP, knS_length]; omega
theorem knP_set (F : Nat) (s : Nat → Nat) (k : Nat) (h : k < F) : (knP F s k).set k (bl (s k) 10) = knP F s (k + 1) := by
  unfold knP
  rw [List.set_append_right _ _ (by simp [knS_length]), knS_length, Nat.sub_self, show F - k = (F - (k + 1)) + 1 by omega, List.replicate_succ, List.set_cons_zero, knS_succ]
  simp
theorem knS_row (s : Nat → Nat) (k : Nat) : ∀ i, (row (knS s k) i).length ≤ 1000 := by
  intro i
  by_cases h : i < k
  · have e : row (knS s k) i = bl (s i) 10 := by simp [row, knS, List.getD_eq_getElem?_getD, h]
    rw [e]; have := bl_le (s i) 10; omega
  · have e : row (knS s k) i = [] := by simp [row, knS, List.getD_eq_getElem?_getD, h]
    rw [e]; simp

theorem zero_slices (n : Nat) : (madeCells #[.slice none 0 0] (n * 1)).toList = List.replicate n (.slice none 0 0) := by
  rw [Nat.mul_one, toList_madeCells_one]
theorem OwnSS.fresh {w : World} {base g F : Nat} (h : w.ownsRow base 39 1 (.slice (some ⟨g, 0, none⟩) F F) F (List.replicate F (.slice none 0 0))) : OwnSS w base (.slice (some ⟨g, 0, none⟩) F F) (List.replicate F (.slice none 0 0)) (List.replicate F []) := by
  refine ⟨by simpa using h, by simp, fun i x l hx hl => ?_, fun i j x y b _ hx _ hb => ?_⟩
  · obtain ⟨_, rfl⟩ : i < F ∧ (.slice none 0 0 : Value) = x := by simpa [List.getElem?_replicate] using hx
    obtain ⟨_, rfl⟩ : i < F ∧ ([] : List Int) = l := by simpa [List.getElem?_replicate] using hl
    exact ⟨World.ownsRow_nil _ _ _ _, fun b hb => by cases hb⟩
  · obtain ⟨_, rfl⟩ : i < F ∧ (.slice none 0 0 : Value) = x := by simpa [List.getElem?_replicate] using hx
    cases hb

set_option maxRecDepth 20000 in
theorem implKnown_yes (w : World) (F : Nat) (ao : Option Addr) (cap : Nat) (l : List (Int × Int)) (n : Nat) (Hn : Hid (n = l.length)) (hs : n ≤ 60) (HHc : Hid (CallsAt w ao l)) (Hg : Hid (gdL (F : Int) l = true)) (hff : 1 ≤ (F : Int) ∧ (F : Int) ≤ 10) :
    Calls Try.prog 24 #[.int .i64 F, .slice ao n cap] w fun e w' => ∃ v X, e = .returned (.tuple #[v, .bool true]) ∧ OwnSS w' w.heap.size v X (knS (playL F l) F) ∧ Below w.heap.size w w' := by
  obtain ⟨i0, hi, hz0, hz1, hz2⟩ := info_parts info39
  have Hz := Lib.hid (And.intro hz0 (And.intro hz1 hz2))
  clear hz0 hz1 hz2
  go_enter Try.func24, Try.ntmps24
  go_wp2_with fail
  refine (areLetters_any F ao cap l n w Hn.out (by omega) HHc.out).mono ?_
  rintro e w1 ⟨rfl, hb1⟩
  rw [Hg.out]
  have hs1 := hb1.size
  go_wp2_with (refine wpList_make_full _ rfl _ _ 29 rfl w.heap.size 39 i0 (.slice none 0 0) 1 Try.underlying29 hi Hz.out.1 Hz.out.2.1 .i64 .i64 _ _ F rfl rfl rfl rfl ?_ ?_ ?_ ?_)
  · rw [Hz.out.2.2]; omega
  · unfold maxLen; omega
  · exact hs1
  intro w2 hown hgr
  have hown2 : w2.ownsRow w.heap.size 39 1 (.slice (some ⟨w1.heap.size, 0, none⟩) F F) F (List.replicate F (.slice none 0 0)) := by rw [← zero_slices]; simpa using hown
  have H0 := Lib.hid (OwnSS.fresh hown2)
  have hgl : w1.heap.size < w2.heap.size := (hown2.lt _ rfl).2
  have Hb2 := Lib.hid (hb1.grown hgr hs1 (fun _ h => by cases h))
  obtain ⟨g, hge⟩ : ∃ g, g = w1.heap.size := ⟨_, rfl⟩
  rw [← hge] at H0 hgl ⊢
  have hgw : w.heap.size ≤ g := by omega
  have Hc2 := Lib.hid (HHc.out.kept Hb2.out)
  have hs2 := Hb2.out.size
  clear hown hgr hown2 hb1 hge
  go_wp2_with fail
  refine (readersBehind_any F ao cap l n w2 Hn Hg.out Hc2.out).mono ?_
  rintro e w3 ⟨bs, hl, rfl, hr, hb3⟩
  have Hr := Lib.hid hr
  have H3 := Lib.hid (H0.out.later hb3)
  have Hb3 := Lib.hid (Hb2.out.trans (hb3.mono hs2))
  have hs3 := hb3.size
  clear hr hb3
  generalize w2.heap.size = B at *
  have hk0 : knP F (playL F l) 0 = List.replicate F [] := by simp [knP, knS]
  go_wp2_with fail
  go_loopw [19] (fun i wr => ∃ (k : Nat) (X : List Value), k ≤ F ∧ i = .int .i64 k ∧ OwnSS wr w.heap.size (.slice (some ⟨g, 0, none⟩) F F) X (knP F (playL F l) k) ∧ RdB wr B B F bs (playL F l) ∧ Below w.heap.size w wr ∧ B ≤ wr.heap.size) (fun i _ => F - (intOf i).toNat)
  case atStart => exact ⟨0, _, Nat.zero_le _, rfl, by rw [hk0]; exact H3.out, Hr.out, Hb3.out, hs3⟩
  case round =>
    obtain ⟨k, X, hk, rfl, hor, hrd, hbel, hBr⟩ := hrel
    by_cases hlt : k < F
    · have hsz := hbel.size
      have hc := hrd.cell k (by rw [hl]; exact hlt)
      have hset := (hrd.2.2 k (by rw [hl]; exact hlt)).2
      generalize bs[k]'(by rw [hl]; exact hlt) = xk at hc hset
      have Hkeys := Lib.hid (keys_any xk wr)
      have Hsort := Lib.hid (sorted_any xk (playL F l k) wr hset)
      have Hor := Lib.hid hor
      have Hrd := Lib.hid hrd
      have hp := bl_le (playL F l k) 10
      clear hor hrd hset
      go_wp2_with fail
      refine Hkeys.out.mono ?_
      rintro e w4 ⟨rfl, rfl⟩
      go_wp2_with fail
      refine Hsort.out.mono ?_
      rintro e w5 ⟨v5, rfl, own5, hb5⟩
      have Ho5 := Lib.hid (Hor.out.later hb5)
      have Hr5 := Lib.hid (Hrd.out.later hb5)
      have hbel5 : Below w.heap.size w w5 := hbel.trans (hb5.mono hsz)
      have hs5 := hb5.size
      obtain ⟨a5, c5, rfl, _⟩ := nums_shape own5 rfl
      have Hst := Lib.hid (Ho5.out.store (knP_length F _ k hk).symm k (by rw [knP_length F _ k hk]; exact hlt) _ _ (own_base (by omega) own5)
        (fun b hb => by have h1 := (own5.lt b hb).1; omega)
        (fun i y b hy hb e => by
          have h1 := (own5.lt b e).1
          have hX := (List.getElem?_eq_some_iff.1 hy).1
          have h2 := ((Hor.out.2.2.1 i y _ hy (List.getElem?_eq_getElem (by rw [← Hor.out.2.1]; exact hX))).1.lt b hb).2
          omega))
      rw [knP_set F _ k hlt] at Hst
      have Hr6 := Lib.hid (Hr5.out.low (grown_one w5 g k (.slice a5 (bl (playL F l k) 10).length c5)) (fun b hb => by cases hb; exact hgl))
      have hb6 := hbel5.setCell (p := ⟨g, k, none⟩) hgw (.slice a5 (bl (playL F l k) 10).length c5)
      have hrow5 := Ho5.out.1
      rw [knP_length F _ k hk] at hrow5
      obtain ⟨u0, z0⟩ := own_some hrow5 k (by rw [Nat.mul_one]; exact hlt)
      have zf0 := hrow5.frozenAt k
      clear own5 hb5 hrow5
      go_wp2_with fail
      go_roundw
      case rel => exact ⟨k + 1, _, by omega, by go_num, Hst.out, Hr6.out, hb6, by simpa using (Nat.le_trans hBr hs5)⟩
      case measure => simp [intOf]; omega
    · obtain rfl : k = F := by omega
      have e : knP k (playL k l) k = knS (playL k l) k := by simp [knP]
      rw [e] at hor
      have Hor := Lib.hid hor
      clear hor hlt hk e
      go_wp2_with fail
      go_ret2
      exact ⟨_, X, rfl, Hor.out, hbel⟩

end Go.Proofs.Ytolkfgjgnpjpkaa
