/- KnownAfter by the program. -/
import Derived.Test.YtffnmpmgnaephaaKnownS
namespace Go.Proofs.Ytffnmpmgnaephaa
open Go.ChangeShapes Go.WideShapes Go.ChangeAt Go.RowKit
set_option linter.unusedVariables false


theorem own_same {w w' : World} {base : Nat} {e : TypeId} {size : Nat} {v : Value} {n : Nat} {xs : List Value} (h : w.ownsRow base e size v n xs) (he : ∀ k, v.ownBlock = some k → w'.heap[k]? = w.heap[k]?) : w'.ownsRow base e size v n xs := by
  refine ⟨h.1, ?_⟩
  rcases h.2 with hn | ⟨g, cap, cur, rfl, hbg, hgg, rest⟩
  · exact .inl hn
  · exact .inr ⟨g, cap, cur, rfl, hbg, by rw [he g rfl]; exact hgg, rest⟩
theorem OwnSS.store {w : World} {base g n cap : Nat} {X : List Value} {L : List (List Int)} (h : OwnSS w base (.slice (some ⟨g, 0, none⟩) n cap) X L) (hn : n = L.length) (j : Nat) (hj : j < L.length) (x : Value) (l : List Int)
    (hx : w.ownsRow base 3 1 x l.length (ns l)) (hxv : ∀ b, x.ownBlock = some b → b ≠ g) (hxX : ∀ (i : Nat) (y : Value) (b : Nat), X[i]? = some y → y.ownBlock = some b → x.ownBlock ≠ some b) :
    OwnSS (w.setCell ⟨g, j, none⟩ x) base (.slice (some ⟨g, 0, none⟩) n cap) (X.set j x) (L.set j l) := by
  subst hn
  have hXL := h.2.1
  have far : ∀ k, k ≠ g → (w.setCell ⟨g, j, none⟩ x).heap[k]? = w.heap[k]? := fun k hk => Below.heap_setCell _ _ _ _ (by simpa using hk)
  have h5 := (h.1.stored j x).1
  refine ⟨by rw [List.length_set]; exact h5, by simp [hXL], fun i y m hy hm => ?_, fun i k y z b hik hy hz hb => ?_⟩
  · by_cases hij : i = j
    · subst hij
      rw [List.getElem?_set_self (by rw [hXL]; exact hj)] at hy
      rw [List.getElem?_set_self hj] at hm
      obtain rfl : x = y := by simpa using hy
      obtain rfl : l = m := by simpa using hm
      refine ⟨own_same hx (fun k hk => far k (hxv k hk)), fun b hb e => hxv b hb ?_⟩
      simpa [Value.ownBlock] using e.symm
    · rw [List.getElem?_set_ne (Ne.symm hij)] at hy hm
      obtain ⟨h1, h2⟩ := h.2.2.1 i y m hy hm
      refine ⟨own_same h1 (fun k hk => far k ?_), h2⟩
      intro e
      exact h2 k hk (by rw [e]; rfl)
  · by_cases hij : i = j
    · subst hij
      rw [List.getElem?_set_self (by have := (List.getElem?_eq_some_iff.1 hy).1; simpa using this)] at hy
      obtain rfl : x = y := by simpa using hy
      rw [List.getElem?_set_ne (by omega)] at hz
      intro e
      exact hxX k z b hz e hb
    · rw [List.getElem?_set_ne (Ne.symm hij)] at hy
      by_cases hkj : k = j
      · subst hkj
        rw [List.getElem?_set_self (by have := (List.getElem?_eq_some_iff.1 hz).1; simpa using this)] at hz
        obtain rfl : x = z := by simpa using hz
        exact hxX i y b hy hb
      · rw [List.getElem?_set_ne (Ne.symm hkj)] at hz
        exact h.2.2.2 i k y z b hik hy hz hb
theorem grown_one (w : World) (g o : Nat) (u : Value) : w.grownBy (w.setCell ⟨g, o, none⟩ u) (some g) := grown_set ⟨rfl, rfl, rfl, Nat.le_refl _, fun _ _ _ => rfl⟩ o u

theorem zero_slices (n : Nat) : (madeCells #[.slice none 0 0] (n * 1)).toList = List.replicate n (.slice none 0 0) := by
  rw [Nat.mul_one, toList_madeCells_one]
theorem OwnSS.fresh {w : World} {base g F : Nat} (h : w.ownsRow base 38 1 (.slice (some ⟨g, 0, none⟩) F F) F (List.replicate F (.slice none 0 0))) : OwnSS w base (.slice (some ⟨g, 0, none⟩) F F) (List.replicate F (.slice none 0 0)) (List.replicate F []) := by
  refine ⟨by simpa using h, by simp, fun i x l hx hl => ?_, fun i j x y b _ hx _ hb => ?_⟩
  · obtain ⟨_, rfl⟩ : i < F ∧ (.slice none 0 0 : Value) = x := by simpa [List.getElem?_replicate] using hx
    obtain ⟨_, rfl⟩ : i < F ∧ ([] : List Int) = l := by simpa [List.getElem?_replicate] using hl
    exact ⟨World.ownsRow_nil _ _ _ _, fun b hb => by cases hb⟩
  · obtain ⟨_, rfl⟩ : i < F ∧ (.slice none 0 0 : Value) = x := by simpa [List.getElem?_replicate] using hx
    cases hb

set_option maxRecDepth 20000 in

def knP (F : Nat) (l : List (Int × Int)) (k : Nat) : List (List Int) := kn F l k ++ List.replicate (F - k) []
theorem knP_length (F : Nat) (l : List (Int × Int)) (k : Nat) (h : k ≤ F) : (knP F l k).length = F := by simp [knP, kn_length]; omega
theorem knP_set (F : Nat) (l : List (Int × Int)) (k : Nat) (h : k < F) : (knP F l k).set k (bl (play F l k) 10) = knP F l (k + 1) := by
  unfold knP
  rw [List.set_append_right _ _ (by simp [kn_length]), kn_length, Nat.sub_self, show F - k = (F - (k + 1)) + 1 by omega, List.replicate_succ, List.set_cons_zero, kn_succ]
  simp


set_option maxRecDepth 20000 in
theorem lists_any (w : World) (F : Nat) (l : List (Int × Int)) (hff : F ≤ 10) :
    Calls Try.prog 46 #[.agg (KA F (play F l))] w fun e w' => ∃ v X, e = .returned v ∧ OwnSS w' w.heap.size v X (kn F l F) ∧ Below w.heap.size w w' := by
  obtain ⟨i0, hi, hz0, hz1, hz2⟩ := info_parts info38
  have Hz := Lib.hid (And.intro hz0 (And.intro hz1 hz2))
  clear hz0 hz1 hz2
  have hB0 : (w.alloc (.cells (KA F (play F l)) 57)).heap[w.heap.size]? = some (.cells (KA F (play F l)) 57 (0, 0)) := heap_alloc_new w _
  have hb0 : Below w.heap.size w (w.alloc (.cells (KA F (play F l)) 57)) := (Below.refl _ _).alloc (Nat.le_refl _) _
  have hc0 : (w.alloc (.cells (KA F (play F l)) 57)).cell? ⟨w.heap.size, 0, none⟩ = some (.int .i64 F) := by rw [cell_of_row _ _ 0 _ _ _ hB0, KA_zero]
  go_enter Try.func46, Try.ntmps46
  go_upto_region 1 with (fail)
  generalize hw3 : w.alloc (.cells (KA F (play F l)) 57) = w3 at hB0 hb0 hc0 ⊢
  have HB0 := Lib.hid hB0
  have HH0 := Lib.hid hb0
  have hs3 := hb0.size
  have hlt0 : w.heap.size < w3.heap.size := (Array.getElem?_eq_some_iff.1 hB0).1
  clear hB0 hb0 hw3
  go_wp2_with (refine wpList_make_full _ rfl _ _ 24 rfl w.heap.size 38 i0 (.slice none 0 0) 1 Try.underlying24 hi Hz.out.1 Hz.out.2.1 .i64 .i64 _ _ F rfl rfl rfl rfl ?_ ?_ ?_ ?_)
  · rw [Hz.out.2.2]; omega
  · unfold maxLen; omega
  · exact hs3
  intro w4 hown hgr
  have hown2 : w4.ownsRow w.heap.size 38 1 (.slice (some ⟨w3.heap.size, 0, none⟩) F F) F (List.replicate F (.slice none 0 0)) := by rw [← zero_slices]; simpa using hown
  have H0 := Lib.hid (OwnSS.fresh hown2)
  have hgl : w3.heap.size < w4.heap.size := (hown2.lt _ rfl).2
  have Hb4 := Lib.hid (HH0.out.grown hgr hs3 (fun _ h => by cases h))
  have hB4 : w4.heap[w.heap.size]? = some (.cells (KA F (play F l)) 57 (0, 0)) := (hgr.block _ hlt0 (by simp)).trans HB0.out
  have HB4 := Lib.hid hB4
  obtain ⟨g, hge⟩ : ∃ g, g = w3.heap.size := ⟨_, rfl⟩
  rw [← hge] at H0 hgl hlt0 ⊢
  have hgw : w.heap.size ≤ g := by omega
  obtain ⟨B, HBd⟩ : ∃ B, Hid (B = w.heap.size) := ⟨_, rfl⟩
  have HB4' : Hid (w4.heap[B]? = some (.cells (KA F (play F l)) 57 (0, 0))) := by show _ = _; rw [HBd.out]; exact hB4
  have hltB : B < g := by rw [HBd.out]; exact hlt0
  clear hown hgr hown2 hge hB4 hc0 HB4 hlt0
  have hk0 : knP F l 0 = List.replicate F [] := by simp [knP, kn]
  rw [← HBd.out]
  go_wp2_with fail
  go_loopw [10] (fun i wr => ∃ (k : Nat) (X : List Value), k ≤ F ∧ i = .int .i64 k ∧ OwnSS wr w.heap.size (.slice (some ⟨g, 0, none⟩) F F) X (knP F l k) ∧ wr.heap[B]? = some (.cells (KA F (play F l)) 57 (0, 0)) ∧ Below w.heap.size w wr) (fun i _ => F - (intOf i).toNat)
  case atStart => exact ⟨0, _, Nat.zero_le _, rfl, by rw [hk0]; exact H0.out, HB4'.out, Hb4.out⟩
  case round =>
    obtain ⟨k, X, hk, rfl, hor, hB, hbel⟩ := hrel
    by_cases hlt : k < F
    · have hsz := hbel.size
      have hc := cell_of_row wr B (1 + k) _ _ _ hB
      rw [KA_get _ _ k (by omega)] at hc
      have Hlist := Lib.hid (list_any (play F l k) wr (play_small F (by omega) l k))
      have Hor := Lib.hid hor
      have HB := Lib.hid hB
      have hBl : B < wr.heap.size := (Array.getElem?_eq_some_iff.1 hB).1
      have hp := bl_le (play F l k) 10
      have hk1 : (0 : Int) ≤ (k : Int) := by omega
      have hk2 : (k : Int) < 10 := by omega
      clear hor hB
      go_wp2_with fail
      refine Hlist.out.mono ?_
      rintro e w5 ⟨v5, rfl, own5, hb5⟩
      rw [← bl_length] at own5
      have Ho5 := Lib.hid (Hor.out.later hb5)
      have hB5 : w5.heap[B]? = some (.cells (KA F (play F l)) 57 (0, 0)) := (hb5.block _ hBl).trans HB.out
      have HB5 := Lib.hid hB5
      have hbel5 : Below w.heap.size w w5 := hbel.trans (hb5.mono hsz)
      have hgwr : g < wr.heap.size := (Hor.out.1.lt g rfl).2
      obtain ⟨a5, c5, rfl, _⟩ := nums_shape own5 rfl
      have Hst := Lib.hid (Ho5.out.store (knP_length F _ k hk).symm k (by rw [knP_length F _ k hk]; exact hlt) _ _ (own_base hsz own5)
        (fun b hb => by have h1 := (own5.lt b hb).1; omega)
        (fun i y b hy hb e => by
          have h1 := (own5.lt b e).1
          have hX := (List.getElem?_eq_some_iff.1 hy).1
          have h2 := ((Hor.out.2.2.1 i y _ hy (List.getElem?_eq_getElem (by rw [← Hor.out.2.1]; exact hX))).1.lt b hb).2
          omega))
      rw [knP_set F _ k hlt] at Hst
      have HB6 : Hid ((w5.setCell ⟨g, k, none⟩ (.slice a5 (bl (play F l k) 10).length c5)).heap[B]? = some (.cells (KA F (play F l)) 57 (0, 0))) := (Below.heap_setCell _ _ _ _ (by show B ≠ g; omega)).trans HB5.out
      have hb6 := hbel5.setCell (p := ⟨g, k, none⟩) hgw (.slice a5 (bl (play F l k) 10).length c5)
      have hrow5 := Ho5.out.1
      rw [knP_length F _ k hk] at hrow5
      obtain ⟨u0, z0⟩ := own_some hrow5 k (by rw [Nat.mul_one]; exact hlt)
      have zf0 := hrow5.frozenAt k
      clear own5 hb5 hrow5 hB5
      go_wp2_with fail
      go_roundw
      case rel => exact ⟨k + 1, _, by omega, by go_num, Hst.out, HB6.out, hb6⟩
      case measure => simp [intOf]; omega
    · obtain rfl : k = F := by omega
      have e : knP k l k = kn k l k := by simp [knP]
      rw [e] at hor
      have Hor := Lib.hid hor
      clear hor hlt hk e
      go_wp2_with fail
      go_ret
      exact ⟨_, X, rfl, Hor.out, hbel⟩

theorem OwnSS.lower {w : World} {b0 b1 : Nat} {v : Value} {X : List Value} {L : List (List Int)} (h : OwnSS w b1 v X L) (hb : b0 ≤ b1) : OwnSS w b0 v X L :=
  ⟨own_lower h.1 hb, h.2.1, fun i y r hy hr => ⟨own_lower (h.2.2.1 i y r hy hr).1 hb, (h.2.2.1 i y r hy hr).2⟩, h.2.2.2⟩

set_option maxRecDepth 20000 in
theorem implKnown_yes (w : World) (F : Nat) (ao : Option Addr) (cap : Nat) (l : List (Int × Int)) (n : Nat) (Hn : Hid (n = l.length)) (hs : n ≤ 60) (HHc : Hid (CallsAt w ao l)) (Hg : Hid (gdB (F : Int) l = true)) (hff : 1 ≤ (F : Int) ∧ (F : Int) ≤ 10) :
    Calls Try.prog 15 #[.int .i64 F, .slice ao n cap] w fun e w' => ∃ v X, e = .returned (.tuple #[v, .bool true]) ∧ OwnSS w' w.heap.size v X (kn F l F) ∧ Below w.heap.size w w' := by
  go_enter Try.func15, Try.ntmps15
  go_wp2_with fail
  refine (areCalls_any F ao cap l n w Hn.out (by omega) HHc.out).mono ?_
  rintro e w1 ⟨rfl, hb1⟩
  rw [Hg.out]
  go_wp2_with fail
  refine (knowledgeBehind_any F ao cap l n w1 Hn Hg.out (HHc.out.kept hb1)).mono ?_
  rintro e w2 ⟨rfl, hb⟩
  have hb2 : Below w.heap.size w w2 := hb1.trans (hb.mono hb1.size)
  have hs2 := hb2.size
  clear hb hb1
  go_wp2_with fail
  refine (lists_any w2 F l (by omega)).mono ?_
  rintro e w3 ⟨v, X, rfl, hor, hb3⟩
  have Hor := Lib.hid (hor.lower hs2)
  have hb : Below w.heap.size w w3 := hb2.trans (hb3.mono hs2)
  clear hor hb2 hb3
  go_wp2_with fail
  go_ret2
  exact ⟨_, X, rfl, Hor.out, hb⟩

def knownR (f : Int) (l : List (Int × Int)) : List (List Int) := if gdB f l then kn f.toNat l f.toNat else []
theorem kn_row (F : Nat) (l : List (Int × Int)) (k : Nat) : ∀ i, (row (kn F l k) i).length ≤ 1000 := by
  intro i
  by_cases h : i < k
  · have e : row (kn F l k) i = bl (play F l i) 10 := by simp [row, kn, List.getD_eq_getElem?_getD, h]
    rw [e]; have := bl_le (play F l i) 10; omega
  · have e : row (kn F l k) i = [] := by simp [row, kn, List.getD_eq_getElem?_getD, h]
    rw [e]; simp
theorem knownR_length (f : Int) (l : List (Int × Int)) : (knownR f l).length ≤ 1000 := by
  unfold knownR
  cases h : gdB f l
  · simp
  · have := gd_fr h
    rw [if_pos rfl, kn_length]; omega
theorem knownR_row (f : Int) (l : List (Int × Int)) : ∀ i, (row (knownR f l) i).length ≤ 1000 := by
  unfold knownR
  cases h : gdB f l
  · intro i; simp [row]
  · exact kn_row _ _ _

end Go.Proofs.Ytffnmpmgnaephaa
