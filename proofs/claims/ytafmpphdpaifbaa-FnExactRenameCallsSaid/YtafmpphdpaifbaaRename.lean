/- RenameCalls: the model and the program. -/
import Derived.Test.YtafmpphdpaifbaaNames
namespace Go.Proofs.Ytafmpphdpaifbaa
open Go.ChangeShapes Go.WideShapes Go.ChangeAt Go.RowKit
set_option linter.unusedVariables false

theorem l1Least_any (a b : Int) (w : World) : Calls Try.prog 26 #[.int .i64 a, .int .i64 b] w fun e w' => e = .returned (.int .i64 (min a b)) ∧ w = w' := by
  by_cases h : a < b
  · rw [show min a b = a by omega]
    go_enter Try.func26, Try.ntmps26
    go_wp2_with fail
    go_ret
    exact ⟨rfl, rfl⟩
  · rw [show min a b = b by omega]
    go_enter Try.func26, Try.ntmps26
    go_wp2_with fail
    go_ret
    exact ⟨rfl, rfl⟩

theorem l1Most_any (a b : Int) (w : World) : Calls Try.prog 27 #[.int .i64 a, .int .i64 b] w fun e w' => e = .returned (.int .i64 (max a b)) ∧ w = w' := by
  by_cases h : b < a
  · rw [show max a b = a by omega]
    go_enter Try.func27, Try.ntmps27
    go_wp2_with fail
    go_ret
    exact ⟨rfl, rfl⟩
  · rw [show max a b = b by omega]
    go_enter Try.func27, Try.ntmps27
    go_wp2_with fail
    go_ret
    exact ⟨rfl, rfl⟩

set_option maxRecDepth 20000 in
theorem caPair_any (a b : Int) (w : World) : Calls Try.prog 16 #[.int .i64 a, .int .i64 b] w fun e w' => e = .returned (.agg #[.int .i64 (min a b), .int .i64 (max a b)]) ∧ w.alloc (.cells #[.int .i64 (min a b), .int .i64 (max a b)] 38) = w' := by
  obtain ⟨x, hx⟩ : ∃ x, x = min a b := ⟨_, rfl⟩
  obtain ⟨y, hy⟩ : ∃ y, y = max a b := ⟨_, rfl⟩
  have Hx := Lib.hid hx.symm
  have Hy := Lib.hid hy.symm
  rw [← hx, ← hy]
  clear hx hy
  go_enter Try.func16, Try.ntmps16
  go_wp2_with (first
    | (go_at_call 26; refine (l1Least_any a b _).mono ?_; rintro e w' ⟨rfl, rfl⟩; rw [Hx.out])
    | (go_at_call 27; refine (l1Most_any a b _).mono ?_; rintro e w' ⟨rfl, rfl⟩; rw [Hy.out])
    | fail)
  exact bodyPost_ret (v := .agg #[.int .i64 x, .int .i64 y]) (by simp [results, Try.results16, go_sem]) rfl ⟨rfl, rfl⟩

theorem callOf_any (a b : Int) (w : World) : Calls Try.prog 20 #[.int .i64 a, .int .i64 b] w fun e w' => e = .returned (.agg #[.int .i64 (min a b), .int .i64 (max a b)]) ∧ w.alloc (.cells #[.int .i64 (min a b), .int .i64 (max a b)] 38) = w' := by
  rcases Int.lt_trichotomy a b with h | h | h
  · rw [show min a b = a by omega, show max a b = b by omega]
    exact callOf_less a b w h
  · subst h
    have h1 : min a a = a := by omega
    have h2 : max a a = a := by omega
    rw [h1, h2]
    go_enter Try.func20, Try.ntmps20
    go_wp2
    exact bodyPost_ret (v := .agg #[.int .i64 a, .int .i64 a]) (by simp [results, Try.results20, go_sem]) rfl ⟨rfl, rfl⟩
  · rw [show min a b = b by omega, show max a b = a by omega]
    exact callOf_more a b w h

def ren1 (m : List Int) (c : Int × Int) : Int × Int := (min (na m c.1.toNat) (na m c.2.toNat), max (na m c.1.toNat) (na m c.2.toNat))

def renB (f : Int) (l : List (Int × Int)) (m : List Int) : Bool := gdB f l && specNam f m

def renL (f : Int) (l : List (Int × Int)) (m : List Int) : List (Int × Int) := if renB f l m then l.map (ren1 m) else []

theorem renL_len (f : Int) (l : List (Int × Int)) (m : List Int) : (renL f l m).length ≤ 60 := by
  unfold renL
  cases h : renB f l m
  · simp
  · have := gd_len' (show gdB f l = true by simp [renB] at h; exact h.1)
    simpa using this

theorem ren_step (l : List (Int × Int)) (m : List Int) (n k : Nat) (hn : n = l.length) (h : k < n) :
    (l.map (ren1 m)).take (k + 1) = (l.map (ren1 m)).take k ++ [(min (na m (ca l k).toNat) (na m (cb l k).toNat), max (na m (ca l k).toNat) (na m (cb l k).toNat))] := by
  rw [List.take_succ_eq_append_getElem (by simp; omega), List.getElem_map, ca_cb _ _ (by omega)]
  rfl

theorem nam_len {f : Int} {m : List Int} (h : specNam f m = true) : (m.length : Int) = f := by
  unfold specNam at h
  simp only [Bool.and_eq_true, decide_eq_true_eq] at h
  exact h.1

theorem heap_third (w : World) (A B C : Obj) : (((w.alloc A).alloc B).alloc C).drew.heap[w.heap.size + 1 + 1]? = some C := by
  have h := heap_alloc_new ((w.alloc A).alloc B) C
  have hs : ((w.alloc A).alloc B).heap.size = w.heap.size + 1 + 1 := by simp
  rw [hs] at h
  exact h

theorem below_three {base : Nat} {w wr : World} (h : Below base w wr) (hs : base ≤ wr.heap.size) (A B C : Obj) : Below base w (((wr.alloc A).alloc B).alloc C).drew :=
  (((h.alloc hs A).alloc (by simp; omega) B).alloc (by simp; omega) C).drew

theorem cell_alloc {w : World} {p : Addr} {v : Value} (A : Obj) (h : w.cell? p = some v) : (w.alloc A).cell? p = some v := by
  rw [World.cell?_alloc_some _ _ _ (by simp [h])]; exact h

set_option maxRecDepth 20000 in
theorem specRename_no1 (w : World) (f : Int) (ao : Option Addr) (cap : Nat) (l : List (Int × Int)) (n : Nat) (Hn : Hid (n = l.length)) (hs : n ≤ 1048576) (Hc : CallsAt w ao l) (hg : gdB f l = false) (bo : Option Addr) (cap2 n2 : Nat) :
    Calls Try.prog 5 #[.int .i64 f, .slice ao n cap, .slice bo n2 cap2] w fun e w' => ∃ v, e = .returned (.tuple #[v, .bool false]) ∧ w'.ownsRow w.heap.size 38 2 v 0 (cs []) ∧ Below w.heap.size w w' := by
  have HHc := Lib.hid Hc
  have Hg := Lib.hid hg
  clear hg Hc
  go_enter Try.func5, Try.ntmps5
  go_wp2_with fail
  refine (caGood_any f ao cap l n w Hn.out (by omega) HHc.out).mono ?_
  rintro e w1 ⟨rfl, hb⟩
  have Hown1 := Lib.hid (World.ownsRow_nil w1 w.heap.size 38 2)
  rw [Hg.out]
  go_wp2_with fail
  go_ret2
  exact ⟨_, rfl, Hown1.out, hb⟩

set_option maxRecDepth 20000 in
theorem specRename_no2 (w : World) (f : Int) (ao : Option Addr) (cap : Nat) (l : List (Int × Int)) (n : Nat) (Hn : Hid (n = l.length)) (hs : n ≤ 1048576) (Hc : CallsAt w ao l) (hg : gdB f l = true)
    (bo : Option Addr) (cap2 : Nat) (m : List Int) (n2 : Nat) (Hm : Hid (n2 = m.length)) (hs2 : n2 ≤ 1048576) (hcap2 : n2 ≤ cap2) (Hd : NumsAt w bo m) (hm : specNam f m = false) :
    Calls Try.prog 5 #[.int .i64 f, .slice ao n cap, .slice bo n2 cap2] w fun e w' => ∃ v, e = .returned (.tuple #[v, .bool false]) ∧ w'.ownsRow w.heap.size 38 2 v 0 (cs []) ∧ Below w.heap.size w w' := by
  have hff := Lib.hid (gd_fr hg)
  have HHc := Lib.hid Hc
  have HHd := Lib.hid Hd
  have Hg := Lib.hid hg
  have HM := Lib.hid hm
  clear hg Hc Hd hm
  go_enter Try.func5, Try.ntmps5
  go_wp2_with fail
  refine (caGood_any f ao cap l n w Hn.out (by omega) HHc.out).mono ?_
  rintro e w1 ⟨rfl, hb⟩
  rw [Hg.out]
  go_wp2_with fail
  refine (caNames_any bo cap2 m n2 f w1 Hm hs2 hcap2 hff.out.1 hff.out.2 (HHd.out.kept hb)).mono ?_
  rintro e w' ⟨rfl, rfl⟩
  rw [HM.out]
  have Hown1 := Lib.hid (World.ownsRow_nil w1 w.heap.size 38 2)
  go_wp2_with fail
  go_ret2
  exact ⟨_, rfl, Hown1.out, hb⟩

set_option maxRecDepth 20000 in
theorem specRename_yes (w : World) (f : Int) (b off : Nat) (cap : Nat) (l : List (Int × Int)) (n : Nat) (Hn : Hid (n = l.length)) (h0 : 0 < n) (hs : n ≤ 60)
    (Hc : Hid (∀ i, i < n → w.cell? ⟨b, off + i * 2, none⟩ = some (.int .i64 (ca l i)) ∧ w.cell? ⟨b, off + i * 2 + 1, none⟩ = some (.int .i64 (cb l i)))) (hg : gdB f l = true)
    (b2 off2 cap2 : Nat) (m : List Int) (n2 : Nat) (Hm : Hid (n2 = m.length)) (hs2 : n2 ≤ 10) (hcap2 : n2 ≤ cap2)
    (Hd : Hid (∀ i, i < n2 → w.cell? ⟨b2, off2 + i, none⟩ = some (.int .i64 (na m i)))) (hm : specNam f m = true) :
    Calls Try.prog 5 #[.int .i64 f, .slice (some ⟨b, off, none⟩) n cap, .slice (some ⟨b2, off2, none⟩) n2 cap2] w fun e w' => ∃ v, e = .returned (.tuple #[v, .bool true]) ∧ w'.ownsRow w.heap.size 38 2 v n (cs (l.map (ren1 m))) ∧ Below w.heap.size w w' := by
  obtain ⟨i0, hi, hz0, hz1, hz2⟩ := info_parts info38
  have hff := Lib.hid (gd_fr hg)
  have hfm : Hid (f = (n2 : Int)) := by have := nam_len hm; rw [← Hm.out] at this; exact this.symm
  have Hcal : Hid (∀ i, i < n → 0 ≤ ca l i ∧ ca l i < cb l i ∧ cb l i < f) := fun i h => gd_call hg (by rw [← Hn.out]; exact h)
  have Hg := Lib.hid hg
  have HM := Lib.hid hm
  clear hg hm
  have HA : CallsAt w (some ⟨b, off, none⟩) l := .inr ⟨b, off, rfl, by rw [← Hn.out]; exact Hc.out⟩
  have HB : NumsAt w (some ⟨b2, off2, none⟩) m := .inr ⟨b2, off2, rfl, by rw [← Hm.out]; exact Hd.out⟩
  have HHA := Lib.hid HA
  have HHB := Lib.hid HB
  clear HA HB
  go_enter Try.func5, Try.ntmps5
  go_wp2_with fail
  refine (caGood_any f _ cap l n w Hn.out (by omega) HHA.out).mono ?_
  rintro e w1 ⟨rfl, hb1⟩
  rw [Hg.out]
  go_wp2_with fail
  refine (caNames_any _ cap2 m n2 f w1 Hm (by omega) hcap2 hff.out.1 hff.out.2 (HHB.out.kept hb1)).mono ?_
  rintro e w' ⟨rfl, rfl⟩
  rw [HM.out]
  have Hb1 := Lib.hid hb1
  clear hb1
  go_wp2_with fail
  go_loopw [8, 23] (fun v i wr => ∃ k : Nat, k ≤ n ∧ i = .int .i64 k ∧ wr.ownsRow w.heap.size 38 2 v k (cs ((l.map (ren1 m)).take k)) ∧ Below w.heap.size w wr) (fun _ i _ => n - (intOf i).toNat)
  case atStart => exact ⟨0, Nat.zero_le _, rfl, by simpa [cs] using World.ownsRow_nil w1 w.heap.size 38 2, Hb1.out⟩
  case round =>
    obtain ⟨k, hk, rfl, hor, hbel⟩ := hrel
    by_cases hlt : k < n
    · have hsz := hbel.size
      have Hstep := Lib.hid (ren_step l m n k Hn.out hlt)
      obtain ⟨x, hx⟩ : ∃ x : Nat, (x : Int) = ca l k := ⟨(ca l k).toNat, by have := Hcal.out k hlt; omega⟩
      obtain ⟨y, hy⟩ : ∃ y : Nat, (y : Int) = cb l k := ⟨(cb l k).toNat, by have := Hcal.out k hlt; omega⟩
      have hxn : x < n2 := by have := Hcal.out k hlt; have := hfm.out; omega
      have hyn : y < n2 := by have := Hcal.out k hlt; have := hfm.out; omega
      rw [← hx, ← hy, Int.toNat_natCast, Int.toNat_natCast] at Hstep
      have hz0' := hbel.cell (p := ⟨b, off + k * 2, none⟩) (World.block_lt_of_cell? w _ (Hc.out k hlt).1)
      have hz1' := hbel.cell (p := ⟨b, off + k * 2 + 1, none⟩) (World.block_lt_of_cell? w _ (Hc.out k hlt).2)
      rw [(Hc.out k hlt).1, ← hx] at hz0'
      rw [(Hc.out k hlt).2, ← hy] at hz1'
      have hd0 := hbel.cell (p := ⟨b2, off2 + x, none⟩) (World.block_lt_of_cell? w _ (Hd.out x hxn))
      have hd1 := hbel.cell (p := ⟨b2, off2 + y, none⟩) (World.block_lt_of_cell? w _ (Hd.out y hyn))
      rw [Hd.out x hxn] at hd0
      rw [Hd.out y hyn] at hd1
      clear hx hy
      have Hor := Lib.hid hor
      clear hor
      have hx0 : (0 : Int) ≤ (x : Int) := by omega
      have hx1 : (x : Int) < (n2 : Int) := by omega
      have hy0 : (0 : Int) ≤ (y : Int) := by omega
      have hy1 : (y : Int) < (n2 : Int) := by omega
      have hb2 : b2 < w.heap.size := World.block_lt_of_cell? w _ (Hd.out x hxn)
      have far2 : u8.ownBlock ≠ some b2 := fun h => by have := (Hor.out.lt _ h).1; omega
      have far1 : u8.ownBlock ≠ some wr.heap.size := fun h => by have := (Hor.out.lt _ h).2; omega
      have Far := Lib.hid (And.intro far1 far2)
      have Hbel := Lib.hid hbel
      have hlt2 : b2 < wr.heap.size := by omega
      have hne : b2 ≠ wr.heap.size := by omega
      have hne1 : b2 ≠ wr.heap.size + 1 := by omega
      have hne2 : b2 ≠ wr.heap.size + 2 := by omega
      have hne3 : b2 ≠ wr.heap.size + 3 := by omega
      have hd0a := fun A => cell_alloc A hd0
      have hd1a := fun A => cell_alloc A hd1
      have hd0b := fun A B => cell_alloc B (cell_alloc A hd0)
      have hd1b := fun A B => cell_alloc B (cell_alloc A hd1)
      clear far1 far2 hbel
      go_wp2_with fail
      go_region_held3 (fun w' => w'.cell? ⟨wr.heap.size, 0, none⟩ = some (.int .i64 x) ∧ w'.cell? ⟨wr.heap.size, 1, none⟩ = some (.int .i64 y) ∧ w'.cell? ⟨b2, off2 + x, none⟩ = some (.int .i64 (na m x)) ∧ w'.cell? ⟨b2, off2 + y, none⟩ = some (.int .i64 (na m y)))
        (first
          | go_keep
          | (go_split_ands
             refine ⟨?_, ?_, ?_, ?_⟩
             · (rw [hgrow.cell_far _ (by simp; omega) (Ne.symm Far.out.1)]; assumption)
             · (rw [hgrow.cell_far _ (by simp; omega) (Ne.symm Far.out.1)]; assumption)
             · (rw [hgrow.cell_far _ (by simp; omega) (Ne.symm Far.out.2)]; assumption)
             · (rw [hgrow.cell_far _ (by simp; omega) (Ne.symm Far.out.2)]; assumption)))
        (first
          | (go_at_call 16; refine (caPair_any (na m x) (na m y) _).mono ?_; rintro e w' ⟨rfl, rfl⟩)
          | (refine step_append_lies _ (by rfl) _ _ _ (by rfl) w.heap.size 38 i0 _ 2 16 Try.underlying25 hi hz0 hz1 hz2 rfl (by omega) u8 k _ (by rfl) ((((Hor.out.alloc _).alloc _).alloc _).drew)
              ⟨wr.heap.size + 1 + 1, 0, none⟩ 1 1 [.int .i64 (min (na m x) (na m y)), .int .i64 (max (na m x) (na m y))] (by rfl) (by rfl) (World.news_of_block (cs := #[.int .i64 (min (na m x) (na m y)), .int .i64 (max (na m x) (na m y))]) (t := 38) (fr := (0, 0)) (heap_third _ _ _ _)) (by intro u hu; simp at hu; rcases hu with rfl | rfl <;> rfl)
              (by omega) (by unfold maxLen; omega) (by omega) (by simp; omega) (wr.heap.size + 1 + 1 + 1) (by simp) ?_; intro gg cap3 w9 hown1 hgrow hat hlt9)
          | fail)
      have Hown := Lib.hid hown1
      have Hb9 := Lib.hid ((below_three Hbel.out hsz _ _ _).grown hgrow (by simp; omega) (fun b hb => (Hor.out.lt b hb).1))
      clear hown1 hgrow hat hlt9
      go_wp2_with fail
      go_roundw
      case rel => exact ⟨k + 1, by omega, by go_num, by rw [Hstep.out, cs_append]; exact Hown.out, Hb9.out⟩
      case measure => first | (simp [intOf]; done) | (simp [intOf]; omega)
    · obtain rfl : k = n := by omega
      have e : (l.map (ren1 m)).take k = l.map (ren1 m) := List.take_of_length_le (by simp [← Hn.out])
      rw [e] at hor
      have Hor := Lib.hid hor
      clear hor e hlt hk
      go_wp2_with fail
      go_ret2
      exact ⟨_, rfl, Hor.out, hbel⟩

set_option maxRecDepth 20000 in
theorem specRename_nil (w : World) (f : Int) (ao : Option Addr) (cap : Nat) (hg : gdB f [] = true)
    (bo : Option Addr) (cap2 : Nat) (m : List Int) (n2 : Nat) (Hm : Hid (n2 = m.length)) (hs2 : n2 ≤ 1048576) (hcap2 : n2 ≤ cap2) (Hd : NumsAt w bo m) (hm : specNam f m = true) :
    Calls Try.prog 5 #[.int .i64 f, .slice ao 0 cap, .slice bo n2 cap2] w fun e w' => ∃ v, e = .returned (.tuple #[v, .bool true]) ∧ w'.ownsRow w.heap.size 38 2 v 0 (cs []) ∧ Below w.heap.size w w' := by
  have hff := Lib.hid (gd_fr hg)
  have HHd := Lib.hid Hd
  have Hg := Lib.hid hg
  have HM := Lib.hid hm
  clear hg Hd hm
  go_enter Try.func5, Try.ntmps5
  go_wp2_with fail
  refine (caGood_any f ao cap [] 0 w rfl (by omega) (.inl rfl)).mono ?_
  rintro e w1 ⟨rfl, hb⟩
  rw [Hg.out]
  go_wp2_with fail
  refine (caNames_any bo cap2 m n2 f w1 Hm hs2 hcap2 hff.out.1 hff.out.2 (HHd.out.kept hb)).mono ?_
  rintro e w' ⟨rfl, rfl⟩
  rw [HM.out]
  have Hown1 := Lib.hid (World.ownsRow_nil w1 w.heap.size 38 2)
  go_wp2_with fail
  go_rounds 1
  go_ret2
  exact ⟨_, rfl, Hown1.out, hb⟩

theorem specRename_any (w : World) (f : Int) (ao : Option Addr) (cap : Nat) (l : List (Int × Int)) (n : Nat) (Hn : Hid (n = l.length)) (hs : n ≤ 1048576) (Hc : CallsAt w ao l) (hcap : n ≤ cap)
    (bo : Option Addr) (cap2 : Nat) (m : List Int) (n2 : Nat) (Hm : Hid (n2 = m.length)) (hs2 : n2 ≤ 1048576) (Hd : NumsAt w bo m) (hcap2 : n2 ≤ cap2) :
    Calls Try.prog 5 #[.int .i64 f, .slice ao n cap, .slice bo n2 cap2] w fun e w' => ∃ v, e = .returned (.tuple #[v, .bool (renB f l m)]) ∧ w'.ownsRow w.heap.size 38 2 v (renL f l m).length (cs (renL f l m)) ∧ Below w.heap.size w w' := by
  cases hg : gdB f l
  · rw [show renB f l m = false by simp [renB, hg], show renL f l m = [] by simp [renL, renB, hg]]
    exact specRename_no1 w f ao cap l n Hn hs Hc hg bo cap2 n2
  · cases hm : specNam f m
    · rw [show renB f l m = false by simp [renB, hm], show renL f l m = [] by simp [renL, renB, hm]]
      exact specRename_no2 w f ao cap l n Hn hs Hc hg bo cap2 m n2 Hm hs2 hcap2 Hd hm
    · rw [show renB f l m = true by simp [renB, hg, hm], show renL f l m = l.map (ren1 m) by simp [renL, renB, hg, hm], List.length_map, ← Hn.out]
      have hff := gd_fr hg
      have hml := nam_len hm
      by_cases h0 : n = 0
      · subst h0
        have : l = [] := List.eq_nil_of_length_eq_zero Hn.out.symm
        subst this
        exact specRename_nil w f ao cap hg bo cap2 m n2 Hm hs2 hcap2 Hd hm
      · rcases Hc with rfl | ⟨b, off, rfl, hc⟩
        · exact absurd Hn.out h0
        · rcases Hd with rfl | ⟨b2, off2, rfl, hd⟩
          · simp at hml; omega
          · exact specRename_yes w f b off cap l n Hn (by omega) (by rw [Hn.out]; exact gd_len' hg) (by rw [Hn.out]; exact hc) hg b2 off2 cap2 m n2 Hm (by rw [Hm.out]; omega) hcap2 (by rw [Hm.out]; exact hd) hm

theorem cell_set2 {w : World} (g j : Nat) (V V' : Value) {p : Addr} {v : Value} (h : w.cell? p = some v) (hne : p.block ≠ g) : ((w.setCell ⟨g, j, none⟩ V).setCell ⟨g, j + 1, none⟩ V').cell? p = some v := by
  rw [World.cell?_setCell_far _ _ _ _ (Ne.symm hne), World.cell?_setCell_far _ _ _ _ (Ne.symm hne)]; exact h

theorem loc_set2 (w : World) (g j : Nat) (V V' u v : Value) : (((w.setCell ⟨g, j, none⟩ V).setCell ⟨g, j + 1, none⟩ V').alloc (.cells #[u, v] 38)).cell? ⟨w.heap.size, 0, none⟩ = some u ∧ (((w.setCell ⟨g, j, none⟩ V).setCell ⟨g, j + 1, none⟩ V').alloc (.cells #[u, v] 38)).cell? ⟨w.heap.size, 1, none⟩ = some v := by
  have h := heap_alloc_new ((w.setCell ⟨g, j, none⟩ V).setCell ⟨g, j + 1, none⟩ V') (.cells #[u, v] 38)
  have hs : ((w.setCell ⟨g, j, none⟩ V).setCell ⟨g, j + 1, none⟩ V').heap.size = w.heap.size := by simp
  rw [hs] at h
  exact ⟨by rw [cell_of_row _ _ _ _ _ _ h]; rfl, by rw [cell_of_row _ _ _ _ _ _ h]; rfl⟩

theorem ren_ca (l : List (Int × Int)) (m : List Int) (k : Nat) (h : k < l.length) : (ca (l.map (ren1 m)) k, cb (l.map (ren1 m)) k) = (min (na m (ca l k).toNat) (na m (cb l k).toNat), max (na m (ca l k).toNat) (na m (cb l k).toNat)) := by
  rw [← ca_cb (l.map (ren1 m)) k (by simpa using h), List.getElem_map, ca_cb _ _ h]
  rfl

set_option maxRecDepth 20000 in
theorem implRename_yes (w : World) (f : Int) (b off : Nat) (cap : Nat) (l : List (Int × Int)) (n : Nat) (Hn : Hid (n = l.length)) (h0 : 0 < n) (hs : n ≤ 60)
    (Hc : Hid (∀ i, i < n → w.cell? ⟨b, off + i * 2, none⟩ = some (.int .i64 (ca l i)) ∧ w.cell? ⟨b, off + i * 2 + 1, none⟩ = some (.int .i64 (cb l i)))) (hg : gdB f l = true)
    (b2 off2 cap2 : Nat) (m : List Int) (n2 : Nat) (Hm : Hid (n2 = m.length)) (hs2 : n2 ≤ 10) (_hcap2 : n2 ≤ cap2)
    (Hd : Hid (∀ i, i < n2 → w.cell? ⟨b2, off2 + i, none⟩ = some (.int .i64 (na m i)))) (hm : specNam f m = true) :
    Calls Try.prog 8 #[.int .i64 f, .slice (some ⟨b, off, none⟩) n cap, .slice (some ⟨b2, off2, none⟩) n2 cap2] w fun e w' => ∃ v, e = .returned (.tuple #[v, .bool true]) ∧ w'.ownsRow w.heap.size 38 2 v n (cs (l.map (ren1 m))) ∧ Below w.heap.size w w' := by
  obtain ⟨i0, hi, hz0, hz1, hz2⟩ := info_parts info38
  have Hz := Lib.hid (And.intro hz0 (And.intro hz1 hz2))
  clear hz0 hz1 hz2
  have hff := Lib.hid (gd_fr hg)
  have hfm : Hid (f = (n2 : Int)) := by have := nam_len hm; rw [← Hm.out] at this; exact this.symm
  have Hcal : Hid (∀ i, i < n → 0 ≤ ca l i ∧ ca l i < cb l i ∧ cb l i < f) := fun i h => gd_call hg (by rw [← Hn.out]; exact h)
  have Hg := Lib.hid hg
  have HM := Lib.hid hm
  clear hg hm
  have HA : CallsAt w (some ⟨b, off, none⟩) l := .inr ⟨b, off, rfl, by rw [← Hn.out]; exact Hc.out⟩
  have HB : NumsAt w (some ⟨b2, off2, none⟩) m := .inr ⟨b2, off2, rfl, by rw [← Hm.out]; exact Hd.out⟩
  have HHA := Lib.hid HA
  have HHB := Lib.hid HB
  clear HA HB
  go_enter Try.func8, Try.ntmps8
  go_wp2_with fail
  refine (areCalls_any f _ cap l n w Hn.out (by omega) HHA.out).mono ?_
  rintro e w1 ⟨rfl, hb1⟩
  rw [Hg.out]
  go_wp2_with fail
  refine (nameAll_any _ cap2 m n2 f w1 Hm (by omega) hff.out.1 hff.out.2 (HHB.out.kept hb1)).mono ?_
  rintro e w' ⟨rfl, rfl⟩
  rw [HM.out]
  have hs1 := hb1.size
  go_wp2_with (refine wpList_make_full _ rfl _ _ 25 rfl w.heap.size 38 i0 (.agg #[.int .i64 0, .int .i64 0]) 2 Try.underlying25 hi Hz.out.1 Hz.out.2.1 .i64 .i64 _ _ n rfl rfl rfl rfl ?_ ?_ ?_ ?_)
  · rw [Hz.out.2.2]; omega
  · unfold maxLen; omega
  · exact hs1
  intro w2 hown hgr
  rw [zero_cells] at hown
  have Hown0 := Lib.hid hown
  have Hb2 := Lib.hid (hb1.grown hgr hs1 (fun _ h => by cases h))
  obtain ⟨g, hg⟩ : ∃ g, g = w1.heap.size := ⟨_, rfl⟩
  rw [← hg] at hown hs1 Hown0 ⊢
  clear hown hgr hb1 hg
  go_wp2_with fail
  go_loopw [26] (fun i wr => ∃ k : Nat, k ≤ n ∧ i = .int .i64 k ∧ wr.ownsRow w.heap.size 38 2 (.slice (some ⟨g, 0, none⟩) n n) n (cs (part (l.map (ren1 m)) k)) ∧ Below w.heap.size w wr) (fun i _ => n - (intOf i).toNat)
  case atStart => exact ⟨0, Nat.zero_le _, rfl, by rw [part_zero, List.length_map, ← Hn.out]; exact Hown0.out, Hb2.out⟩
  case round =>
    obtain ⟨k, hk, rfl, hor, hbel⟩ := hrel
    by_cases hlt : k < n
    · have hsz := hbel.size
      obtain ⟨x, hx⟩ : ∃ x : Nat, (x : Int) = ca l k := ⟨(ca l k).toNat, by have := Hcal.out k hlt; omega⟩
      obtain ⟨y, hy⟩ : ∃ y : Nat, (y : Int) = cb l k := ⟨(cb l k).toNat, by have := Hcal.out k hlt; omega⟩
      have hxn : x < n2 := by have := Hcal.out k hlt; have := hfm.out; omega
      have hyn : y < n2 := by have := Hcal.out k hlt; have := hfm.out; omega
      have hset := part_set (l.map (ren1 m)) k (by rw [List.length_map, ← Hn.out]; exact hlt)
      rw [ren_ca l m k (by rw [← Hn.out]; exact hlt), ← hx, ← hy, Int.toNat_natCast, Int.toNat_natCast] at hset
      have hz0' := hbel.cell (p := ⟨b, off + k * 2, none⟩) (World.block_lt_of_cell? w _ (Hc.out k hlt).1)
      have hz1' := hbel.cell (p := ⟨b, off + k * 2 + 1, none⟩) (World.block_lt_of_cell? w _ (Hc.out k hlt).2)
      rw [(Hc.out k hlt).1, ← hx] at hz0'
      rw [(Hc.out k hlt).2, ← hy] at hz1'
      have hd0 := hbel.cell (p := ⟨b2, off2 + x, none⟩) (World.block_lt_of_cell? w _ (Hd.out x hxn))
      have hd1 := hbel.cell (p := ⟨b2, off2 + y, none⟩) (World.block_lt_of_cell? w _ (Hd.out y hyn))
      rw [Hd.out x hxn] at hd0
      rw [Hd.out y hyn] at hd1
      clear hx hy
      have hgs : g < wr.heap.size := (hor.lt _ rfl).2
      obtain ⟨u0, z0⟩ := own_some hor (k * 2) (by omega)
      obtain ⟨u1, z1⟩ := own_some hor (k * 2 + 1) (by omega)
      have zf0 := hor.frozenAt (k * 2)
      have zf1 := hor.frozenAt (k * 2 + 1)
      have hor3 := own_set2 hor k (min (na m x) (na m y)) (max (na m x) (na m y))
      rw [hset] at hor3
      have Hor3 := Lib.hid hor3
      clear hor3 hor hset
      have hb2 : b2 < w.heap.size := World.block_lt_of_cell? w _ (Hd.out x hxn)
      have Hbel := Lib.hid hbel
      have hx0 : (0 : Int) ≤ (x : Int) := by omega
      have hx1 : (x : Int) < (n2 : Int) := by omega
      have hy0 : (0 : Int) ≤ (y : Int) := by omega
      have hy1 : (y : Int) < (n2 : Int) := by omega
      have hk0 : (0 : Int) ≤ (k : Int) := by omega
      have hk1 : (k : Int) < (n : Int) := by omega
      have hlt2 : b2 < wr.heap.size := by omega
      have hne : b2 ≠ wr.heap.size := by omega
      have hne1 : b2 ≠ wr.heap.size + 1 := by omega
      have hgn : g ≠ b2 := by omega
      have hgn0 : g ≠ wr.heap.size := by omega
      have hgn1 : g ≠ wr.heap.size + 1 := by omega
      have hd0a := fun A => cell_alloc A hd0
      have hd1a := fun A => cell_alloc A hd1
      have hd0b := fun A B => cell_alloc B (cell_alloc A hd0)
      have hd1b := fun A B => cell_alloc B (cell_alloc A hd1)
      have e0 := fun V V' => cell_set2 g (k * 2) V V' hd0 (Ne.symm hgn)
      have e1 := fun V V' => cell_set2 g (k * 2) V V' hd1 (Ne.symm hgn)
      have e0a := fun V V' A => cell_alloc A (cell_set2 g (k * 2) V V' hd0 (Ne.symm hgn))
      have e1a := fun V V' A => cell_alloc A (cell_set2 g (k * 2) V V' hd1 (Ne.symm hgn))
      have e0b := fun V V' A B => cell_alloc B (cell_alloc A (cell_set2 g (k * 2) V V' hd0 (Ne.symm hgn)))
      have e1b := fun V V' A B => cell_alloc B (cell_alloc A (cell_set2 g (k * 2) V V' hd1 (Ne.symm hgn)))
      have e2 := fun V V' => loc_set2 wr g (k * 2) V V' (.int .i64 x) (.int .i64 y)
      have z0a := fun A => cell_alloc A z0
      have z1a := fun A => cell_alloc A z1
      have z0b := fun A B => cell_alloc B (cell_alloc A z0)
      have z1b := fun A B => cell_alloc B (cell_alloc A z1)
      clear hbel
      go_wp2_with fail
      go_region_held3 (fun w' => w'.cell? ⟨wr.heap.size, 0, none⟩ = some (.int .i64 x) ∧ w'.cell? ⟨wr.heap.size, 1, none⟩ = some (.int .i64 y) ∧ w'.cell? ⟨b2, off2 + x, none⟩ = some (.int .i64 (na m x)) ∧ w'.cell? ⟨b2, off2 + y, none⟩ = some (.int .i64 (na m y)))
        (first
          | go_keep
          | fail)
        (first
          | (go_at_call 20; refine (callOf_any (na m x) (na m y) _).mono ?_; rintro e w' ⟨rfl, rfl⟩)
          | fail)
      rename_i hS
      clear hS
      go_wp2_with fail
      go_roundw
      case rel => exact ⟨k + 1, by omega, by go_num, ((Hor3.out.alloc _).alloc _).drew, (((((Hbel.out.setCell (p := ⟨g, k * 2, none⟩) hs1 _).setCell (p := ⟨g, k * 2 + 1, none⟩) hs1 _).alloc (by simp; omega) _).alloc (by simp; omega) _)).drew⟩
      case measure => simp [intOf]; omega
    · obtain rfl : k = n := by omega
      have e : part (l.map (ren1 m)) k = l.map (ren1 m) := by have := part_all (l.map (ren1 m)); rwa [List.length_map, ← Hn.out] at this
      rw [e] at hor
      have Hor := Lib.hid hor
      clear hor e hlt hk
      go_wp2_with fail
      go_ret2
      exact ⟨_, rfl, Hor.out, hbel⟩

set_option maxRecDepth 20000 in
theorem implRename_no1 (w : World) (f : Int) (ao : Option Addr) (cap : Nat) (l : List (Int × Int)) (n : Nat) (Hn : Hid (n = l.length)) (hs : n ≤ 1048576) (Hc : CallsAt w ao l) (hg : gdB f l = false) (bo : Option Addr) (cap2 n2 : Nat) :
    Calls Try.prog 8 #[.int .i64 f, .slice ao n cap, .slice bo n2 cap2] w fun e w' => ∃ v, e = .returned (.tuple #[v, .bool false]) ∧ w'.ownsRow w.heap.size 38 2 v 0 (cs []) ∧ Below w.heap.size w w' := by
  have HHc := Lib.hid Hc
  have Hg := Lib.hid hg
  clear hg Hc
  go_enter Try.func8, Try.ntmps8
  go_wp2_with fail
  refine (areCalls_any f ao cap l n w Hn.out (by omega) HHc.out).mono ?_
  rintro e w1 ⟨rfl, hb⟩
  have Hown1 := Lib.hid (World.ownsRow_nil w1 w.heap.size 38 2)
  rw [Hg.out]
  go_wp2_with fail
  go_ret2
  exact ⟨_, rfl, Hown1.out, hb⟩

set_option maxRecDepth 20000 in
theorem implRename_no2 (w : World) (f : Int) (ao : Option Addr) (cap : Nat) (l : List (Int × Int)) (n : Nat) (Hn : Hid (n = l.length)) (hs : n ≤ 1048576) (Hc : CallsAt w ao l) (hg : gdB f l = true)
    (bo : Option Addr) (cap2 : Nat) (m : List Int) (n2 : Nat) (Hm : Hid (n2 = m.length)) (hs2 : n2 ≤ 1048576) (_hcap2 : n2 ≤ cap2) (Hd : NumsAt w bo m) (hm : specNam f m = false) :
    Calls Try.prog 8 #[.int .i64 f, .slice ao n cap, .slice bo n2 cap2] w fun e w' => ∃ v, e = .returned (.tuple #[v, .bool false]) ∧ w'.ownsRow w.heap.size 38 2 v 0 (cs []) ∧ Below w.heap.size w w' := by
  have hff := Lib.hid (gd_fr hg)
  have HHc := Lib.hid Hc
  have HHd := Lib.hid Hd
  have Hg := Lib.hid hg
  have HM := Lib.hid hm
  clear hg Hc Hd hm
  go_enter Try.func8, Try.ntmps8
  go_wp2_with fail
  refine (areCalls_any f ao cap l n w Hn.out (by omega) HHc.out).mono ?_
  rintro e w1 ⟨rfl, hb⟩
  rw [Hg.out]
  go_wp2_with fail
  refine (nameAll_any bo cap2 m n2 f w1 Hm hs2 hff.out.1 hff.out.2 (HHd.out.kept hb)).mono ?_
  rintro e w' ⟨rfl, rfl⟩
  rw [HM.out]
  have Hown1 := Lib.hid (World.ownsRow_nil w1 w.heap.size 38 2)
  go_wp2_with fail
  go_ret2
  exact ⟨_, rfl, Hown1.out, hb⟩

set_option maxRecDepth 20000 in
theorem implRename_nil (w : World) (f : Int) (ao : Option Addr) (cap : Nat) (hg : gdB f [] = true)
    (bo : Option Addr) (cap2 : Nat) (m : List Int) (n2 : Nat) (Hm : Hid (n2 = m.length)) (hs2 : n2 ≤ 1048576) (Hd : NumsAt w bo m) (hm : specNam f m = true) :
    Calls Try.prog 8 #[.int .i64 f, .slice ao 0 cap, .slice bo n2 cap2] w fun e w' => ∃ v, e = .returned (.tuple #[v, .bool true]) ∧ w'.ownsRow w.heap.size 38 2 v 0 (cs []) ∧ Below w.heap.size w w' := by
  obtain ⟨i0, hi, hz0, hz1, hz2⟩ := info_parts info38
  have Hz := Lib.hid (And.intro hz0 (And.intro hz1 hz2))
  clear hz0 hz1 hz2
  have hff := Lib.hid (gd_fr hg)
  have HHd := Lib.hid Hd
  have Hg := Lib.hid hg
  have HM := Lib.hid hm
  clear hg Hd hm
  go_enter Try.func8, Try.ntmps8
  go_wp2_with fail
  refine (areCalls_any f ao cap [] 0 w rfl (by omega) (.inl rfl)).mono ?_
  rintro e w1 ⟨rfl, hb⟩
  rw [Hg.out]
  go_wp2_with fail
  refine (nameAll_any bo cap2 m n2 f w1 Hm hs2 hff.out.1 hff.out.2 (HHd.out.kept hb)).mono ?_
  rintro e w' ⟨rfl, rfl⟩
  rw [HM.out]
  have hs1 := hb.size
  go_wp2_with (refine wpList_make_full _ rfl _ _ 25 rfl w.heap.size 38 i0 (.agg #[.int .i64 0, .int .i64 0]) 2 Try.underlying25 hi Hz.out.1 Hz.out.2.1 .i64 .i64 _ _ 0 rfl rfl rfl rfl ?_ ?_ ?_ ?_)
  · omega
  · unfold maxLen; omega
  · exact hs1
  intro w2 hown hgr
  have zc := zero_cells 0
  rw [Nat.zero_mul] at zc
  rw [zc] at hown
  have Hown := Lib.hid hown
  have Hbel := Lib.hid (hb.grown hgr hs1 (fun _ h => by cases h))
  clear hown hgr zc
  go_wp2_with fail
  go_rounds 1
  go_ret2
  exact ⟨_, rfl, Hown.out, Hbel.out⟩

theorem implRename_any (w : World) (f : Int) (ao : Option Addr) (cap : Nat) (l : List (Int × Int)) (n : Nat) (Hn : Hid (n = l.length)) (hs : n ≤ 1048576) (Hc : CallsAt w ao l) (hcap : n ≤ cap)
    (bo : Option Addr) (cap2 : Nat) (m : List Int) (n2 : Nat) (Hm : Hid (n2 = m.length)) (hs2 : n2 ≤ 1048576) (Hd : NumsAt w bo m) (hcap2 : n2 ≤ cap2) :
    Calls Try.prog 8 #[.int .i64 f, .slice ao n cap, .slice bo n2 cap2] w fun e w' => ∃ v, e = .returned (.tuple #[v, .bool (renB f l m)]) ∧ w'.ownsRow w.heap.size 38 2 v (renL f l m).length (cs (renL f l m)) ∧ Below w.heap.size w w' := by
  cases hg : gdB f l
  · rw [show renB f l m = false by simp [renB, hg], show renL f l m = [] by simp [renL, renB, hg]]
    exact implRename_no1 w f ao cap l n Hn hs Hc hg bo cap2 n2
  · cases hm : specNam f m
    · rw [show renB f l m = false by simp [renB, hm], show renL f l m = [] by simp [renL, renB, hm]]
      exact implRename_no2 w f ao cap l n Hn hs Hc hg bo cap2 m n2 Hm hs2 hcap2 Hd hm
    · rw [show renB f l m = true by simp [renB, hg, hm], show renL f l m = l.map (ren1 m) by simp [renL, renB, hg, hm], List.length_map, ← Hn.out]
      have hff := gd_fr hg
      have hml := nam_len hm
      by_cases h0 : n = 0
      · subst h0
        have : l = [] := List.eq_nil_of_length_eq_zero Hn.out.symm
        subst this
        exact implRename_nil w f ao cap hg bo cap2 m n2 Hm hs2 Hd hm
      · rcases Hc with rfl | ⟨b, off, rfl, hc⟩
        · exact absurd Hn.out h0
        · rcases Hd with rfl | ⟨b2, off2, rfl, hd⟩
          · simp at hml; omega
          · exact implRename_yes w f b off cap l n Hn (by omega) (by rw [Hn.out]; exact gd_len' hg) (by rw [Hn.out]; exact hc) hg b2 off2 cap2 m n2 Hm (by rw [Hm.out]; omega) hcap2 (by rw [Hm.out]; exact hd) hm
end Go.Proofs.Ytafmpphdpaifbaa
