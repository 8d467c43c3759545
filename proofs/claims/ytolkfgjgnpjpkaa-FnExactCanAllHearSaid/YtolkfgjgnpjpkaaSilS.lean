/- The groups of friends: the model. -/
import Derived.Test.YtolkfgjgnpjpkaaSilI
namespace Go.Proofs.Ytolkfgjgnpjpkaa
open Go.ChangeShapes Go.WideShapes Go.ChangeAt Go.RowKit
set_option linter.unusedVariables false


theorem grown_1 (w : World) (g o : Nat) (u : Value) : w.grownBy (w.setCell ⟨g, o, none⟩ u) (some g) := grown_set ⟨rfl, rfl, rfl, Nat.le_refl _, fun _ _ _ => rfl⟩ o u
theorem info4 : (Try.prog.info? 4).map (fun i => (i.zero, i.size, i.bytes)) = some (some (.bool false), 1, 1) := by kernel_rfl
def bsv (f : Nat → Bool) (F : Nat) : List Value := (List.range F).map fun j => Value.bool (f j)
theorem bsv_get {f : Nat → Bool} {F i : Nat} (h : i < F) : (bsv f F)[i]? = some (.bool (f i)) := by simp [bsv, h]
theorem bsv_length (f : Nat → Bool) (F : Nat) : (bsv f F).length = F := by simp [bsv]
theorem bsv_ext {f g : Nat → Bool} {F : Nat} (h : ∀ i, i < F → f i = g i) : bsv f F = bsv g F := by
  unfold bsv
  refine List.map_congr_left fun i hi => ?_
  rw [h i (List.mem_range.1 hi)]
def sn (m : Nat → Nat → Bool) (i j : Nat) : Nat → Bool := fun x => seenB m i x || (decide (x < j) && m i x)
theorem sn_zero (m : Nat → Nat → Bool) (i F : Nat) : bsv (sn m i 0) F = bsv (seenB m i) F := bsv_ext fun x _ => by simp [sn]
theorem sn_done {m : Nat → Nat → Bool} {i F : Nat} (h : rep m i = true) : bsv (sn m i F) F = bsv (seenB m (i + 1)) F := bsv_ext fun x hx => by rw [seen_yes h]; simp [sn, hx]
theorem sn_skip {m : Nat → Nat → Bool} {i F : Nat} (h : rep m i = false) : bsv (seenB m (i + 1)) F = bsv (seenB m i) F := bsv_ext fun x _ => seen_no h
theorem sn_no {m : Nat → Nat → Bool} {i j F : Nat} (h : m i j = false) : bsv (sn m i (j + 1)) F = bsv (sn m i j) F := bsv_ext fun x _ => by
  by_cases e : x = j
  · subst e; simp [sn, h]
  · have : decide (x < j + 1) = decide (x < j) := by rw [decide_eq_decide]; omega
    simp [sn, this]
theorem sn_set {m : Nat → Nat → Bool} {i j F : Nat} (h : m i j = true) (hj : j < F) : (bsv (sn m i j) F).set j (.bool true) = bsv (sn m i (j + 1)) F := by
  apply List.ext_getElem?
  intro x
  by_cases hx : x < F
  · by_cases e : j = x
    · subst e
      rw [List.getElem?_set_self (by rw [bsv_length]; exact hj), bsv_get hx]
      simp [sn, h]
    · rw [List.getElem?_set_ne e, bsv_get hx, bsv_get hx]
      have : decide (x < j + 1) = decide (x < j) := by rw [decide_eq_decide]; omega
      simp [sn, this]
  · rw [List.getElem?_eq_none (by rw [List.length_set, bsv_length]; omega), List.getElem?_eq_none (by rw [bsv_length]; omega)]
theorem zero_bools (m : Nat → Nat → Bool) (n : Nat) : (madeCells #[.bool false] n).toList = bsv (seenB m 0) n := by
  rw [toList_madeCells_one]
  apply List.ext_getElem?
  intro x
  by_cases hx : x < n
  · rw [bsv_get hx]; simp [seenB, hx]
  · simp [bsv, hx]
theorem kl_ext {F : Nat} {s t : Nat → Nat} (h : ∀ i, i < F → s i = t i) : kl F s = kl F t := by
  unfold kl
  refine List.map_congr_left fun i hi => ?_
  rw [h i (List.mem_range.1 hi)]

set_option maxHeartbeats 1600000 in
set_option maxRecDepth 20000 in
theorem specSil_yes (w : World) (F : Nat) (ao : Option Addr) (cap : Nat) (l : List (Int × Int)) (n : Nat) (Hn : Hid (n = l.length)) (hm : n ≤ 1048576) (HHc : Hid (CallsAt w ao l)) (Ha : Hid (arB (F : Int) l = true)) (Hg : Hid (gdL (F : Int) l = true)) (h1F : 1 ≤ F) (hF : F ≤ 10) :
    Calls Try.prog 61 #[.int .i64 F, .slice ao n cap] w fun e w' => ∃ v X, e = .returned (.tuple #[v, .bool true]) ∧ OwnSS w' w.heap.size v X (grps (mu (hr F l)) F F) ∧ Below w.heap.size w w' := by
  obtain ⟨i4, hi4, hz40, hz41, hz42⟩ := info_parts info4
  obtain ⟨i3, hi3, hz30, hz31, hz32⟩ := info_parts info3
  obtain ⟨i9, hi9, hz90, hz91, hz92⟩ := info_parts info39
  go_enter Try.func61, Try.ntmps61
  go_wp2_with fail
  refine (leArrows_any F ao cap l n w Hn.out (by omega) HHc.out).mono ?_
  rintro e w1 ⟨rfl, hb1⟩
  rw [Ha.out]
  have Hc1 := Lib.hid (HHc.out.kept hb1)
  go_wp2_with fail
  refine (leHeard_any F ao cap l n w1 Hn Hg.out Hc1.out).mono ?_
  rintro e w2 ⟨v2, s, rfl, own2, hhr, hs, hb⟩
  have hb2 : Below w.heap.size w w2 := hb1.trans (hb.mono hb1.size)
  have HE := Lib.hid (mu_eqv (F := F) (l := l) (h := hr F l) (fun x hx => by rw [hr_eq (hhr x hx)]; exact hhr x hx))
  have Hsm : Hid (∀ x, x < F → hr F l x < 1024) := fun x hx => by rw [hr_eq (hhr x hx)]; exact pow_small (f := F) hF (hs x)
  rw [kl_ext (t := hr F l) (fun i hi => (hr_eq (hhr i hi)).symm)] at own2
  obtain ⟨g1, c1, rfl⟩ := own_apos' own2 (by omega)
  have Hcell := Lib.hid (kl_cells own2)
  have hs2 := hb2.size
  have Hb2 := Lib.hid hb2
  obtain ⟨h, hh⟩ : ∃ h, h = hr F l := ⟨_, rfl⟩
  rw [← hh] at HE Hsm Hcell
  have Hh := Lib.hid hh
  clear own2 hhr hs hb hb1 hb2 hh
  go_wp2_with (refine wpList_make_full _ rfl _ _ 97 rfl w2.heap.size 4 i4 (.bool false) 1 Try.underlying97 hi4 hz40 hz41 .i64 .i64 _ _ F rfl rfl rfl rfl ?_ ?_ ?_ ?_)
  · rw [hz42]; omega
  · unfold maxLen; omega
  · exact Nat.le_refl _
  intro w3 hown hgr
  rw [zero_bools (mu h)] at hown
  have Hseen0 : Hid (w3.ownsRow w2.heap.size 4 1 (.slice (some ⟨w2.heap.size, 0, none⟩) F F) F (bsv (seenB (mu h) 0) F)) := hown
  have hgB : w2.heap.size < w3.heap.size := (hown.lt _ rfl).2
  have Hd3 := Lib.hid ((Below.refl w2.heap.size w2).grown hgr (Nat.le_refl _) (fun _ h => by cases h))
  obtain ⟨g2, hg2⟩ : ∃ g2, g2 = w2.heap.size := ⟨_, rfl⟩
  obtain ⟨B3, hB3⟩ : ∃ B3, B3 = w3.heap.size := ⟨_, rfl⟩
  have Hg2 := Lib.hid hg2
  rw [← hg2] at Hseen0 hgB Hd3 ⊢
  rw [← hB3] at hgB
  have hB3' : B3 ≤ w3.heap.size := by omega
  have hgs : w.heap.size ≤ g2 := by omega
  have Hlow : Hid (∀ i, i < F → ∀ wr, Below g2 w2 wr → wr.cell? ⟨g1, 0 + i, none⟩ = some (.int .i64 (h i))) := fun i hi wr hb => by
    rw [Hg2.out] at hb
    exact (hb.cell (p := ⟨g1, 0 + i, none⟩) (World.block_lt_of_cell? w2 _ (Hcell.out i hi))).trans (Hcell.out i hi)
  clear hown hgr hg2 hB3
  go_wp2_with fail
  go_loopw [7, 23] (fun v i wr => ∃ (f : Nat) (X : List Value), f ≤ F ∧ i = .int .i64 f ∧ OwnSS wr B3 v X (grps (mu h) F f) ∧ wr.ownsRow g2 4 1 (.slice (some ⟨g2, 0, none⟩) F F) F (bsv (seenB (mu h) f) F) ∧ Below g2 w2 wr ∧ B3 ≤ wr.heap.size) (fun _ i _ => F - (intOf i).toNat)
  case atStart => exact ⟨0, [], Nat.zero_le _, rfl, OwnSS.nil _ _, Hseen0.out, Hd3.out, hB3'⟩
  case round =>
    obtain ⟨f, X, hf, rfl, hor, hsn, hbel, hBr⟩ := hrel
    by_cases hlt : f < F
    · have hseen := hsn.cellAt f (by omega)
      rw [bsv_get hlt, HE.out.seen hlt] at hseen
      have hf0 : (0 : Int) ≤ (f : Int) := by omega
      have hf1 : (f : Int) < (F : Int) := by omega
      cases hrep : rep (mu h) f
      · rw [hrep] at hseen
        have Hor := Lib.hid hor
        have Hsn := Lib.hid hsn
        rw [← sn_skip hrep] at Hsn
        rw [← grps_no (F := F) hrep] at Hor
        clear hrep hor hsn
        go_wp2_with fail
        go_roundw
        case rel => exact ⟨f + 1, X, by omega, by go_num, Hor.out, Hsn.out, hbel, hBr⟩
        case measure => simp [intOf]; omega
      · rw [hrep] at hseen
        have Hor0 := Lib.hid hor
        have Hsn0 := Lib.hid hsn
        rw [← sn_zero] at Hsn0
        have Hbel1 := Lib.hid hbel
        have Hlt := Lib.hid hor.lt
        have Hrep := Lib.hid hrep
        obtain ⟨B4, hB4⟩ : ∃ B4, B4 = wr.heap.size := ⟨_, rfl⟩
        rw [← hB4] at Hlt hBr
        have hB4' : B4 ≤ wr.heap.size := by omega
        clear hor hsn hbel hB4 hrep
        go_wp2_with fail
        go_loopw [10, 32] (fun u i wr => ∃ j : Nat, j ≤ F ∧ i = .int .i64 j ∧ wr.ownsRow B4 3 1 u (grp (mu h) j f).length (ns (grp (mu h) j f)) ∧ OwnSS wr B3 u7 X (grps (mu h) F f) ∧ wr.ownsRow g2 4 1 (.slice (some ⟨g2, 0, none⟩) F F) F (bsv (sn (mu h) f j) F) ∧ Below g2 w2 wr ∧ B4 ≤ wr.heap.size) (fun _ i _ => F - (intOf i).toNat)
        case atStart => exact ⟨0, Nat.zero_le _, rfl, World.ownsRow_nil _ _ _ _, Hor0.out, Hsn0.out, Hbel1.out, hB4'⟩
        case round =>
          obtain ⟨j, hj, rfl, how, hor, hsn, hbel, hBr4⟩ := hrel
          by_cases hlt2 : j < F
          · have hgl := grp_le (mu h) j f
            have k1 := Hlow.out f hlt wr hbel
            have k2 := Hlow.out j hlt2 wr hbel
            rw [Nat.zero_add] at k1 k2
            have d1 := digit_test (h f) j (Hsm.out f hlt)
            have d2 := digit_test (h j) f (Hsm.out j hlt2)
            have How := Lib.hid how
            have Hor := Lib.hid hor
            have Hsn := Lib.hid hsn
            have hj0 : (0 : Int) ≤ (j : Int) := by omega
            have hj1 : (j : Int) < (F : Int) := by omega
            clear how hor hsn
            cases t1 : (h f).testBit j
            · have hno : mu h f j = false := by simp [mu, t1]
              have How2 := How
              have Hsn2 := Hsn
              rw [← grp_no hno] at How2
              rw [← sn_no hno] at Hsn2
              rw [t1] at d1
              clear t1 d2 hno
              go_wp2_with fail
              go_roundw
              case rel => exact ⟨j + 1, by omega, by go_num, How2.out, Hor.out, Hsn2.out, hbel, hBr4⟩
              case measure => simp [intOf]; omega
            · cases t2 : (h j).testBit f
              · have hno : mu h f j = false := by simp [mu, t2]
                have How2 := How
                have Hsn2 := Hsn
                rw [← grp_no hno] at How2
                rw [← sn_no hno] at Hsn2
                rw [t1] at d1
                rw [t2] at d2
                clear t1 t2 hno
                go_wp2_with fail
                go_roundw
                case rel => exact ⟨j + 1, by omega, by go_num, How2.out, Hor.out, Hsn2.out, hbel, hBr4⟩
                case measure => simp [intOf]; omega
              · have hy : mu h f j = true := by simp [mu, t1, t2]
                have Hyes := Lib.hid (grp_yes (m := mu h) (k := j) (i := f) hy)
                have hst := (Hsn.out.stored j (.bool true)).1
                rw [sn_set hy hlt2] at hst
                have hgst : wr.grownBy (wr.setCell ⟨g2, j, none⟩ (.bool true)) (some g2) := grown_1 wr g2 j _
                have Ho1 := Lib.hid (Hor.out.kept hgst (fun b hb => by cases hb; exact hgB))
                have How1 := Lib.hid (How.out.kept hgst (by
                  cases hq : u10.ownBlock with
                  | none => exact .inl rfl
                  | some b => exact .inr (fun e => by have h1 := (How.out.lt b hq).1; have h2 : b = g2 := by simpa using e
                                                      omega)))
                have Hst := Lib.hid hst
                have hb5 := hbel.setCell (p := ⟨g2, j, none⟩) (Nat.le_refl _) (.bool true)
                obtain ⟨u0, z0⟩ := own_some Hsn.out j (by omega)
                have zf0 := Hsn.out.frozenAt j
                have hsz5 : (wr.setCell ⟨g2, j, none⟩ (.bool true)).heap.size = wr.heap.size := by simp
                rw [t1] at d1
                rw [t2] at d2
                clear t1 t2 hy hst hgst
                go_wp2_with (at_builtin; refine wpList_append_own _ rfl _ _ 39 rfl B4 3 i3 (.int .i64 0) 1 8 Try.underlying39 hi3 hz30 hz31 hz32 rfl (by decide) _ _ _ rfl (How1.out.alloc _) _ 1 1 [.int .i64 j] rfl rfl ?c1 ?c2 ?c3 ?c4 ?c5 ?_)
                case c1 => exact World.news_of_block (cs := #[.int .i64 j]) (t := 3) (fr := (0, 0)) (by rw [← hsz5]; exact heap_alloc_new _ _)
                case c2 => intro u hu; simp at hu; subst hu; rfl
                case c3 => unfold maxLen; omega
                case c4 => omega
                case c5 => simp; omega
                intro v' w6 hown' hgr _
                have Hown := Lib.hid hown'
                have Hs6 := Lib.hid ((Hst.out.alloc _).kept hgr (by
                  refine .inr fun e => ?_
                  have h1 := (How.out.lt g2 e.symm).1
                  omega))
                have Ho6 := Lib.hid ((Ho1.out.alloc _).kept2 hgr Hlt.out (fun b hb => (How.out.lt b hb).1))
                have hs6 := hgr.size
                have hs5 : g2 ≤ wr.heap.size := by omega
                have Hb6 := Lib.hid ((hb5.alloc (by rw [hsz5]; exact hs5) _).grown hgr (by simp; omega) (fun b hb => by have := (How.out.lt b hb).1; omega))
                have hs7 : B4 ≤ w6.heap.size := by simp at hs6; omega
                clear hown' hgr hbel hs6 hb5
                go_wp2_with fail
                go_roundw
                case rel => exact ⟨j + 1, by omega, by go_num, by rw [Hyes.out, ns_append, List.length_append]; exact Hown.out, Ho6.out, Hs6.out, Hb6.out, hs7⟩
                case measure => simp [intOf]; omega
          · obtain rfl : j = F := by omega
            have hgl2 := grps_le (mu h) j f
            obtain ⟨ag, cg, hug, _⟩ := nums_shape how rfl
            have How : Hid (wr.ownsRow B4 3 1 (.slice ag (grp (mu h) j f).length cg) (grp (mu h) j f).length (ns (grp (mu h) j f))) := by rw [← hug]; exact how
            have Hor := Lib.hid hor
            rw [sn_done Hrep.out] at hsn
            have Hsn := Lib.hid hsn
            have Hstep := Lib.hid (grps_yes (F := j) Hrep.out)
            rw [hug]
            clear how hor hug hsn
            go_wp2_with (at_builtin; refine wpList_append_lies _ rfl _ _ 29 rfl B3 39 i9 (.slice none 0 0) 1 24 Try.underlying29 hi9 hz90 hz91 hz92 rfl (by decide) _ _ X rfl (Hor.out.alloc (.cells #[.slice ag (grp (mu h) j f).length cg] 39)).1 ⟨wr.heap.size, 0, none⟩ 1 1 [.slice ag (grp (mu h) j f).length cg] rfl rfl ?d1 ?d2 (by omega) ?d3 ?d4 ?d5 (wr.heap.size + 1) ?d6 ?_)
            case d1 => exact World.news_of_block (cs := #[.slice ag (grp (mu h) j f).length cg]) (t := 39) (fr := (0, 0)) (heap_alloc_new _ _)
            case d2 => intro u hu; simp at hu; subst hu; rfl
            case d3 => unfold maxLen; omega
            case d4 => omega
            case d5 => simp; omega
            case d6 => simp
            intro g9 cap9 w9 hown hgr hat _
            have hp := OwnSS.push (v' := .slice (some ⟨g9, 0, none⟩) ((grps (mu h) j f).length + 1) cap9) (H := wr.heap.size + 1) (Hor.out.alloc (.cells #[.slice ag (grp (mu h) j f).length cg] 39)) (own_base hBr (How.out.alloc _))
              (fun b hb e => by have h1 := (How.out.lt b hb).1; have h2 := Hlt.out b (.inl e); omega)
              (fun i y b hy hb e => by have h1 := (How.out.lt b e).1; have h2 := Hlt.out b (.inr ⟨i, y, hy, hb⟩); omega)
              hgr hown (by rcases hat with e | e
                           · exact .inl e.symm
                           · exact .inr (by rw [e]; rfl)) (by simp)
            rw [← Hstep.out] at hp
            have Hp := Lib.hid hp
            have Hs9 := Lib.hid ((Hsn.out.alloc _).kept hgr (by
              refine .inr fun e => ?_
              have h1 := (Hor.out.1.lt g2 e.symm).1
              omega))
            have hs9 := hgr.size
            have Hb9 := Lib.hid ((hbel.alloc (by omega) _).grown hgr (by simp; omega) (fun b hb => by have := (Hor.out.1.lt b hb).1; omega))
            have hs10 : B3 ≤ w9.heap.size := by simp at hs9; omega
            clear hp hown hgr hat hbel hs9
            go_wp2_with fail
            go_roundw
            case rel => exact ⟨f + 1, _, by omega, by go_num, Hp.out, Hs9.out, Hb9.out, hs10⟩
            case measure => simp [intOf]; omega
    · obtain rfl : f = F := by omega
      have Hor := Lib.hid (hor.weaken (b' := w.heap.size) (by omega))
      rw [Hh.out] at Hor
      have hfin : Below w.heap.size w wr := Hb2.out.trans (hbel.mono hgs)
      clear hor
      go_wp2_with fail
      go_ret2
      exact ⟨_, X, rfl, Hor.out, hfin⟩

end Go.Proofs.Ytolkfgjgnpjpkaa
