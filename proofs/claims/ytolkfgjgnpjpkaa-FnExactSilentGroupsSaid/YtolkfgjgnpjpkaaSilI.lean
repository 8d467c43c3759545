/- The groups of friends: the program. -/
import Derived.Test.YtolkfgjgnpjpkaaGroups
namespace Go.Proofs.Ytolkfgjgnpjpkaa
open Go.ChangeShapes Go.WideShapes Go.ChangeAt Go.RowKit Go.Maps Go.Shelf
set_option linter.unusedVariables false


/-- The first k sets are there. -/
def PS (w : World) (base g F : Nat) (s : Nat → Nat) (k : Nat) : Prop :=
  ∃ bs : List Nat, bs.length = k ∧ w.ownsRow base 72 1 (.slice (some ⟨g, 0, none⟩) F F) F ((bs.map fun b => .map (some b)) ++ List.replicate (F - k) (.map none)) ∧ bs.Nodup ∧ ∀ (i : Nat) (h : i < bs.length), base ≤ bs[i] ∧ SetAt w bs[i] (s i)
theorem PS.start {w : World} {base g F : Nat} (s : Nat → Nat) (h : w.ownsRow base 72 1 (.slice (some ⟨g, 0, none⟩) F F) F (List.replicate F (.map none))) : PS w base g F s 0 :=
  ⟨[], rfl, by simpa using h, List.nodup_nil, fun i hi => absurd hi (by simp)⟩
theorem PS.row {w : World} {base g F k : Nat} {s : Nat → Nat} (h : PS w base g F s k) : ∃ xs, w.ownsRow base 72 1 (.slice (some ⟨g, 0, none⟩) F F) F xs := let ⟨_, _, h2, _⟩ := h; ⟨_, h2⟩
theorem PS.done {w : World} {base g F : Nat} {s : Nat → Nat} (h : PS w base g F s F) : ∃ bs : List Nat, bs.length = F ∧ RdB w base g F bs s := by
  obtain ⟨bs, hl, h2, h3, h4⟩ := h
  refine ⟨bs, hl, ?_, h3, h4⟩
  rw [hl]; simpa using h2
theorem PS.push {w w1 : World} {base g F k b : Nat} {s : Nat → Nat} (h : PS w base g F s k) (hk : k < F) (hb0 : w.heap.size ≤ b) (hbase : base ≤ b) (hbel : Below w.heap.size w w1) (hs : SetAt w1 b (s k)) (hgb : g ≠ b) :
    PS (w1.setCell ⟨g, k, none⟩ (.map (some b))) base g F s (k + 1) := by
  obtain ⟨bs, hl, h2, h3, h4⟩ := h
  have h5 := ((own_later h2 hbel).stored k (.map (some b))).1
  refine ⟨bs ++ [b], by simp [hl], ?_, ?_, fun i hi => ?_⟩
  · have e : ((bs.map fun b => Value.map (some b)) ++ List.replicate (F - k) (Value.map none)).set k (Value.map (some b)) = ((bs ++ [b]).map fun b => Value.map (some b)) ++ List.replicate (F - (k + 1)) (Value.map none) := by
      rw [List.set_append_right _ _ (by simp [hl])]
      simp only [List.length_map, hl, Nat.sub_self]
      rw [show F - k = (F - (k + 1)) + 1 by omega, List.replicate_succ, List.set_cons_zero]
      simp
    rw [← e]; exact h5
  · refine List.nodup_append.2 ⟨h3, by simp, fun a ha c hc => ?_⟩
    simp at hc; subst hc
    intro e; subst e
    obtain ⟨i, hi, e⟩ := List.getElem_of_mem ha
    have := (h4 i hi).2.lt
    omega
  · have far : ∀ j, j ≠ g → (w1.setCell ⟨g, k, none⟩ (.map (some b))).heap[j]? = w1.heap[j]? := fun j hj => Below.heap_setCell _ _ _ _ (by simpa using hj)
    by_cases hi2 : i < bs.length
    · have e : (bs ++ [b])[i] = bs[i] := List.getElem_append_left hi2
      have h6 := (h4 i hi2).2
      have h7 := h6.later hbel h6.lt
      rw [e]
      refine ⟨(h4 i hi2).1, h7.same (far _ ?_)⟩
      intro e2
      obtain ⟨es, clock, hb, _⟩ := h6
      rcases h2.2 with ⟨hh, _⟩ | ⟨g', cap', cur, hv, _, hg, _⟩
      · cases hh
      · obtain rfl : g = g' := by injection hv with h1; injection h1 with h1; injection h1
        rw [e2, hg] at hb; cases hb
    · have hik : i = bs.length := by simp at hi; omega
      subst hik
      have e : (bs ++ [b])[bs.length] = b := by simp
      rw [e]
      refine ⟨hbase, SetAt.same ?_ (far _ (Ne.symm hgb))⟩
      rw [hl]; exact hs

/-- All blocks of a row of rows lie below a bound. -/
def SSlt (v : Value) (X : List Value) (B : Nat) : Prop := ∀ b, (v.ownBlock = some b ∨ ∃ (i : Nat) (y : Value), X[i]? = some y ∧ y.ownBlock = some b) → b < B
theorem OwnSS.lt {w : World} {base : Nat} {v : Value} {X : List Value} {L : List (List Int)} (h : OwnSS w base v X L) : SSlt v X w.heap.size := by
  rintro b (hb | ⟨i, y, hy, hb⟩)
  · exact (h.1.lt b hb).2
  · have hi := (List.getElem?_eq_some_iff.1 hy).1
    exact ((h.2.2.1 i y _ hy (List.getElem?_eq_getElem (by rw [← h.2.1]; exact hi))).1.lt b hb).2
theorem OwnSS.kept2 {w w' : World} {base : Nat} {v : Value} {X : List Value} {L : List (List Int)} {r : Option Nat} {B : Nat} (h : OwnSS w base v X L) (hgr : w.grownBy w' r) (hl : SSlt v X B) (hr : ∀ b, r = some b → B ≤ b) : OwnSS w' base v X L := by
  have key : ∀ (y : Value), (v = y ∨ ∃ i : Nat, X[i]? = some y) → y.ownBlock = none ∨ y.ownBlock ≠ r := by
    intro y hy
    cases hq : y.ownBlock with
    | none => exact .inl rfl
    | some b =>
      refine .inr (fun e => ?_)
      have h2 := hr b e.symm
      have h1 : b < B := by
        rcases hy with rfl | ⟨i, hi⟩
        · exact hl b (.inl hq)
        · exact hl b (.inr ⟨i, y, hi, hq⟩)
      omega
  exact ⟨h.1.kept hgr (key v (.inl rfl)), h.2.1, fun i x l hx hl' => ⟨(h.2.2.1 i x l hx hl').1.kept hgr (key x (.inr ⟨i, hx⟩)), (h.2.2.1 i x l hx hl').2⟩, h.2.2.2⟩
theorem RdB.beside39 {w w' : World} {base g cap : Nat} {bs : List Nat} {s : Nat → Nat} (h : RdB w base g cap bs s) {b2 n : Nat} {v : Value} {xs : List Value} (hv : w.ownsRow b2 39 1 v n xs) (hgr : w.grownBy w' v.ownBlock) : RdB w' base g cap bs s := by
  have hne : ∀ k, v.ownBlock = some k → k ≠ g := by
    intro k hk e
    obtain ⟨cur, fr, hc⟩ := cells_of hv hk
    obtain ⟨cur2, fr2, hc2⟩ := cells_of h.1 (k := g) rfl
    rw [e, hc2] at hc
    simp at hc
  refine ⟨h.1.kept hgr ?_, h.2.1, fun i hi => ⟨(h.2.2 i hi).1, ((h.2.2 i hi).2).kept hgr ?_⟩⟩
  · cases hb : v.ownBlock with
    | none => exact .inr (by simp [Value.ownBlock])
    | some k => exact .inr (by have := hne k hb; simpa [Value.ownBlock] using (Ne.symm this))
  · intro e
    exact h.not_in hv e.symm (List.getElem_mem hi)

set_option maxHeartbeats 1600000 in
set_option maxRecDepth 20000 in
theorem implSil_yes (w : World) (F : Nat) (ao : Option Addr) (cap : Nat) (l : List (Int × Int)) (n : Nat) (Hn : Hid (n = l.length)) (hm : n ≤ 1048576) (HHc : Hid (CallsAt w ao l)) (Ha : Hid (arB (F : Int) l = true)) (Hg : Hid (gdL (F : Int) l = true)) (h1F : 1 ≤ F) (hF : F ≤ 10) :
    Calls Try.prog 62 #[.int .i64 F, .slice ao n cap] w fun e w' => ∃ v X, e = .returned (.tuple #[v, .bool true]) ∧ OwnSS w' w.heap.size v X (grps (mu (hr F l)) F F) ∧ Below w.heap.size w w' := by
  obtain ⟨i7, hi7, hz70, hz71, hz72⟩ := info_parts info72
  obtain ⟨i3, hi3, hz30, hz31, hz32⟩ := info_parts info3
  obtain ⟨i9, hi9, hz90, hz91, hz92⟩ := info_parts info39
  go_enter Try.func62, Try.ntmps62
  go_wp2_with fail
  refine (areArrows_any F ao cap l n w Hn.out (by omega) HHc.out).mono ?_
  rintro e w1 ⟨rfl, hb1⟩
  rw [Ha.out]
  have hs1 := hb1.size
  go_wp2_with (refine wpList_make_full _ rfl _ _ 69 rfl w1.heap.size 72 i7 (.map none) 1 Try.underlying69 hi7 hz70 hz71 .i64 .i64 _ _ F rfl rfl rfl rfl ?_ ?_ ?_ ?_)
  · rw [hz72]; omega
  · unfold maxLen; omega
  · exact Nat.le_refl _
  intro w2 hown hgr
  have hown2 : w2.ownsRow w1.heap.size 72 1 (.slice (some ⟨w1.heap.size, 0, none⟩) F F) F (List.replicate F (.map none)) := by rw [← zero_maps]; simpa using hown
  have H0 := Lib.hid (PS.start (hr F l) hown2)
  have Hb2 := Lib.hid (hb1.grown hgr hs1 (fun _ h => by cases h))
  have hg2 : w1.heap.size < w2.heap.size := (hown2.lt _ rfl).2
  obtain ⟨g, hge⟩ : ∃ g, g = w1.heap.size := ⟨_, rfl⟩
  rw [← hge] at H0 hg2 hs1 ⊢
  clear hown hgr hown2 hb1 hge
  go_wp2_with fail
  go_loopw [20] (fun i wr => ∃ k : Nat, k ≤ F ∧ i = .int .i64 k ∧ PS wr g g F (hr F l) k ∧ Hid (∀ j, j < k → IsHr F l j (hr F l j)) ∧ Below w.heap.size w wr ∧ g < wr.heap.size) (fun i _ => F - (intOf i).toNat)
  case atStart => exact ⟨0, Nat.zero_le _, rfl, H0.out, (fun j hj => absurd hj (by omega)), Hb2.out, hg2⟩
  case round =>
    obtain ⟨k, hk, rfl, hpb, hall, hbel, hgr2⟩ := hrel
    by_cases hlt : k < F
    · have hsz := hbel.size
      have Hpb := Lib.hid hpb
      have Hh := Lib.hid (hearersOf_any ao cap F k l n wr Hn Hg.out hlt (HHc.out.kept hbel))
      clear hpb
      go_wp2_with fail
      refine Hh.out.mono ?_
      rintro e w4 ⟨s, rfl, hset, hhr, hb4⟩
      have hhk := hhr
      rw [← hr_eq hhr] at hset hhk
      have hall2 : Hid (∀ j, j < k + 1 → IsHr F l j (hr F l j)) := by
        intro j hj
        by_cases hjk : j = k
        · subst hjk; exact hhk
        · exact hall.out j (by omega)
      obtain ⟨xs, hrow⟩ := Hpb.out.row
      have hrow4 := own_later hrow hb4
      obtain ⟨u0, z0⟩ := own_some hrow4 k (by rw [Nat.mul_one]; exact hlt)
      have zf0 := hrow4.frozenAt k
      have Hp := Lib.hid (PS.push Hpb.out hlt (Nat.le_refl _) (by omega) hb4 hset (by omega))
      have hb5 := (hbel.trans (hb4.mono hsz)).setCell (p := ⟨g, k, none⟩) hs1 (.map (some wr.heap.size))
      have hs4 := hb4.size
      clear hset hhr hhk hb4 hrow hrow4 hbel Hh
      go_wp2_with fail
      go_roundw
      case rel => exact ⟨k + 1, by omega, by go_num, Hp.out, hall2, hb5, by simp; omega⟩
      case measure => simp [intOf]; omega
    · obtain rfl : k = F := by omega
      obtain ⟨bs, hl, hrd⟩ := hpb.done
      have Hrd0 := Lib.hid hrd
      have Hbel := Lib.hid hbel
      have hB := hbel.size
      have HE := Lib.hid (mu_eqv (fun x hx => hall.out x hx))
      obtain ⟨h, hh⟩ : ∃ h, h = hr k l := ⟨_, rfl⟩
      rw [← hh] at Hrd0 HE
      have Hh := Lib.hid hh
      clear hpb hrd hbel hall hh H0 Hb2
      obtain ⟨B3, hB3⟩ : ∃ B3, B3 = wr.heap.size := ⟨_, rfl⟩
      rw [← hB3] at hgr2 hB
      have hB3' : B3 ≤ wr.heap.size := by omega
      clear hB3
      go_wp2_with fail
      go_loopw [8, 31] (fun v i wr => ∃ (f : Nat) (X : List Value), f ≤ k ∧ i = .int .i64 f ∧ OwnSS wr B3 v X (grps (mu h) k f) ∧ RdB wr g g k bs h ∧ Below w.heap.size w wr ∧ B3 ≤ wr.heap.size) (fun _ i _ => k - (intOf i).toNat)
      case atStart => exact ⟨0, [], Nat.zero_le _, rfl, OwnSS.nil _ _, Hrd0.out, Hbel.out, hB3'⟩
      case round =>
        obtain ⟨f, X, hf, rfl, hor, hrd, hbel, hBr⟩ := hrel
        by_cases hlt : f < k
        · have Hor0 := Lib.hid hor
          have Hrd1 := Lib.hid hrd
          have Hbel1 := Lib.hid hbel
          have Hlt := Lib.hid hor.lt
          obtain ⟨B4, hB4⟩ : ∃ B4, B4 = wr.heap.size := ⟨_, rfl⟩
          rw [← hB4] at Hlt hBr
          have hB4' : B4 ≤ wr.heap.size := by omega
          have hwB4 : w.heap.size ≤ B4 := by omega
          clear hor hrd hbel hB4
          go_wp2_with fail
          go_loopw [10, 35] (fun u i wr => ∃ j : Nat, j ≤ k ∧ i = .int .i64 j ∧ wr.ownsRow B4 3 1 u (grp (mu h) j f).length (ns (grp (mu h) j f)) ∧ OwnSS wr B3 u8 X (grps (mu h) k f) ∧ RdB wr g g k bs h ∧ Below w.heap.size w wr ∧ B4 ≤ wr.heap.size) (fun _ i _ => k - (intOf i).toNat)
          case atStart => exact ⟨0, Nat.zero_le _, rfl, World.ownsRow_nil _ _ _ _, Hor0.out, Hrd1.out, Hbel1.out, hB4'⟩
          case round =>
            obtain ⟨j, hj, rfl, how, hor, hrd, hbel, hBr4⟩ := hrel
            by_cases hlt2 : j < k
            · have hgl := grp_le (mu h) j f
              have c1 := hrd.cell f (by rw [hl]; exact hlt)
              have c2 := hrd.cell j (by rw [hl]; exact hlt2)
              have s1 := (hrd.2.2 f (by rw [hl]; exact hlt)).2
              have s2 := (hrd.2.2 j (by rw [hl]; exact hlt2)).2
              have r1 := look_bool s1 (j := j) (by omega)
              have r2 := look_bool s2 (j := f) (by omega)
              generalize bs[f]'(by rw [hl]; exact hlt) = x1 at c1 s1 r1
              generalize bs[j]'(by rw [hl]; exact hlt2) = x2 at c2 s2 r2
              have How := Lib.hid how
              have Hor := Lib.hid hor
              have Hrd := Lib.hid hrd
              have hf0 : (0 : Int) ≤ (f : Int) := by omega
              have hf1 : (f : Int) < (k : Int) := by omega
              have hj0 : (0 : Int) ≤ (j : Int) := by omega
              have hj1 : (j : Int) < (k : Int) := by omega
              clear how hor hrd s1 s2
              cases t1 : (h f).testBit j
              · have hno : mu h f j = false := by simp [mu, t1]
                have How2 := How
                rw [← grp_no hno] at How2
                rw [t1] at r1
                clear t1 r2 hno
                go_wp2_with fail
                go_roundw
                case rel => exact ⟨j + 1, by omega, by go_num, How2.out, Hor.out, Hrd.out, hbel, hBr4⟩
                case measure => simp [intOf]; omega
              · cases t2 : (h j).testBit f
                · have hno : mu h f j = false := by simp [mu, t2]
                  have How2 := How
                  rw [← grp_no hno] at How2
                  rw [t1] at r1
                  rw [t2] at r2
                  clear t1 t2 hno
                  go_wp2_with fail
                  go_roundw
                  case rel => exact ⟨j + 1, by omega, by go_num, How2.out, Hor.out, Hrd.out, hbel, hBr4⟩
                  case measure => simp [intOf]; omega
                · have Hyes := Lib.hid (grp_yes (m := mu h) (k := j) (i := f) (by simp [mu, t1, t2]))
                  rw [t1] at r1
                  rw [t2] at r2
                  clear t1 t2
                  go_wp2_with (at_builtin; refine wpList_append_own _ rfl _ _ 39 rfl B4 3 i3 (.int .i64 0) 1 8 Try.underlying39 hi3 hz30 hz31 hz32 rfl (by decide) _ _ _ rfl (How.out.alloc _) ⟨wr.heap.size, 0, none⟩ 1 1 [.int .i64 j] rfl rfl ?c1 ?c2 ?c3 ?c4 ?c5 ?_)
                  case c1 => exact World.news_of_block (cs := #[.int .i64 j]) (t := 3) (fr := (0, 0)) (heap_alloc_new _ _)
                  case c2 => intro u hu; simp at hu; subst hu; rfl
                  case c3 => unfold maxLen; omega
                  case c4 => omega
                  case c5 => simp; omega
                  intro v' w6 hown' hgr _
                  have Hown := Lib.hid hown'
                  have Hr6 := Lib.hid ((Hrd.out.alloc _).beside (How.out.alloc _) hgr)
                  have Ho6 := Lib.hid ((Hor.out.alloc _).kept2 hgr Hlt.out (fun b hb => (How.out.lt b hb).1))
                  have hs6 := hgr.size
                  have Hb6 := Lib.hid ((hbel.alloc hbel.size _).grown hgr (by simp; omega) (fun b hb => Nat.le_trans hwB4 (How.out.lt b hb).1))
                  have hs7 : B4 ≤ w6.heap.size := by simp at hs6; omega
                  clear hown' hgr hbel hs6
                  go_wp2_with fail
                  go_roundw
                  case rel => exact ⟨j + 1, by omega, by go_num, by rw [Hyes.out, ns_append, List.length_append]; exact Hown.out, Ho6.out, Hr6.out, Hb6.out, hs7⟩
                  case measure => simp [intOf]; omega
            · obtain rfl : j = k := by omega
              have hhead := HE.out.head (i := f) hlt
              obtain ⟨gg, cg, hug⟩ := own_apos' how hhead.1
              have hc0 : wr.cell? ⟨gg, 0, none⟩ = some (.int .i64 (na (grp (mu h) j f) 0)) := by
                have h9 := how
                rw [hug] at h9
                have := h9.cellAt 0 (by omega)
                rw [ns_get _ 0 hhead.1] at this
                exact this
              have How : Hid (wr.ownsRow B4 3 1 (.slice (some ⟨gg, 0, none⟩) (grp (mu h) j f).length cg) (grp (mu h) j f).length (ns (grp (mu h) j f))) := by rw [← hug]; exact how
              have Hor := Lib.hid hor
              have Hrd := Lib.hid hrd
              have hpos := hhead.1
              have hgl2 := grps_le (mu h) j f
              rw [hug]
              have hp0 : (0 : Int) < ((grp (mu h) j f).length : Int) := by omega
              cases hrep : rep (mu h) f
              · have htest : (na (grp (mu h) j f) 0 == (f : Int)) = false := hhead.2.trans hrep
                have Hor2 := Hor
                rw [← grps_no hrep] at Hor2
                clear hrep hhead how hor hrd hug
                go_wp2_with fail
                go_roundw
                case rel => exact ⟨f + 1, X, by omega, by go_num, Hor2.out, Hrd.out, hbel, by omega⟩
                case measure => simp [intOf]; omega
              · have htest : (na (grp (mu h) j f) 0 == (f : Int)) = true := hhead.2.trans hrep
                have Hstep := Lib.hid (grps_yes (F := j) hrep)
                clear hrep hhead how hor hrd hug
                go_wp2_with (at_builtin; refine wpList_append_lies _ rfl _ _ 29 rfl B3 39 i9 (.slice none 0 0) 1 24 Try.underlying29 hi9 hz90 hz91 hz92 rfl (by decide) _ _ X rfl (Hor.out.alloc (.cells #[.slice (some ⟨gg, 0, none⟩) (grp (mu h) j f).length cg] 39)).1 ⟨wr.heap.size, 0, none⟩ 1 1 [.slice (some ⟨gg, 0, none⟩) (grp (mu h) j f).length cg] rfl rfl ?d1 ?d2 (by omega) ?d3 ?d4 ?d5 (wr.heap.size + 1) ?d6 ?_)
                case d1 => exact World.news_of_block (cs := #[.slice (some ⟨gg, 0, none⟩) (grp (mu h) j f).length cg]) (t := 39) (fr := (0, 0)) (heap_alloc_new _ _)
                case d2 => intro u hu; simp at hu; subst hu; rfl
                case d3 => unfold maxLen; omega
                case d4 => omega
                case d5 => simp; omega
                case d6 => simp
                intro g9 cap9 w9 hown hgr hat _
                have hp := OwnSS.push (v' := .slice (some ⟨g9, 0, none⟩) ((grps (mu h) j f).length + 1) cap9) (H := wr.heap.size + 1) (Hor.out.alloc (.cells #[.slice (some ⟨gg, 0, none⟩) (grp (mu h) j f).length cg] 39)) (own_base hBr (How.out.alloc _))
                  (fun b hb e => by have h1 := (How.out.lt b hb).1; have h2 := Hlt.out b (.inl e); omega)
                  (fun i y b hy hb e => by have h1 := (How.out.lt b e).1; have h2 := Hlt.out b (.inr ⟨i, y, hy, hb⟩); omega)
                  hgr hown (by rcases hat with e | e
                               · exact .inl e.symm
                               · exact .inr (by rw [e]; rfl)) (by simp)
                rw [← Hstep.out] at hp
                have Hp := Lib.hid hp
                have Hr9 := Lib.hid ((Hrd.out.alloc _).beside39 (Hor.out.alloc _).1 hgr)
                have hs9 := hgr.size
                have Hb9 := Lib.hid ((hbel.alloc hbel.size _).grown hgr (by simp; omega) (fun b hb => by have := (Hor.out.1.lt b hb).1; omega))
                have hs10 : B3 ≤ w9.heap.size := by simp at hs9; omega
                clear hp hown hgr hat hbel hs9
                go_wp2_with fail
                go_roundw
                case rel => exact ⟨f + 1, _, by omega, by go_num, Hp.out, Hr9.out, Hb9.out, hs10⟩
                case measure => simp [intOf]; omega
        · obtain rfl : f = k := by omega
          have Hor := Lib.hid (hor.weaken (b' := w.heap.size) (by omega))
          rw [Hh.out] at Hor
          clear hor
          go_wp2_with fail
          go_ret2
          exact ⟨_, X, rfl, Hor.out, hbel⟩

end Go.Proofs.Ytolkfgjgnpjpkaa
