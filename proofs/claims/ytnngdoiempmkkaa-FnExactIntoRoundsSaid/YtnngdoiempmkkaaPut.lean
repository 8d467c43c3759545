/- A call is put into its place: the model. -/
import Derived.Test.YtnngdoiempmkkaaSrt
import Derived.Test.YtnngdoiempmkkaaOpen
namespace Go.Proofs.Ytnngdoiempmkkaa
open Go.ChangeShapes Go.WideShapes Go.ChangeAt Go.RowKit
set_option linter.unusedVariables false

/-- An append to a row of the call's own, as a step of a region that draws; nothing may be appended too. -/
theorem step_append_mine {P : Program} (w : World) {ops : Array Oper} {o : Oper} {a : Act} {K : Act → World → Prop} {Q : Exit → Act → World → Prop} {E : Prop} (hgd : o.guard = none) (s x : Operand) (t : TypeId)
    (ho : o.op = .call { callee := .builtin .append, args := #[s, x], argTypes := #[t, t] })
    (base : Nat) (e : TypeId) (i : TypeInfo) (z : Value) (size bytes : Nat) (ht : P.underlying t = some (.slice e)) (hi : P.info? e = some i) (hz : i.zero = some z)
    (hsize : i.size = size) (hby : i.bytes = bytes) (hzs : z.cells.size = size) (hsz : 0 < size)
    (v : Value) (n : Nat) (xs : List Value) (hs : a.eval s = v) (hown : w.ownsRow base e size v n xs)
    (ad : Addr) (m c : Nat) (news : List Value) (hx : a.eval x = .slice (some ad) m c) (hl : news.length = m * size) (hnews : ∀ j u, news[j]? = some u → w.cell? (ad.add j) = some u) (h1 : ∀ u ∈ news, u.oneCell' = true)
    (h63 : n + m ≤ maxLen) (hbytes : (n + m) * bytes ≤ 140737488355328) (hbase : base ≤ w.heap.size)
    (h : ∀ v' w', w'.ownsRow base e size v' (n + m) (xs ++ news) → w.grownBy w' v.ownBlock → K (a.put o.dst v') w') :
    if Region.wanted o (yielded ops a.tmps) = true then Oper.wp P o a w K Q else E := by
  have hw : Region.wanted o (yielded ops a.tmps) = true := by simp [Region.wanted, hgd]
  rw [if_pos hw]
  exact wp_append_own w s x t ho base e i z size bytes ht hi hz hsize hby hzs hsz v n xs hs hown ad m c news hx hl hnews h1 h63 hbytes hbase fun v' w' h2 h3 _ => h v' w' h2 h3

theorem calls_news {w : World} {b off : Nat} {m : List (Int × Int)} (h : ∀ i, i < m.length → w.cell? ⟨b, off + i * 2, none⟩ = some (.int .i64 (ca m i)) ∧ w.cell? ⟨b, off + i * 2 + 1, none⟩ = some (.int .i64 (cb m i))) :
    ∀ j u, (cs m)[j]? = some u → w.cell? ((⟨b, off, none⟩ : Addr).add j) = some u := by
  intro j u hu
  have hadd : (⟨b, off, none⟩ : Addr).add j = ⟨b, off + j, none⟩ := by unfold Addr.add; split <;> simp_all
  rw [hadd]
  have hj : j < (cs m).length := (List.getElem?_eq_some_iff.1 hu).1
  rw [cs_length] at hj
  obtain ⟨i, hi⟩ : ∃ i, j = i * 2 ∨ j = i * 2 + 1 := ⟨j / 2, by omega⟩
  rcases hi with rfl | rfl
  · rw [cs_even _ i (by omega)] at hu
    rw [(h i (by omega)).1]; exact hu
  · rw [cs_odd _ i (by omega)] at hu
    rw [← Nat.add_assoc, (h i (by omega)).2]; exact hu

theorem calls_drop {w : World} {b off n : Nat} {l : List (Int × Int)} (hn : n = l.length) (h : ∀ i, i < n → w.cell? ⟨b, off + i * 2, none⟩ = some (.int .i64 (ca l i)) ∧ w.cell? ⟨b, off + i * 2 + 1, none⟩ = some (.int .i64 (cb l i))) (k : Nat) :
    ∀ i, i < (l.drop k).length → w.cell? ⟨b, off + k * 2 + i * 2, none⟩ = some (.int .i64 (ca (l.drop k) i)) ∧ w.cell? ⟨b, off + k * 2 + i * 2 + 1, none⟩ = some (.int .i64 (cb (l.drop k) i)) := by
  intro i hi
  have hi' : k + i < n := by rw [List.length_drop] at hi; omega
  have e1 : ca (l.drop k) i = ca l (k + i) := by simp [ca, List.getD_eq_getElem?_getD]
  have e2 : cb (l.drop k) i = cb l (k + i) := by simp [cb, List.getD_eq_getElem?_getD]
  rw [e1, e2, show off + k * 2 + i * 2 = off + (k + i) * 2 by omega]
  exact h _ hi'

theorem calls_keep {w w' : World} {b off n : Nat} {l : List (Int × Int)} (hb : Below w.heap.size w w') (h : ∀ i, i < n → w.cell? ⟨b, off + i * 2, none⟩ = some (.int .i64 (ca l i)) ∧ w.cell? ⟨b, off + i * 2 + 1, none⟩ = some (.int .i64 (cb l i))) :
    ∀ i, i < n → w'.cell? ⟨b, off + i * 2, none⟩ = some (.int .i64 (ca l i)) ∧ w'.cell? ⟨b, off + i * 2 + 1, none⟩ = some (.int .i64 (cb l i)) :=
  fun i hi => ⟨cell_old hb (h i hi).1, cell_old hb (h i hi).2⟩

theorem step_append_nil {P : Program} (w : World) {ops : Array Oper} {o : Oper} {a : Act} {K : Act → World → Prop} {Q : Exit → Act → World → Prop} {E : Prop} (hgd : o.guard = none) (s x : Operand) (t : TypeId)
    (ho : o.op = .call { callee := .builtin .append, args := #[s, x], argTypes := #[t, t] })
    (base : Nat) (e : TypeId) (i : TypeInfo) (size : Nat) (ht : P.underlying t = some (.slice e)) (hi : P.info? e = some i)
    (v : Value) (n : Nat) (xs : List Value) (hs : a.eval s = v) (hown : w.ownsRow base e size v n xs) (hx : a.eval x = .slice none 0 0)
    (h : K (a.put o.dst v) w) :
    if Region.wanted o (yielded ops a.tmps) = true then Oper.wp P o a w K Q else E := by
  have hw : Region.wanted o (yielded ops a.tmps) = true := by simp [Region.wanted, hgd]
  rw [if_pos hw]
  have hrun := run_append_owned_none (P := P) (w := w) base t o.type e i size ht hi v n xs hown
  unfold Oper.wp
  simp [execOp, ho, resolve, invoke, builtin, hs, hx, hrun, Result.andThen]
  exact h

theorem keepS {w3 w' : World} {B : Nat} {u v : Value} (h0 : w3.cell? ⟨B, 0, none⟩ = some u) (h1 : w3.cell? ⟨B, 1, none⟩ = some v) (hb : Below w3.heap.size w3 w') : w'.cell? ⟨B, 0, none⟩ = some u ∧ w'.cell? ⟨B, 1, none⟩ = some v ∧ Hid (Below w3.heap.size w3 w') :=
  ⟨cell_old hb h0, cell_old hb h1, Lib.hid hb⟩
theorem news_far {w w' : World} {g b : Nat} {us : List Value} (hg : w.grownBy w' (some g)) (hne : b ≠ g) (h : ∀ (j : Nat) u, us[j]? = some u → w.cell? ((⟨b, 0, none⟩ : Addr).add j) = some u) : ∀ (j : Nat) u, us[j]? = some u → w'.cell? ((⟨b, 0, none⟩ : Addr).add j) = some u := by
  intro j u hu
  have h1 := h j u hu
  rw [add_at] at h1 ⊢
  have hlt := World.block_lt_of_cell? w _ h1
  rw [hg.cell_far _ hlt (by simpa using hne)]
  exact h1


set_option maxRecDepth 20000 in
set_option maxHeartbeats 4000000 in
theorem roPut_pos (b off cap : Nat) (l : List (Int × Int)) (n : Nat) (x y : Int) (w : World) (Hn : Hid (n = l.length)) (hn : n ≤ 1000) (hcap : n ≤ cap)
    (Hc : Hid (∀ i, i < n → w.cell? ⟨b, off + i * 2, none⟩ = some (.int .i64 (ca l i)) ∧ w.cell? ⟨b, off + i * 2 + 1, none⟩ = some (.int .i64 (cb l i)))) :
    Calls Try.prog 32 #[.slice (some ⟨b, off, none⟩) n cap, .agg #[.int .i64 x, .int .i64 y]] w fun e w' => ∃ v, e = .returned v ∧ w'.ownsRow w.heap.size 46 2 v (n + 1) (cs (putL l (x, y))) ∧ Below w.heap.size w w' := by
  obtain ⟨i0, hi, hz0, hz1, hz2⟩ := info_parts info46
  go_enter Try.func32, Try.ntmps32
  go_wp2_with fail
  obtain ⟨W, hW⟩ : ∃ W, w.alloc (Obj.cells #[Value.int IntKind.i64 x, Value.int IntKind.i64 y] 46) = W := ⟨_, rfl⟩
  have hc0 : W.cell? ⟨w.heap.size, 0, none⟩ = some (.int .i64 x) := by rw [← hW]; simp
  have hc1 : W.cell? ⟨w.heap.size, 1, none⟩ = some (.int .i64 y) := by rw [← hW]; simp
  have hbW : Hid (Below w.heap.size w W) := by rw [← hW]; exact (Below.refl _ _).alloc (Nat.le_refl _) _
  try rw [hW]
  clear hW
  have HC0 := Lib.hid hc0
  have HC1 := Lib.hid hc1
  clear hc0 hc1
  go_loopw [5] (fun i wr => ∃ k : Nat, k ≤ n ∧ i = .int .i64 k ∧ Hid (posL l (x, y) n = posL l (x, y) k) ∧ Below W.heap.size W wr) (fun i _ => (intOf i).toNat)
  case atStart => exact ⟨n, Nat.le_refl _, rfl, Lib.hid rfl, Below.refl _ _⟩
  case round =>
    obtain ⟨k, hk, rfl, hpos, hbel⟩ := hrel
    have C0 := cell_old hbel HC0.out
    have C1 := cell_old hbel HC1.out
    by_cases hz : k = 0
    · have hgt : decide ((0 : Int) < (k : Int)) = false := by simp; omega
      have hgtN : decide (0 < k) = false := by simp; omega
      have Hpos : Hid (posL l (x, y) n = k) := Lib.hid (by rw [hpos.out, hz]; rfl)
      clear hz hpos
      have c0g : ∀ m os, (Sort.grow (wr.drewN m) os).cell? ⟨w.heap.size, 0, none⟩ = some (.int .i64 x) := cell_grown (World.block_lt_of_cell? _ _ C0) C0
      have c1g : ∀ m os, (Sort.grow (wr.drewN m) os).cell? ⟨w.heap.size, 1, none⟩ = some (.int .i64 y) := cell_grown (World.block_lt_of_cell? _ _ C1) C1
      go_wp2_with fail
      refine wp_region_quiet_grown mixedT (by kernel_rfl) ?_
      repeat (go_big_quiet_step (first | fail))
      refine wpQuiet_nil ?_
      intro _ hwz
      obtain ⟨⟨nq, osq⟩, hwz2⟩ := hwz
      subst hwz2
      have hb3 : Below W.heap.size W (Sort.grow (wr.drewN nq) osq) := hbel.trans ((grown_below ⟨⟨nq, osq⟩, rfl⟩).mono hbel.size)
      have d0 := c0g nq osq
      have d1 := c1g nq osq
      clear c0g c1g hbel C0 C1
      generalize Sort.grow (wr.drewN nq) osq = w3 at *
      clear hgt hgtN
  
      have Hw3 := Lib.hid (hbW.out.trans (hb3.mono hbW.out.size))
      have hs3 := hb3.size
      obtain ⟨off2, hif, HN2q⟩ : ∃ off2, (if cap = k then (some ⟨b, off, none⟩ : Option Addr) else some ⟨b, off + k * 2, none⟩) = some ⟨b, off2, none⟩ ∧ (∀ w', Below w.heap.size w w' → ∀ j u, (cs (l.drop k))[j]? = some u → w'.cell? ((⟨b, off2, none⟩ : Addr).add j) = some u) := by
        by_cases hck : cap = k
        · have hd : l.drop k = [] := List.drop_eq_nil_of_le (by rw [← Hn.out]; omega)
          refine ⟨off, by rw [if_pos hck], fun w' _ j u hu => ?_⟩
          rw [hd] at hu
          simp [cs] at hu
        · exact ⟨off + k * 2, by rw [if_neg hck], fun w' hb => calls_news (calls_drop Hn.out (calls_keep hb Hc.out) k)⟩
      have HN2 := Lib.hid HN2q
      have Hif := Lib.hid hif
      clear HN2q hif
      have HN1 : Hid (∀ w', Below w3.heap.size w3 w' → ∀ j u, (cs (l.take k))[j]? = some u → w'.cell? ((⟨b, off, none⟩ : Addr).add j) = some u) := by
        intro w' hbb
        refine calls_news fun i hi => ?_
        have hi' : i < k ∧ i < n := by rw [List.length_take] at hi; have := Hn.out; omega
        have e1 : ca (l.take k) i = ca l i := by simp [ca, List.getD_eq_getElem?_getD, hi'.1]
        have e2 : cb (l.take k) i = cb l i := by simp [cb, List.getD_eq_getElem?_getD, hi'.1]
        rw [e1, e2]
        exact calls_keep hbb (calls_keep Hw3.out Hc.out) i hi'.2
      have HL1 : Hid ((cs (l.take k)).length = k * 2) := by show _ = _; rw [cs_length, List.length_take, ← Hn.out]; omega
      have HL2 : Hid ((cs (l.drop k)).length = (n - k) * 2) := by show _ = _; rw [cs_length, List.length_drop, ← Hn.out]
      have HB1 : Hid (∀ o, Below w3.heap.size w3 (w3.alloc o).drew) := fun o => ((Below.refl _ _).alloc (Nat.le_refl _) _).drew
      have HB2 : Hid (∀ o o', Below w3.heap.size w3 ((w3.alloc o).alloc o').drew) := fun o o' => (((Below.refl _ _).alloc (Nat.le_refl _) _).alloc (by simp) _).drew
      have HE1 : Hid ((w3.alloc (.cells #[] 46)).drew.ownsRow w3.heap.size 46 2 (.slice (some ⟨w3.heap.size, 0, none⟩) 0 0) 0 []) := (World.ownsRow_lit w3 #[] 0 (Nat.le_refl _) (by unfold maxLen; omega) rfl).drew
      have HE2 : Hid (((w3.alloc (.cells #[] 46)).alloc (.cells #[.int .i64 x, .int .i64 y] 46)).drew.ownsRow w3.heap.size 46 2 (.slice (some ⟨w3.heap.size, 0, none⟩) 0 0) 0 []) := ((World.ownsRow_lit w3 #[] 0 (Nat.le_refl _) (by unfold maxLen; omega) rfl).alloc _).drew
      have HE3 : Hid (((w3.alloc (.cells #[.int .i64 x, .int .i64 y] 46)).alloc (.cells #[] 46)).drew.ownsRow w3.heap.size 46 2 (.slice (some ⟨w3.heap.size + 1, 0, none⟩) 0 0) 0 []) := by
        have h := (World.ownsRow_lit (base := w3.heap.size) (w3.alloc (.cells #[.int .i64 x, .int .i64 y] 46)) #[] 0 (e := 46) (size := 2) (by simp) (by unfold maxLen; omega) rfl).drew
        exact Lib.hid (by simpa using h)
      have HNE2 : Hid (∀ (j : Nat) u, [Value.int .i64 x, .int .i64 y][j]? = some u → (((w3.alloc (.cells #[] 46)).alloc (.cells #[.int .i64 x, .int .i64 y] 46)).drew).cell? ((⟨w3.heap.size + 1, 0, none⟩ : Addr).add j) = some u) := by
        have h := World.news_of_block (cs := #[.int .i64 x, .int .i64 y]) (t := 46) (fr := (0, 0)) (heap_alloc_new (w3.alloc (.cells #[] 46)) (.cells #[.int .i64 x, .int .i64 y] 46))
        exact Lib.hid (by simpa using h)
      have HNE3 : Hid (∀ (j : Nat) u, [Value.int .i64 x, .int .i64 y][j]? = some u → (((w3.alloc (.cells #[.int .i64 x, .int .i64 y] 46)).alloc (.cells #[] 46)).drew).cell? ((⟨w3.heap.size, 0, none⟩ : Addr).add j) = some u) := by
        intro j u hu
        have h := World.news_of_block (cs := #[.int .i64 x, .int .i64 y]) (t := 46) (fr := (0, 0)) (heap_alloc_new w3 (.cells #[.int .i64 x, .int .i64 y] 46)) j u hu
        rw [add_at] at h ⊢
        have := cell_old ((Below.refl _ (w3.alloc (.cells #[.int .i64 x, .int .i64 y] 46))).alloc (Nat.le_refl _) (.cells #[] 46)) h
        exact this
      have HONE : Hid (∀ u ∈ [Value.int .i64 x, .int .i64 y], u.oneCell' = true) := by intro u hu; simp at hu; rcases hu with rfl | rfl <;> rfl
      have hk0 : (0 : Int) ≤ (k : Int) := by omega
      have hk1 : (k : Int) ≤ (n : Int) := by omega
      have hk2 : (k : Int) ≤ (cap : Int) := by omega
      have hk5 : (n : Int) ≤ (cap : Int) := by omega
      have H0 := Lib.hid d0
      have H1 := Lib.hid d1
      clear d0 d1
      go_wp2_with fail
      go_region_held3 (fun w' => w'.cell? ⟨w.heap.size, 0, none⟩ = some (.int .i64 x) ∧ w'.cell? ⟨w.heap.size, 1, none⟩ = some (.int .i64 y) ∧ Hid (Below w3.heap.size w3 w'))
        (first | exact keepS H0.out H1.out (Below.refl _ _).drew | exact keepS H0.out H1.out (HB1.out _) | exact keepS H0.out H1.out (HB2.out _ _) | assumption | exact keepS H0.out H1.out hb26 | exact keepS H0.out H1.out (hb26.alloc hb26.size _) | exact keepS H0.out H1.out hb29)
        (first
          | (refine step_append_mine _ (by rfl) _ _ _ (by rfl) w3.heap.size 46 i0 _ 2 16 Try.underlying29 hi hz0 hz1 hz2 rfl (by omega) _ 0 [] (by rfl) HE1.out ⟨b, off, none⟩ k _ (cs (l.take k)) (by rfl) HL1.out (HN1.out _ (HB1.out _)) (cs_one _) (by unfold maxLen; omega) (by omega) (by simp) ?_
             intro v26 w26 own26 gr26
             have hb26 : Below w3.heap.size w3 w26 := (HB1.out _).grown gr26 (by simp) (by intro b hb; cases hb; exact Nat.le_refl _))
          | (refine step_append_mine _ (by rfl) _ _ _ (by rfl) w3.heap.size 46 i0 _ 2 16 Try.underlying29 hi hz0 hz1 hz2 rfl (by omega) _ 0 [] (by rfl) HE2.out ⟨b, off, none⟩ k _ (cs (l.take k)) (by rfl) HL1.out (HN1.out _ (HB2.out _ _)) (cs_one _) (by unfold maxLen; omega) (by omega) (HB2.out _ _).size ?_
             intro v26 w26 own26 gr26
             have hb26 : Below w3.heap.size w3 w26 := (HB2.out _ _).grown gr26 (HB2.out _ _).size (by intro b hb; cases hb; exact Nat.le_refl _)
             have gr26q : World.grownBy (((w3.alloc (.cells #[] 46)).alloc (.cells #[.int .i64 x, .int .i64 y] 46)).drew) w26 (some w3.heap.size) := gr26
             have HN26 := Lib.hid (news_far gr26q (show w3.heap.size + 1 ≠ w3.heap.size by omega) HNE2.out))
          | (refine step_append_mine _ (by rfl) _ _ _ (by rfl) w3.heap.size 46 i0 _ 2 16 Try.underlying29 hi hz0 hz1 hz2 rfl (by omega) _ 0 [] (by rfl) HE3.out ⟨b, off, none⟩ k _ (cs (l.take k)) (by rfl) HL1.out (HN1.out _ (HB2.out _ _)) (cs_one _) (by unfold maxLen; omega) (by omega) (HB2.out _ _).size ?_
             intro v26 w26 own26 gr26
             have hb26 : Below w3.heap.size w3 w26 := (HB2.out _ _).grown gr26 (HB2.out _ _).size (by intro b hb; cases hb; exact Nat.le_succ _)
             have gr26q : World.grownBy (((w3.alloc (.cells #[.int .i64 x, .int .i64 y] 46)).alloc (.cells #[] 46)).drew) w26 (some (w3.heap.size + 1)) := gr26
             have HN26 := Lib.hid (news_far gr26q (show w3.heap.size ≠ w3.heap.size + 1 by omega) HNE3.out))
          | (refine step_append_mine _ (by rfl) _ _ _ (by rfl) w3.heap.size 46 i0 _ 2 16 Try.underlying29 hi hz0 hz1 hz2 rfl (by omega) _ _ _ (by rfl) (own26.alloc _) ⟨w26.heap.size, 0, none⟩ 1 _ [.int .i64 x, .int .i64 y] (by rfl) (by rfl) (World.news_of_block (cs := #[.int .i64 x, .int .i64 y]) (t := 46) (fr := (0, 0)) (heap_alloc_new _ _)) HONE.out (by unfold maxLen; omega) (by omega) (by have := hb26.size; simp; omega) ?_
             intro v29 w29 own29 gr29
             have hb29 : Below w3.heap.size w3 w29 := (hb26.alloc hb26.size _).grown gr29 (by have := hb26.size; simp; omega) (fun b hb => (own26.lt b hb).1))
          | (refine step_append_mine _ (by rfl) _ _ _ (by rfl) w3.heap.size 46 i0 _ 2 16 Try.underlying29 hi hz0 hz1 hz2 rfl (by omega) _ _ _ (by rfl) own26 ⟨_, 0, none⟩ 1 _ [.int .i64 x, .int .i64 y] (by rfl) (by rfl) HN26.out HONE.out (by unfold maxLen; omega) (by omega) hb26.size ?_
             intro v29 w29 own29 gr29
             have hb29 : Below w3.heap.size w3 w29 := hb26.grown gr29 hb26.size (fun b hb => (own26.lt b hb).1))
          | fail)
      all_goals
        have Own29 := Lib.hid own29
        have Hb29 := Lib.hid hb29
        have hs29 := hb29.size
        have hif := Hif.out
        clear own29 hb29
        go_wp2_with (at_builtin; refine wpList_append_own _ rfl _ _ 29 rfl w3.heap.size 46 i0 (.agg #[.int .i64 0, .int .i64 0]) 2 16 Try.underlying29 hi hz0 hz1 hz2 rfl (by decide) _ _ _ rfl Own29.out ⟨b, off2, none⟩ (n - k) _ (cs (l.drop k)) rfl HL2.out (HN2.out _ (Hw3.out.trans (Hb29.out.mono Hw3.out.size))) (cs_one _) (by unfold maxLen; omega) (by omega) hs29 ?_)
        intro v5 w5 own5 gr5 _
        have Own5 : Hid (w5.ownsRow w.heap.size 46 2 v5 (n + 1) (cs (putL l (x, y)))) := Lib.hid (by
          have e1 : k + 1 + (n - k) = n + 1 := by omega
          have e2 : cs (putL l (x, y)) = cs (l.take k) ++ .int .i64 x :: .int .i64 y :: cs (l.drop k) := by
            unfold putL
            rw [← Hn.out, Hpos.out, cs_append]
            rfl
          rw [e2, ← e1]
          exact own_base Hw3.out.size own5)
        have Hb5 : Hid (Below w.heap.size w w5) := Lib.hid (Hw3.out.trans ((Hb29.out.grown gr5 hs29 (fun b hb => (Own29.out.lt b hb).1)).mono Hw3.out.size))
        clear own5 gr5
        go_wp2_with fail
        go_ret
        exact ⟨_, rfl, Own5.out, Hb5.out⟩
    · obtain ⟨q, hq⟩ : ∃ q, k = q + 1 := ⟨k - 1, by omega⟩
      have hsub : (k : Int) - 1 = (q : Int) := by omega
      have hwj : IntKind.i64.wrap (q : Int) = (q : Int) := IntWalk.i64_in _ (by omega)
      have hqn : q < n := by omega
      have hbq := hbW.out.trans (hbel.mono hbW.out.size)
      have P0 := cell_old hbq (Hc.out q hqn).1
      have P1 := cell_old hbq (Hc.out q hqn).2
      have hq0 : (0 : Int) ≤ q := by omega
      have hq2 : (q : Int) < n := by omega
      have hgt : (0 : Int) < (k : Int) := by omega
      have hgtN : 0 < k := by omega
      clear hbq
      cases hlt : ltC x y (ca l q) (cb l q)
      · have Hpos : Hid (posL l (x, y) n = k) := Lib.hid (by rw [hpos.out, hq]; unfold posL; simp only [hlt]; rfl)
        have Hlt := Lib.hid hlt
        clear hlt hpos hq
        have c0g : ∀ m os, (Sort.grow (wr.drewN m) os).cell? ⟨w.heap.size, 0, none⟩ = some (.int .i64 x) := cell_grown (World.block_lt_of_cell? _ _ C0) C0
        have c1g : ∀ m os, (Sort.grow (wr.drewN m) os).cell? ⟨w.heap.size, 1, none⟩ = some (.int .i64 y) := cell_grown (World.block_lt_of_cell? _ _ C1) C1
        have p0g : ∀ m os, (Sort.grow (wr.drewN m) os).cell? ⟨b, off + q * 2, none⟩ = some (.int .i64 (ca l q)) := cell_grown (World.block_lt_of_cell? _ _ P0) P0
        have p1g : ∀ m os, (Sort.grow (wr.drewN m) os).cell? ⟨b, off + q * 2 + 1, none⟩ = some (.int .i64 (cb l q)) := cell_grown (World.block_lt_of_cell? _ _ P1) P1
        have hro : ∀ m os, Calls Try.prog 41 #[.agg #[.int .i64 x, .int .i64 y], .agg #[.int .i64 (ca l q), .int .i64 (cb l q)]] (Sort.grow (wr.drewN m) os) fun e w' => e = .returned (.bool false) ∧ ∃ q os', w' = Sort.grow ((Sort.grow (wr.drewN m) os).drewN q) os' := fun m os => by have := roLess_grown x y (ca l q) (cb l q) (Sort.grow (wr.drewN m) os); rw [Hlt.out] at this; exact this
        go_wp2_with fail
        refine wp_region_quiet_grown mixedT (by kernel_rfl) ?_
        repeat (go_big_quiet_step (first | refine Calls.grown_of (hro _ _)))
        refine wpQuiet_nil ?_
        intro _ hwz
        obtain ⟨⟨nq, osq⟩, hwz2⟩ := hwz
        subst hwz2
        have hb3 : Below W.heap.size W (Sort.grow (wr.drewN nq) osq) := hbel.trans ((grown_below ⟨⟨nq, osq⟩, rfl⟩).mono hbel.size)
        have d0 := c0g nq osq
        have d1 := c1g nq osq
        clear c0g c1g hbel C0 C1 p0g p1g hro P0 P1
        generalize Sort.grow (wr.drewN nq) osq = w3 at *
        clear hgt hgtN hq0 hq2 hsub hwj hqn
    
        have Hw3 := Lib.hid (hbW.out.trans (hb3.mono hbW.out.size))
        have hs3 := hb3.size
        obtain ⟨off2, hif, HN2q⟩ : ∃ off2, (if cap = k then (some ⟨b, off, none⟩ : Option Addr) else some ⟨b, off + k * 2, none⟩) = some ⟨b, off2, none⟩ ∧ (∀ w', Below w.heap.size w w' → ∀ j u, (cs (l.drop k))[j]? = some u → w'.cell? ((⟨b, off2, none⟩ : Addr).add j) = some u) := by
          by_cases hck : cap = k
          · have hd : l.drop k = [] := List.drop_eq_nil_of_le (by rw [← Hn.out]; omega)
            refine ⟨off, by rw [if_pos hck], fun w' _ j u hu => ?_⟩
            rw [hd] at hu
            simp [cs] at hu
          · exact ⟨off + k * 2, by rw [if_neg hck], fun w' hb => calls_news (calls_drop Hn.out (calls_keep hb Hc.out) k)⟩
        have HN2 := Lib.hid HN2q
        have Hif := Lib.hid hif
        clear HN2q hif
        have HN1 : Hid (∀ w', Below w3.heap.size w3 w' → ∀ j u, (cs (l.take k))[j]? = some u → w'.cell? ((⟨b, off, none⟩ : Addr).add j) = some u) := by
          intro w' hbb
          refine calls_news fun i hi => ?_
          have hi' : i < k ∧ i < n := by rw [List.length_take] at hi; have := Hn.out; omega
          have e1 : ca (l.take k) i = ca l i := by simp [ca, List.getD_eq_getElem?_getD, hi'.1]
          have e2 : cb (l.take k) i = cb l i := by simp [cb, List.getD_eq_getElem?_getD, hi'.1]
          rw [e1, e2]
          exact calls_keep hbb (calls_keep Hw3.out Hc.out) i hi'.2
        have HL1 : Hid ((cs (l.take k)).length = k * 2) := by show _ = _; rw [cs_length, List.length_take, ← Hn.out]; omega
        have HL2 : Hid ((cs (l.drop k)).length = (n - k) * 2) := by show _ = _; rw [cs_length, List.length_drop, ← Hn.out]
        have HB1 : Hid (∀ o, Below w3.heap.size w3 (w3.alloc o).drew) := fun o => ((Below.refl _ _).alloc (Nat.le_refl _) _).drew
        have HB2 : Hid (∀ o o', Below w3.heap.size w3 ((w3.alloc o).alloc o').drew) := fun o o' => (((Below.refl _ _).alloc (Nat.le_refl _) _).alloc (by simp) _).drew
        have HE1 : Hid ((w3.alloc (.cells #[] 46)).drew.ownsRow w3.heap.size 46 2 (.slice (some ⟨w3.heap.size, 0, none⟩) 0 0) 0 []) := (World.ownsRow_lit w3 #[] 0 (Nat.le_refl _) (by unfold maxLen; omega) rfl).drew
        have HE2 : Hid (((w3.alloc (.cells #[] 46)).alloc (.cells #[.int .i64 x, .int .i64 y] 46)).drew.ownsRow w3.heap.size 46 2 (.slice (some ⟨w3.heap.size, 0, none⟩) 0 0) 0 []) := ((World.ownsRow_lit w3 #[] 0 (Nat.le_refl _) (by unfold maxLen; omega) rfl).alloc _).drew
        have HE3 : Hid (((w3.alloc (.cells #[.int .i64 x, .int .i64 y] 46)).alloc (.cells #[] 46)).drew.ownsRow w3.heap.size 46 2 (.slice (some ⟨w3.heap.size + 1, 0, none⟩) 0 0) 0 []) := by
          have h := (World.ownsRow_lit (base := w3.heap.size) (w3.alloc (.cells #[.int .i64 x, .int .i64 y] 46)) #[] 0 (e := 46) (size := 2) (by simp) (by unfold maxLen; omega) rfl).drew
          exact Lib.hid (by simpa using h)
        have HNE2 : Hid (∀ (j : Nat) u, [Value.int .i64 x, .int .i64 y][j]? = some u → (((w3.alloc (.cells #[] 46)).alloc (.cells #[.int .i64 x, .int .i64 y] 46)).drew).cell? ((⟨w3.heap.size + 1, 0, none⟩ : Addr).add j) = some u) := by
          have h := World.news_of_block (cs := #[.int .i64 x, .int .i64 y]) (t := 46) (fr := (0, 0)) (heap_alloc_new (w3.alloc (.cells #[] 46)) (.cells #[.int .i64 x, .int .i64 y] 46))
          exact Lib.hid (by simpa using h)
        have HNE3 : Hid (∀ (j : Nat) u, [Value.int .i64 x, .int .i64 y][j]? = some u → (((w3.alloc (.cells #[.int .i64 x, .int .i64 y] 46)).alloc (.cells #[] 46)).drew).cell? ((⟨w3.heap.size, 0, none⟩ : Addr).add j) = some u) := by
          intro j u hu
          have h := World.news_of_block (cs := #[.int .i64 x, .int .i64 y]) (t := 46) (fr := (0, 0)) (heap_alloc_new w3 (.cells #[.int .i64 x, .int .i64 y] 46)) j u hu
          rw [add_at] at h ⊢
          have := cell_old ((Below.refl _ (w3.alloc (.cells #[.int .i64 x, .int .i64 y] 46))).alloc (Nat.le_refl _) (.cells #[] 46)) h
          exact this
        have HONE : Hid (∀ u ∈ [Value.int .i64 x, .int .i64 y], u.oneCell' = true) := by intro u hu; simp at hu; rcases hu with rfl | rfl <;> rfl
        have hk0 : (0 : Int) ≤ (k : Int) := by omega
        have hk1 : (k : Int) ≤ (n : Int) := by omega
        have hk2 : (k : Int) ≤ (cap : Int) := by omega
        have hk5 : (n : Int) ≤ (cap : Int) := by omega
        have H0 := Lib.hid d0
        have H1 := Lib.hid d1
        clear d0 d1
        go_wp2_with fail
        go_region_held3 (fun w' => w'.cell? ⟨w.heap.size, 0, none⟩ = some (.int .i64 x) ∧ w'.cell? ⟨w.heap.size, 1, none⟩ = some (.int .i64 y) ∧ Hid (Below w3.heap.size w3 w'))
          (first | exact keepS H0.out H1.out (Below.refl _ _).drew | exact keepS H0.out H1.out (HB1.out _) | exact keepS H0.out H1.out (HB2.out _ _) | assumption | exact keepS H0.out H1.out hb26 | exact keepS H0.out H1.out (hb26.alloc hb26.size _) | exact keepS H0.out H1.out hb29)
          (first
            | (refine step_append_mine _ (by rfl) _ _ _ (by rfl) w3.heap.size 46 i0 _ 2 16 Try.underlying29 hi hz0 hz1 hz2 rfl (by omega) _ 0 [] (by rfl) HE1.out ⟨b, off, none⟩ k _ (cs (l.take k)) (by rfl) HL1.out (HN1.out _ (HB1.out _)) (cs_one _) (by unfold maxLen; omega) (by omega) (by simp) ?_
               intro v26 w26 own26 gr26
               have hb26 : Below w3.heap.size w3 w26 := (HB1.out _).grown gr26 (by simp) (by intro b hb; cases hb; exact Nat.le_refl _))
            | (refine step_append_mine _ (by rfl) _ _ _ (by rfl) w3.heap.size 46 i0 _ 2 16 Try.underlying29 hi hz0 hz1 hz2 rfl (by omega) _ 0 [] (by rfl) HE2.out ⟨b, off, none⟩ k _ (cs (l.take k)) (by rfl) HL1.out (HN1.out _ (HB2.out _ _)) (cs_one _) (by unfold maxLen; omega) (by omega) (HB2.out _ _).size ?_
               intro v26 w26 own26 gr26
               have hb26 : Below w3.heap.size w3 w26 := (HB2.out _ _).grown gr26 (HB2.out _ _).size (by intro b hb; cases hb; exact Nat.le_refl _)
               have gr26q : World.grownBy (((w3.alloc (.cells #[] 46)).alloc (.cells #[.int .i64 x, .int .i64 y] 46)).drew) w26 (some w3.heap.size) := gr26
               have HN26 := Lib.hid (news_far gr26q (show w3.heap.size + 1 ≠ w3.heap.size by omega) HNE2.out))
            | (refine step_append_mine _ (by rfl) _ _ _ (by rfl) w3.heap.size 46 i0 _ 2 16 Try.underlying29 hi hz0 hz1 hz2 rfl (by omega) _ 0 [] (by rfl) HE3.out ⟨b, off, none⟩ k _ (cs (l.take k)) (by rfl) HL1.out (HN1.out _ (HB2.out _ _)) (cs_one _) (by unfold maxLen; omega) (by omega) (HB2.out _ _).size ?_
               intro v26 w26 own26 gr26
               have hb26 : Below w3.heap.size w3 w26 := (HB2.out _ _).grown gr26 (HB2.out _ _).size (by intro b hb; cases hb; exact Nat.le_succ _)
               have gr26q : World.grownBy (((w3.alloc (.cells #[.int .i64 x, .int .i64 y] 46)).alloc (.cells #[] 46)).drew) w26 (some (w3.heap.size + 1)) := gr26
               have HN26 := Lib.hid (news_far gr26q (show w3.heap.size ≠ w3.heap.size + 1 by omega) HNE3.out))
            | (refine step_append_mine _ (by rfl) _ _ _ (by rfl) w3.heap.size 46 i0 _ 2 16 Try.underlying29 hi hz0 hz1 hz2 rfl (by omega) _ _ _ (by rfl) (own26.alloc _) ⟨w26.heap.size, 0, none⟩ 1 _ [.int .i64 x, .int .i64 y] (by rfl) (by rfl) (World.news_of_block (cs := #[.int .i64 x, .int .i64 y]) (t := 46) (fr := (0, 0)) (heap_alloc_new _ _)) HONE.out (by unfold maxLen; omega) (by omega) (by have := hb26.size; simp; omega) ?_
               intro v29 w29 own29 gr29
               have hb29 : Below w3.heap.size w3 w29 := (hb26.alloc hb26.size _).grown gr29 (by have := hb26.size; simp; omega) (fun b hb => (own26.lt b hb).1))
            | (refine step_append_mine _ (by rfl) _ _ _ (by rfl) w3.heap.size 46 i0 _ 2 16 Try.underlying29 hi hz0 hz1 hz2 rfl (by omega) _ _ _ (by rfl) own26 ⟨_, 0, none⟩ 1 _ [.int .i64 x, .int .i64 y] (by rfl) (by rfl) HN26.out HONE.out (by unfold maxLen; omega) (by omega) hb26.size ?_
               intro v29 w29 own29 gr29
               have hb29 : Below w3.heap.size w3 w29 := hb26.grown gr29 hb26.size (fun b hb => (own26.lt b hb).1))
            | fail)
        all_goals
          have Own29 := Lib.hid own29
          have Hb29 := Lib.hid hb29
          have hs29 := hb29.size
          have hif := Hif.out
          clear own29 hb29
          go_wp2_with (at_builtin; refine wpList_append_own _ rfl _ _ 29 rfl w3.heap.size 46 i0 (.agg #[.int .i64 0, .int .i64 0]) 2 16 Try.underlying29 hi hz0 hz1 hz2 rfl (by decide) _ _ _ rfl Own29.out ⟨b, off2, none⟩ (n - k) _ (cs (l.drop k)) rfl HL2.out (HN2.out _ (Hw3.out.trans (Hb29.out.mono Hw3.out.size))) (cs_one _) (by unfold maxLen; omega) (by omega) hs29 ?_)
          intro v5 w5 own5 gr5 _
          have Own5 : Hid (w5.ownsRow w.heap.size 46 2 v5 (n + 1) (cs (putL l (x, y)))) := Lib.hid (by
            have e1 : k + 1 + (n - k) = n + 1 := by omega
            have e2 : cs (putL l (x, y)) = cs (l.take k) ++ .int .i64 x :: .int .i64 y :: cs (l.drop k) := by
              unfold putL
              rw [← Hn.out, Hpos.out, cs_append]
              rfl
            rw [e2, ← e1]
            exact own_base Hw3.out.size own5)
          have Hb5 : Hid (Below w.heap.size w w5) := Lib.hid (Hw3.out.trans ((Hb29.out.grown gr5 hs29 (fun b hb => (Own29.out.lt b hb).1)).mono Hw3.out.size))
          clear own5 gr5
          go_wp2_with fail
          go_ret
          exact ⟨_, rfl, Own5.out, Hb5.out⟩
      · have Hpos : Hid (posL l (x, y) n = posL l (x, y) q) := Lib.hid (by rw [hpos.out, hq]; show (if ltC x y (ca l q) (cb l q) = true then posL l (x, y) q else q + 1) = _; rw [hlt]; rfl)
        have Hlt := Lib.hid hlt
        clear hlt hpos hq
        have c0g : ∀ m os, (Sort.grow (wr.drewN m) os).cell? ⟨w.heap.size, 0, none⟩ = some (.int .i64 x) := cell_grown (World.block_lt_of_cell? _ _ C0) C0
        have c1g : ∀ m os, (Sort.grow (wr.drewN m) os).cell? ⟨w.heap.size, 1, none⟩ = some (.int .i64 y) := cell_grown (World.block_lt_of_cell? _ _ C1) C1
        have p0g : ∀ m os, (Sort.grow (wr.drewN m) os).cell? ⟨b, off + q * 2, none⟩ = some (.int .i64 (ca l q)) := cell_grown (World.block_lt_of_cell? _ _ P0) P0
        have p1g : ∀ m os, (Sort.grow (wr.drewN m) os).cell? ⟨b, off + q * 2 + 1, none⟩ = some (.int .i64 (cb l q)) := cell_grown (World.block_lt_of_cell? _ _ P1) P1
        have hro : ∀ m os, Calls Try.prog 41 #[.agg #[.int .i64 x, .int .i64 y], .agg #[.int .i64 (ca l q), .int .i64 (cb l q)]] (Sort.grow (wr.drewN m) os) fun e w' => e = .returned (.bool true) ∧ ∃ q os', w' = Sort.grow ((Sort.grow (wr.drewN m) os).drewN q) os' := fun m os => by have := roLess_grown x y (ca l q) (cb l q) (Sort.grow (wr.drewN m) os); rw [Hlt.out] at this; exact this
        go_wp2_with fail
        refine wp_region_quiet_grown mixedT (by kernel_rfl) ?_
        repeat (go_big_quiet_step (first | refine Calls.grown_of (hro _ _)))
        refine wpQuiet_nil ?_
        intro _ hwz
        obtain ⟨⟨nq, osq⟩, hwz2⟩ := hwz
        subst hwz2
        have hb3 : Below W.heap.size W (Sort.grow (wr.drewN nq) osq) := hbel.trans ((grown_below ⟨⟨nq, osq⟩, rfl⟩).mono hbel.size)
        have d0 := c0g nq osq
        have d1 := c1g nq osq
        clear c0g c1g hbel C0 C1 p0g p1g hro P0 P1
        generalize Sort.grow (wr.drewN nq) osq = w3 at *
        go_wp2_with fail
        go_roundw
        case rel => exact ⟨q, by omega, by go_num, Hpos, hb3⟩
        case measure => simp [intOf]; omega

end Go.Proofs.Ytnngdoiempmkkaa
