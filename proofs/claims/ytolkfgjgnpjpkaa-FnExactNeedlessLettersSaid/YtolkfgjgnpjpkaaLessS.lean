/- The letters that are not needed: the model. -/
import Derived.Test.YtolkfgjgnpjpkaaSame
namespace Go.Proofs.Ytolkfgjgnpjpkaa
open Go.ChangeShapes Go.WideShapes Go.ChangeAt Go.RowKit
set_option linter.unusedVariables false

/-- An append to a row of the call's own, as a step of a region that draws; nothing may be appended too. -/
theorem step_append_mine {P : Program} (w : World) {ops : Array Oper} {o : Oper} {a : Act} {K : Act → World → Prop} {Q : Exit → Act → World → Prop} {E : Prop} (hgd : o.guard = none) (s x : Operand) (t : TypeId)
    (ho : o.op = .call { callee := .builtin .append, args := #[s, x], argTypes := #[t, t] })
    (base : Nat) (e : TypeId) (i : TypeInfo) (z : Value) (size bytes : Nat) (ht : P.underlying t = some (.slice e)) (hi : P.info? e = some i) (hz : i.zero = some z)
    (hsize : i.size = size) (hby : i.bytes = bytes) (hzs : z.cells.size = size) (hsz : 0 < size)
    (v : Value) (n : Nat) (xs : List Value) (hs : a.eval s = v) (hown : w.ownsRow base e size v n xs)
    (ad : Addr) (m c : Nat) (news : List Value) (hx : a.eval x = .slice (some ad) m c) (hl : news.length = m * size) (hnews : ∀ j u, news[j]? = some u → w.cell? (ad.add j) = some u) (h1 : ∀ u ∈ news, u.oneCell' = true)
    (h63 : n + m ≤ maxLen) (hbytes : (n + m) * bytes ≤ 140737488355328) (hbase : base ≤ w.heap.size)
    (h : ∀ v' w', w'.ownsRow base e size v' (n + m) (xs ++ news) → w.grownBy w' v.ownBlock → K (a.put o.dst v') w') :
    if Region.wanted o (yielded ops a.tmps) = true then Oper.wp P o a w K Q else E := by
  have hw : Region.wanted o (yielded ops a.tmps) = true := by simp [Region.wanted, hgd]
  rw [if_pos hw]
  exact wp_append_own w s x t ho base e i z size bytes ht hi hz hsize hby hzs hsz v n xs hs hown ad m c news hx hl hnews h1 h63 hbytes hbase fun v' w' h2 h3 _ => h v' w' h2 h3

theorem cell_old {w wr : World} {a : Addr} {v : Value} (hb : Below w.heap.size w wr) (h : w.cell? a = some v) : wr.cell? a = some v := (hb.cell (World.block_lt_of_cell? w _ h)).trans h

theorem calls_news {w : World} {b off : Nat} {m : List (Int × Int)} (h : ∀ i, i < m.length → w.cell? ⟨b, off + i * 2, none⟩ = some (.int .i64 (ca m i)) ∧ w.cell? ⟨b, off + i * 2 + 1, none⟩ = some (.int .i64 (cb m i))) :
    ∀ j u, (cs m)[j]? = some u → w.cell? ((⟨b, off, none⟩ : Addr).add j) = some u := by
  intro j u hu
  have hadd : (⟨b, off, none⟩ : Addr).add j = ⟨b, off + j, none⟩ := by unfold Addr.add; split <;> simp_all
  rw [hadd]
  have hj : j < (cs m).length := (List.getElem?_eq_some_iff.1 hu).1
  rw [cs_length] at hj
  obtain ⟨i, hi⟩ : ∃ i, j = i * 2 ∨ j = i * 2 + 1 := ⟨j / 2, by omega⟩
  rcases hi with rfl | rfl
  · rw [cs_even _ i (by omega)] at hu
    rw [(h i (by omega)).1]; exact hu
  · rw [cs_odd _ i (by omega)] at hu
    rw [← Nat.add_assoc, (h i (by omega)).2]; exact hu

theorem calls_drop {w : World} {b off n : Nat} {l : List (Int × Int)} (hn : n = l.length) (h : ∀ i, i < n → w.cell? ⟨b, off + i * 2, none⟩ = some (.int .i64 (ca l i)) ∧ w.cell? ⟨b, off + i * 2 + 1, none⟩ = some (.int .i64 (cb l i))) (k : Nat) :
    ∀ i, i < (l.drop k).length → w.cell? ⟨b, off + k * 2 + i * 2, none⟩ = some (.int .i64 (ca (l.drop k) i)) ∧ w.cell? ⟨b, off + k * 2 + i * 2 + 1, none⟩ = some (.int .i64 (cb (l.drop k) i)) := by
  intro i hi
  have hi' : k + i < n := by rw [List.length_drop] at hi; omega
  have e1 : ca (l.drop k) i = ca l (k + i) := by simp [ca, List.getD_eq_getElem?_getD]
  have e2 : cb (l.drop k) i = cb l (k + i) := by simp [cb, List.getD_eq_getElem?_getD]
  rw [e1, e2, show off + k * 2 + i * 2 = off + (k + i) * 2 by omega]
  exact h _ hi'

theorem calls_keep {w w' : World} {b off n : Nat} {l : List (Int × Int)} (hb : Below w.heap.size w w') (h : ∀ i, i < n → w.cell? ⟨b, off + i * 2, none⟩ = some (.int .i64 (ca l i)) ∧ w.cell? ⟨b, off + i * 2 + 1, none⟩ = some (.int .i64 (cb l i))) :
    ∀ i, i < n → w'.cell? ⟨b, off + i * 2, none⟩ = some (.int .i64 (ca l i)) ∧ w'.cell? ⟨b, off + i * 2 + 1, none⟩ = some (.int .i64 (cb l i)) :=
  fun i hi => ⟨cell_old hb (h i hi).1, cell_old hb (h i hi).2⟩

def less (l : List (Int × Int)) (k : Nat) : List (Int × Int) := l.take k ++ l.drop (k + 1)

set_option maxRecDepth 20000 in
theorem leLess_at (b off off2 cap : Nat) (l : List (Int × Int)) (n k : Nat) (w : World) (Hn : Hid (n = l.length)) (hs : n ≤ 60) (hcap : n ≤ cap) (hk : k < n)
    (hif : (if cap = k + 1 then (some ⟨b, off, none⟩ : Option Addr) else some ⟨b, off + (k + 1) * 2, none⟩) = some ⟨b, off2, none⟩)
    (HN2 : Hid (∀ w', Below w.heap.size w w' → ∀ j u, (cs (l.drop (k + 1)))[j]? = some u → w'.cell? ((⟨b, off2, none⟩ : Addr).add j) = some u))
    (Hc : Hid (∀ i, i < n → w.cell? ⟨b, off + i * 2, none⟩ = some (.int .i64 (ca l i)) ∧ w.cell? ⟨b, off + i * 2 + 1, none⟩ = some (.int .i64 (cb l i)))) :
    Calls Try.prog 78 #[.slice (some ⟨b, off, none⟩) n cap, .int .i64 k] w fun e w' => ∃ v, e = .returned v ∧ w'.ownsRow w.heap.size 62 2 v (less l k).length (cs (less l k)) ∧ Below w.heap.size w w' := by
  obtain ⟨i0, hi, hz0, hz1, hz2⟩ := info_parts info62
  have hk0 : (0 : Int) ≤ (k : Int) := by omega
  have hk1 : (k : Int) ≤ (n : Int) := by omega
  have hk2 : (k : Int) ≤ (cap : Int) := by omega
  have hk3 : (0 : Int) ≤ (k : Int) + 1 := by omega
  have hk4 : (k : Int) + 1 ≤ (n : Int) := by omega
  have hk5 : (n : Int) ≤ (cap : Int) := by omega
  have hw1 : IntKind.i64.wrap ((k : Int) + 1) = (k : Int) + 1 := IntWalk.i64_in _ (by omega)
  have hw2 : ((k : Int) + 1).toNat = k + 1 := by omega
  have HN1 : Hid (∀ w', Below w.heap.size w w' → ∀ j u, (cs (l.take k))[j]? = some u → w'.cell? ((⟨b, off, none⟩ : Addr).add j) = some u) := by
    intro w' hb
    refine calls_news fun i hi => ?_
    have hi' : i < k ∧ i < n := by rw [List.length_take] at hi; omega
    have e1 : ca (l.take k) i = ca l i := by simp [ca, List.getD_eq_getElem?_getD, hi'.1]
    have e2 : cb (l.take k) i = cb l i := by simp [cb, List.getD_eq_getElem?_getD, hi'.1]
    rw [e1, e2]
    exact calls_keep hb Hc.out i hi'.2
  have HL1 : Hid ((cs (l.take k)).length = k * 2) := by show _ = _; rw [cs_length, List.length_take, ← Hn.out]; omega
  have HL2 : Hid ((cs (l.drop (k + 1))).length = (n - (k + 1)) * 2) := by show _ = _; rw [cs_length, List.length_drop, ← Hn.out]
  have HB0 : Hid (∀ o, Below w.heap.size w (w.alloc o).drew) := fun o => ((Below.refl _ _).alloc (Nat.le_refl _) _).drew
  have HO0 : Hid ((w.alloc (.cells #[] 62)).drew.ownsRow w.heap.size 62 2 (.slice (some ⟨w.heap.size, 0, none⟩) 0 0) 0 []) := (World.ownsRow_lit w #[] 0 (Nat.le_refl _) (by unfold maxLen; omega) rfl).drew
  go_enter Try.func78, Try.ntmps78
  go_wp2_with fail
  go_region_held3 (fun w' => Below w.heap.size w w')
    (first | exact (Below.refl _ _).drew | exact (HB0.out _) | assumption | go_keep)
    (first
      | (refine step_append_mine _ (by rfl) _ _ _ (by rfl) w.heap.size 62 i0 _ 2 16 Try.underlying25 hi hz0 hz1 hz2 rfl (by omega) _ 0 [] (by rfl) HO0.out ⟨b, off, none⟩ k _ (cs (l.take k)) (by rfl) HL1.out (HN1.out _ (HB0.out _)) (cs_one _) (by unfold maxLen; omega) (by omega) (by simp) ?_
         intro v1 w1 own1 gr1
         have hb1 : Below w.heap.size w w1 := (HB0.out _).grown gr1 (by simp) (by intro b hb; cases hb; exact Nat.le_refl _))
      | (refine step_append_mine _ (by rfl) _ _ _ (by rfl) w.heap.size 62 i0 _ 2 16 Try.underlying25 hi hz0 hz1 hz2 rfl (by omega) _ _ _ (by rfl) own1 ⟨b, off2, none⟩ (n - (k + 1)) _ (cs (l.drop (k + 1))) (by rfl) HL2.out (HN2.out _ hb1) (cs_one _) (by unfold maxLen; omega) (by omega) hb1.size ?_
         intro v2 w2 own2 gr2
         have hb2 : Below w.heap.size w w2 := hb1.grown gr2 hb1.size (fun b hb => (own1.lt b hb).1))
      | fail)
  go_wp2_with fail
  go_ret
  have hl : (less l k).length = 0 + k + (n - (k + 1)) := by simp [less, ← Hn.out]; omega
  exact ⟨_, rfl, by rw [hl, show cs (less l k) = [] ++ cs (l.take k) ++ cs (l.drop (k + 1)) by simp [less, cs_append]]; exact own2, hb2⟩

theorem leLess_pos (b off cap : Nat) (l : List (Int × Int)) (n k : Nat) (w : World) (Hn : Hid (n = l.length)) (hs : n ≤ 60) (hcap : n ≤ cap) (hk : k < n)
    (Hc : Hid (∀ i, i < n → w.cell? ⟨b, off + i * 2, none⟩ = some (.int .i64 (ca l i)) ∧ w.cell? ⟨b, off + i * 2 + 1, none⟩ = some (.int .i64 (cb l i)))) :
    Calls Try.prog 78 #[.slice (some ⟨b, off, none⟩) n cap, .int .i64 k] w fun e w' => ∃ v, e = .returned v ∧ w'.ownsRow w.heap.size 62 2 v (less l k).length (cs (less l k)) ∧ Below w.heap.size w w' := by
  by_cases hc : cap = k + 1
  · have hd : l.drop (k + 1) = [] := List.drop_eq_nil_of_le (by rw [← Hn.out]; omega)
    refine leLess_at b off off cap l n k w Hn hs hcap hk (by rw [if_pos hc]) ?_ Hc
    intro w' _ j u hu
    rw [hd] at hu
    simp [cs] at hu
  · refine leLess_at b off (off + (k + 1) * 2) cap l n k w Hn hs hcap hk (by rw [if_neg hc]) ?_ Hc
    intro w' hb
    exact calls_news (calls_drop Hn.out (calls_keep hb Hc.out) (k + 1))

theorem leLess_any (ao : Option Addr) (cap : Nat) (l : List (Int × Int)) (n k : Nat) (w : World) (Hn : Hid (n = l.length)) (hs : n ≤ 60) (hcap : n ≤ cap) (hk : k < n) (hc : CallsAt w ao l) :
    Calls Try.prog 78 #[.slice ao n cap, .int .i64 k] w fun e w' => ∃ v, e = .returned v ∧ w'.ownsRow w.heap.size 62 2 v (less l k).length (cs (less l k)) ∧ Below w.heap.size w w' := by
  rcases hc with h | ⟨b, off, rfl, hc⟩
  · subst h; have := Hn.out; simp at this; omega
  · exact leLess_pos b off cap l n k w Hn hs hcap hk (by rw [Hn.out]; exact hc)

theorem lessL_gd {f : Int} {l : List (Int × Int)} (h : gdL f l = true) (k : Nat) : gdL f (less l k) = true := by
  simp only [gdL, Bool.and_eq_true, decide_eq_true_eq, List.all_eq_true] at h ⊢
  refine ⟨⟨h.1.1, ?_⟩, ?_⟩
  · have := h.1.2
    simp only [less, List.length_append, List.length_take, List.length_drop]; omega
  · intro c hc
    simp only [less, List.mem_append] at hc
    rcases hc with hc | hc
    · exact h.2 c (List.mem_of_mem_take hc)
    · exact h.2 c (List.mem_of_mem_drop hc)

/-- Behind the calls without this one each friend knows the same. -/
def ndl (F : Nat) (l : List (Int × Int)) (k : Nat) : Bool := sameN (kl F (playL F (less l k))) (kl F (playL F l)) F

def ndlL (f : Int) (l : List (Int × Int)) : List Int := if gdL f l then ix (ndl f.toNat l) l.length else []

theorem ndlL_length (f : Int) (l : List (Int × Int)) : (ndlL f l).length ≤ 60 := by
  unfold ndlL
  cases h : gdL f l
  · simp
  · have h1 := gl_len2 h
    have h2 := ix_le (ndl f.toNat l) l.length
    simp only [if_true]
    omega

set_option maxRecDepth 20000 in
theorem specLessL_yes (w : World) (F : Nat) (ao : Option Addr) (cap : Nat) (l : List (Int × Int)) (n : Nat) (Hn : Hid (n = l.length)) (hs : n ≤ 60) (hcap : n ≤ cap) (HHc : Hid (CallsAt w ao l)) (Hg : Hid (gdL (F : Int) l = true)) (hff : 1 ≤ (F : Int) ∧ (F : Int) ≤ 10) :
    Calls Try.prog 38 #[.int .i64 F, .slice ao n cap] w fun e w' => ∃ v, e = .returned (.tuple #[v, .bool true]) ∧ w'.ownsRow w.heap.size 3 1 v (ix (ndl F l) n).length (ns (ix (ndl F l) n)) ∧ Below w.heap.size w w' := by
  obtain ⟨i0, hi, hz0, hz1, hz2⟩ := info_parts info3
  go_enter Try.func38, Try.ntmps38
  go_wp2_with fail
  refine (leGood_any F ao cap l n w Hn.out (by omega) HHc.out).mono ?_
  rintro e w1 ⟨rfl, hb1⟩
  rw [Hg.out]
  go_wp2_with fail
  go_loopw [6, 14] (fun v i wr => ∃ k : Nat, k ≤ n ∧ i = .int .i64 k ∧ wr.ownsRow w.heap.size 3 1 v (ix (ndl F l) k).length (ns (ix (ndl F l) k)) ∧ Below w.heap.size w wr) (fun _ i _ => n - (intOf i).toNat)
  case atStart => exact ⟨0, Nat.zero_le _, rfl, World.ownsRow_nil _ _ _ _, hb1⟩
  case round =>
    obtain ⟨k, hk, rfl, hor, hbel⟩ := hrel
    by_cases hlt : k < n
    · have hle := ix_le (ndl F l) k
      have hsz := hbel.size
      have Hck := Lib.hid (HHc.out.kept hbel)
      have Hor := Lib.hid hor
      have Hgl := Lib.hid (lessL_gd Hg.out k)
      clear hor
      go_wp2_with fail
      refine (leLess_any ao cap l n k wr Hn hs hcap hlt Hck.out).mono ?_
      rintro e w2 ⟨vl, rfl, ownl, hb2⟩
      obtain ⟨al, cl, rfl, hcl, _, _⟩ := own_shape ownl rfl
      have hb3 : Below w.heap.size w w2 := hbel.trans (hb2.mono hsz)
      have Ho2 := Lib.hid (own_later Hor.out hb2)
      have Hcl := Lib.hid hcl
      clear hb2 hbel ownl hcl
      go_wp2_with fail
      refine (lePlay_any F al cl (less l k) _ w2 (Lib.hid rfl) Hgl.out Hcl.out).mono ?_
      rintro e w3 ⟨v3, rfl, own3, hb⟩
      have hb4 : Below w.heap.size w w3 := hb3.trans (hb.mono hb3.size)
      have Ho3 := Lib.hid (own_later Ho2.out hb)
      have Hp3 := Lib.hid own3
      clear own3 hb hb3
      go_wp2_with fail
      refine (lePlay_any F ao cap l n w3 Hn Hg.out (HHc.out.kept hb4)).mono ?_
      rintro e w4 ⟨v4, rfl, own4, hb⟩
      have hb5 : Below w.heap.size w w4 := hb4.trans (hb.mono hb4.size)
      have Ho4 := Lib.hid (own_later Ho3.out hb)
      have Hp4 := Lib.hid (own_later Hp3.out hb)
      have Hq4 := Lib.hid own4
      clear own4 hb hb4
      go_wp2_with fail
      refine (l1Same_own v3 v4 (kl F (playL F (less l k))) (kl F (playL F l)) F w4 (kl_length _ _).symm (kl_length _ _).symm (by omega) (by omega) Hp4.out Hq4.out).mono ?_
      rintro e w5 ⟨rfl, hb⟩
      have hb6 : Below w.heap.size w w5 := hb5.trans (hb.mono hb5.size)
      have Ho5 := Lib.hid (own_later Ho4.out hb)
      clear hb hb5
      cases ht : ndl F l k
      · have hz := Ho5.out
        rw [← ix_no (ndl F l) k ht] at hz
        have Hz := Lib.hid hz
        have htest : sameN (kl F (playL F (less l k))) (kl F (playL F l)) F = false := ht
        clear ht hz
        go_wp2_with fail
        go_roundw
        case rel => exact ⟨k + 1, by omega, by go_num, Hz.out, hb6⟩
        case measure => simp [intOf]; omega
      · have Hyes := Lib.hid (ix_yes (ndl F l) k ht)
        have htest : sameN (kl F (playL F (less l k))) (kl F (playL F l)) F = true := ht
        have hs2 := hb6.size
        clear ht
        go_wp2_with (at_builtin; refine wpList_append_own _ rfl _ _ 39 rfl w.heap.size 3 i0 (.int .i64 0) 1 8 Try.underlying39 hi hz0 hz1 hz2 rfl (by decide) _ _ _ rfl (Ho5.out.alloc _) ⟨w5.heap.size, 0, none⟩ 1 1 [.int .i64 k] rfl rfl ?c1 ?c2 ?c3 ?c4 ?c5 ?_)
        case c1 => exact World.news_of_block (cs := #[.int .i64 k]) (t := 3) (fr := (0, 0)) (heap_alloc_new _ _)
        case c2 => intro u hu; simp at hu; subst hu; rfl
        case c3 => unfold maxLen; omega
        case c4 => omega
        case c5 => simp; omega
        intro v' w6 hown' hgr _
        have Hown := Lib.hid hown'
        have Hbel := Lib.hid ((hb6.alloc hs2 _).grown hgr (by simp; omega) (fun b hb => (Ho5.out.lt b hb).1))
        clear hown' hgr hb6
        go_wp2_with fail
        go_roundw
        case rel => exact ⟨k + 1, by omega, by go_num, by rw [Hyes.out, ns_append, List.length_append]; exact Hown.out, Hbel.out⟩
        case measure => simp [intOf]; omega
    · obtain rfl : k = n := by omega
      have Hor := Lib.hid hor
      clear hor hlt hk
      go_wp2_with fail
      go_ret2
      exact ⟨_, rfl, Hor.out, hbel⟩

theorem specLessL_any (w : World) (f : Int) (ao : Option Addr) (cap : Nat) (l : List (Int × Int)) (n : Nat) (Hn : Hid (n = l.length)) (hs : n ≤ 1048576) (Hc : CallsAt w ao l) (hcap : n ≤ cap) :
    Calls Try.prog 38 #[.int .i64 f, .slice ao n cap] w fun e w' => ∃ v, e = .returned (.tuple #[v, .bool (gdL f l)]) ∧ w'.ownsRow w.heap.size 3 1 v (ndlL f l).length (ns (ndlL f l)) ∧ Below w.heap.size w w' := by
  have HHc := Lib.hid Hc
  clear Hc
  cases hg : gdL f l
  · rw [show ndlL f l = [] by simp [ndlL, hg]]
    have Hg := Lib.hid hg
    clear hg
    go_enter Try.func38, Try.ntmps38
    go_wp2_with fail
    refine (leGood_any f ao cap l n w Hn.out (by omega) HHc.out).mono ?_
    rintro e w1 ⟨rfl, hb⟩
    rw [Hg.out]
    go_wp2_with fail
    go_ret2
    exact ⟨_, rfl, World.ownsRow_nil _ _ _ _, hb⟩
  · have hff := gl_fr hg
    obtain ⟨F, rfl⟩ := Int.eq_ofNat_of_zero_le (show 0 ≤ f by omega)
    rw [show ndlL F l = ix (ndl F l) n by simp [ndlL, hg, Hn.out]]
    exact specLessL_yes w F ao cap l n Hn (by rw [Hn.out]; exact gl_len2 hg) hcap HHc hg hff
end Go.Proofs.Ytolkfgjgnpjpkaa
