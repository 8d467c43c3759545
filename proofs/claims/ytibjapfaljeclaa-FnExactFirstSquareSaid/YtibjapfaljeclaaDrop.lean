/- A network without a pair: the model and the program. -/
import Derived.Test.YtibjapfaljeclaaConc
import Derived.Test.YtibjapfaljeclaaHas
namespace Go.Proofs.Ytibjapfaljeclaa
open Go.ChangeShapes Go.WideShapes Go.ChangeAt Go.RowKit
set_option linter.unusedVariables false

/-- An append to a row of the call's own, as a step of a region that draws; nothing may be appended too. -/
theorem step_append_mine {P : Program} (w : World) {ops : Array Oper} {o : Oper} {a : Act} {K : Act → World → Prop} {Q : Exit → Act → World → Prop} {E : Prop} (hgd : o.guard = none) (s x : Operand) (t : TypeId)
    (ho : o.op = .call { callee := .builtin .append, args := #[s, x], argTypes := #[t, t] })
    (base : Nat) (e : TypeId) (i : TypeInfo) (z : Value) (size bytes : Nat) (ht : P.underlying t = some (.slice e)) (hi : P.info? e = some i) (hz : i.zero = some z)
    (hsize : i.size = size) (hby : i.bytes = bytes) (hzs : z.cells.size = size) (hsz : 0 < size)
    (v : Value) (n : Nat) (xs : List Value) (hs : a.eval s = v) (hown : w.ownsRow base e size v n xs)
    (ad : Addr) (m c : Nat) (news : List Value) (hx : a.eval x = .slice (some ad) m c) (hl : news.length = m * size) (hnews : ∀ j u, news[j]? = some u → w.cell? (ad.add j) = some u) (h1 : ∀ u ∈ news, u.oneCell' = true)
    (h63 : n + m ≤ maxLen) (hbytes : (n + m) * bytes ≤ 140737488355328) (hbase : base ≤ w.heap.size)
    (h : ∀ v' w', w'.ownsRow base e size v' (n + m) (xs ++ news) → w.grownBy w' v.ownBlock → K (a.put o.dst v') w') :
    if Region.wanted o (yielded ops a.tmps) = true then Oper.wp P o a w K Q else E := by
  have hw : Region.wanted o (yielded ops a.tmps) = true := by simp [Region.wanted, hgd]
  rw [if_pos hw]
  exact wp_append_own w s x t ho base e i z size bytes ht hi hz hsize hby hzs hsz v n xs hs hown ad m c news hx hl hnews h1 h63 hbytes hbase fun v' w' h2 h3 _ => h v' w' h2 h3

theorem calls_news {w : World} {b off : Nat} {m : List (Int × Int)} (h : ∀ i, i < m.length → w.cell? ⟨b, off + i * 2, none⟩ = some (.int .i64 (ca m i)) ∧ w.cell? ⟨b, off + i * 2 + 1, none⟩ = some (.int .i64 (cb m i))) :
    ∀ j u, (cs m)[j]? = some u → w.cell? ((⟨b, off, none⟩ : Addr).add j) = some u := by
  intro j u hu
  have hadd : (⟨b, off, none⟩ : Addr).add j = ⟨b, off + j, none⟩ := by unfold Addr.add; split <;> simp_all
  rw [hadd]
  have hj : j < (cs m).length := (List.getElem?_eq_some_iff.1 hu).1
  rw [cs_length] at hj
  obtain ⟨i, hi⟩ : ∃ i, j = i * 2 ∨ j = i * 2 + 1 := ⟨j / 2, by omega⟩
  rcases hi with rfl | rfl
  · rw [cs_even _ i (by omega)] at hu
    rw [(h i (by omega)).1]; exact hu
  · rw [cs_odd _ i (by omega)] at hu
    rw [← Nat.add_assoc, (h i (by omega)).2]; exact hu

theorem calls_drop {w : World} {b off n : Nat} {l : List (Int × Int)} (hn : n = l.length) (h : ∀ i, i < n → w.cell? ⟨b, off + i * 2, none⟩ = some (.int .i64 (ca l i)) ∧ w.cell? ⟨b, off + i * 2 + 1, none⟩ = some (.int .i64 (cb l i))) (k : Nat) :
    ∀ i, i < (l.drop k).length → w.cell? ⟨b, off + k * 2 + i * 2, none⟩ = some (.int .i64 (ca (l.drop k) i)) ∧ w.cell? ⟨b, off + k * 2 + i * 2 + 1, none⟩ = some (.int .i64 (cb (l.drop k) i)) := by
  intro i hi
  have hi' : k + i < n := by rw [List.length_drop] at hi; omega
  have e1 : ca (l.drop k) i = ca l (k + i) := by simp [ca, List.getD_eq_getElem?_getD]
  have e2 : cb (l.drop k) i = cb l (k + i) := by simp [cb, List.getD_eq_getElem?_getD]
  rw [e1, e2, show off + k * 2 + i * 2 = off + (k + i) * 2 by omega]
  exact h _ hi'

theorem calls_keep {w w' : World} {b off n : Nat} {l : List (Int × Int)} (hb : Below w.heap.size w w') (h : ∀ i, i < n → w.cell? ⟨b, off + i * 2, none⟩ = some (.int .i64 (ca l i)) ∧ w.cell? ⟨b, off + i * 2 + 1, none⟩ = some (.int .i64 (cb l i))) :
    ∀ i, i < n → w'.cell? ⟨b, off + i * 2, none⟩ = some (.int .i64 (ca l i)) ∧ w'.cell? ⟨b, off + i * 2 + 1, none⟩ = some (.int .i64 (cb l i)) :=
  fun i hi => ⟨cell_old hb (h i hi).1, cell_old hb (h i hi).2⟩

def less (l : List (Int × Int)) (k : Nat) : List (Int × Int) := l.take k ++ l.drop (k + 1)

set_option maxRecDepth 20000 in
theorem caLess_at (b off off2 cap : Nat) (l : List (Int × Int)) (n k : Nat) (w : World) (Hn : Hid (n = l.length)) (hs : n ≤ 60) (hcap : n ≤ cap) (hk : k < n)
    (hif : (if cap = k + 1 then (some ⟨b, off, none⟩ : Option Addr) else some ⟨b, off + (k + 1) * 2, none⟩) = some ⟨b, off2, none⟩)
    (HN2 : Hid (∀ w', Below w.heap.size w w' → ∀ j u, (cs (l.drop (k + 1)))[j]? = some u → w'.cell? ((⟨b, off2, none⟩ : Addr).add j) = some u))
    (Hc : Hid (∀ i, i < n → w.cell? ⟨b, off + i * 2, none⟩ = some (.int .i64 (ca l i)) ∧ w.cell? ⟨b, off + i * 2 + 1, none⟩ = some (.int .i64 (cb l i)))) :
    Calls Try.prog 47 #[.slice (some ⟨b, off, none⟩) n cap, .int .i64 k] w fun e w' => ∃ v, e = .returned v ∧ w'.ownsRow w.heap.size 46 2 v (less l k).length (cs (less l k)) ∧ Below w.heap.size w w' := by
  obtain ⟨i0, hi, hz0, hz1, hz2⟩ := info_parts info46
  have hk0 : (0 : Int) ≤ (k : Int) := by omega
  have hk1 : (k : Int) ≤ (n : Int) := by omega
  have hk2 : (k : Int) ≤ (cap : Int) := by omega
  have hk3 : (0 : Int) ≤ (k : Int) + 1 := by omega
  have hk4 : (k : Int) + 1 ≤ (n : Int) := by omega
  have hk5 : (n : Int) ≤ (cap : Int) := by omega
  have hw1 : IntKind.i64.wrap ((k : Int) + 1) = (k : Int) + 1 := IntWalk.i64_in _ (by omega)
  have hw2 : ((k : Int) + 1).toNat = k + 1 := by omega
  have HN1 : Hid (∀ w', Below w.heap.size w w' → ∀ j u, (cs (l.take k))[j]? = some u → w'.cell? ((⟨b, off, none⟩ : Addr).add j) = some u) := by
    intro w' hb
    refine calls_news fun i hi => ?_
    have hi' : i < k ∧ i < n := by rw [List.length_take] at hi; omega
    have e1 : ca (l.take k) i = ca l i := by simp [ca, List.getD_eq_getElem?_getD, hi'.1]
    have e2 : cb (l.take k) i = cb l i := by simp [cb, List.getD_eq_getElem?_getD, hi'.1]
    rw [e1, e2]
    exact calls_keep hb Hc.out i hi'.2
  have HL1 : Hid ((cs (l.take k)).length = k * 2) := by show _ = _; rw [cs_length, List.length_take, ← Hn.out]; omega
  have HL2 : Hid ((cs (l.drop (k + 1))).length = (n - (k + 1)) * 2) := by show _ = _; rw [cs_length, List.length_drop, ← Hn.out]
  have HB0 : Hid (∀ o, Below w.heap.size w (w.alloc o).drew) := fun o => ((Below.refl _ _).alloc (Nat.le_refl _) _).drew
  have HO0 : Hid ((w.alloc (.cells #[] 46)).drew.ownsRow w.heap.size 46 2 (.slice (some ⟨w.heap.size, 0, none⟩) 0 0) 0 []) := (World.ownsRow_lit w #[] 0 (Nat.le_refl _) (by unfold maxLen; omega) rfl).drew
  go_enter Try.func47, Try.ntmps47
  go_wp2_with fail
  go_region_held3 (fun w' => Below w.heap.size w w')
    (first | exact (Below.refl _ _).drew | exact (HB0.out _) | assumption | go_keep)
    (first
      | (refine step_append_mine _ (by rfl) _ _ _ (by rfl) w.heap.size 46 i0 _ 2 16 Try.underlying26 hi hz0 hz1 hz2 rfl (by omega) _ 0 [] (by rfl) HO0.out ⟨b, off, none⟩ k _ (cs (l.take k)) (by rfl) HL1.out (HN1.out _ (HB0.out _)) (cs_one _) (by unfold maxLen; omega) (by omega) (by simp) ?_
         intro v1 w1 own1 gr1
         have hb1 : Below w.heap.size w w1 := (HB0.out _).grown gr1 (by simp) (by intro b hb; cases hb; exact Nat.le_refl _))
      | (refine step_append_mine _ (by rfl) _ _ _ (by rfl) w.heap.size 46 i0 _ 2 16 Try.underlying26 hi hz0 hz1 hz2 rfl (by omega) _ _ _ (by rfl) own1 ⟨b, off2, none⟩ (n - (k + 1)) _ (cs (l.drop (k + 1))) (by rfl) HL2.out (HN2.out _ hb1) (cs_one _) (by unfold maxLen; omega) (by omega) hb1.size ?_
         intro v2 w2 own2 gr2
         have hb2 : Below w.heap.size w w2 := hb1.grown gr2 hb1.size (fun b hb => (own1.lt b hb).1))
      | fail)
  go_wp2_with fail
  go_ret
  have hl : (less l k).length = 0 + k + (n - (k + 1)) := by simp [less, ← Hn.out]; omega
  exact ⟨_, rfl, by rw [hl, show cs (less l k) = [] ++ cs (l.take k) ++ cs (l.drop (k + 1)) by simp [less, cs_append]]; exact own2, hb2⟩

theorem caLess_pos (b off cap : Nat) (l : List (Int × Int)) (n k : Nat) (w : World) (Hn : Hid (n = l.length)) (hs : n ≤ 60) (hcap : n ≤ cap) (hk : k < n)
    (Hc : Hid (∀ i, i < n → w.cell? ⟨b, off + i * 2, none⟩ = some (.int .i64 (ca l i)) ∧ w.cell? ⟨b, off + i * 2 + 1, none⟩ = some (.int .i64 (cb l i)))) :
    Calls Try.prog 47 #[.slice (some ⟨b, off, none⟩) n cap, .int .i64 k] w fun e w' => ∃ v, e = .returned v ∧ w'.ownsRow w.heap.size 46 2 v (less l k).length (cs (less l k)) ∧ Below w.heap.size w w' := by
  by_cases hc : cap = k + 1
  · have hd : l.drop (k + 1) = [] := List.drop_eq_nil_of_le (by rw [← Hn.out]; omega)
    refine caLess_at b off off cap l n k w Hn hs hcap hk (by rw [if_pos hc]) ?_ Hc
    intro w' _ j u hu
    rw [hd] at hu
    simp [cs] at hu
  · refine caLess_at b off (off + (k + 1) * 2) cap l n k w Hn hs hcap hk (by rw [if_neg hc]) ?_ Hc
    intro w' hb
    exact calls_news (calls_drop Hn.out (calls_keep hb Hc.out) (k + 1))

theorem caLess_any (ao : Option Addr) (cap : Nat) (l : List (Int × Int)) (n k : Nat) (w : World) (Hn : Hid (n = l.length)) (hs : n ≤ 60) (hcap : n ≤ cap) (hk : k < n) (hc : CallsAt w ao l) :
    Calls Try.prog 47 #[.slice ao n cap, .int .i64 k] w fun e w' => ∃ v, e = .returned v ∧ w'.ownsRow w.heap.size 46 2 v (less l k).length (cs (less l k)) ∧ Below w.heap.size w w' := by
  rcases hc with h | ⟨b, off, rfl, hc⟩
  · subst h; have := Hn.out; simp at this; omega
  · exact caLess_pos b off cap l n k w Hn hs hcap hk (by rw [Hn.out]; exact hc)

theorem calls_take {w : World} {ao : Option Addr} {l : List (Int × Int)} (h : CallsAt w ao l) (k : Nat) : CallsAt w ao (l.take k) := by
  rcases h with rfl | ⟨b, off, rfl, hc⟩
  · exact .inl (by simp)
  · refine .inr ⟨b, off, rfl, fun i hi => ?_⟩
    have hi' : i < k ∧ i < l.length := by simpa [Nat.lt_min] using hi
    have e1 : ca (l.take k) i = ca l i := by simp [ca, List.getD_eq_getElem?_getD, hi'.1]
    have e2 : cb (l.take k) i = cb l i := by simp [cb, List.getD_eq_getElem?_getD, hi'.1]
    rw [e1, e2]
    exact hc i hi'.2


theorem calls_take' {w : World} {b off : Nat} {l : List (Int × Int)} (h : ∀ i, i < l.length → w.cell? ⟨b, off + i * 2, none⟩ = some (.int .i64 (ca l i)) ∧ w.cell? ⟨b, off + i * 2 + 1, none⟩ = some (.int .i64 (cb l i))) (k : Nat) :
    CallsAt w (some ⟨b, off, none⟩) (l.take k) := by
  refine .inr ⟨b, off, rfl, fun i hi => ?_⟩
  have hi' : i < k ∧ i < l.length := by rw [List.length_take] at hi; omega
  have e1 : ca (l.take k) i = ca l i := by simp [ca, List.getD_eq_getElem?_getD, hi'.1]
  have e2 : cb (l.take k) i = cb l i := by simp [cb, List.getD_eq_getElem?_getD, hi'.1]
  rw [e1, e2]
  exact h i hi'.2
theorem less_len {l : List (Int × Int)} {k : Nat} (h : k < l.length) : (less l k).length = l.length - 1 := by simp [less]; omega

set_option maxRecDepth 20000 in
theorem concat2 (w : World) (B off off2 b cap0 cap1 n0 n1 : Nat) (p d : List (Int × Int)) (H0 : Hid (n0 = p.length ∧ n0 ≤ cap0)) (H1 : Hid (n1 = d.length ∧ n1 ≤ cap1)) (hp : n0 ≤ 60) (hd : n1 ≤ 60)
    (HC : Hid (w.cell? ⟨B, 0, none⟩ = some (.slice (some ⟨b, off, none⟩) n0 cap0) ∧ w.cell? ⟨B, 1, none⟩ = some (.slice (some ⟨b, off2, none⟩) n1 cap1)))
    (HP : Hid (CallsAt w (some ⟨b, off, none⟩) p)) (HD : Hid (CallsAt w (some ⟨b, off2, none⟩) d)) :
    Calls Try.prog 62 #[.slice (some ⟨B, 0, none⟩) 2 2] w fun e w' => ∃ v, e = .returned v ∧ w'.ownsRow w.heap.size 46 2 v (p ++ d).length (cs (p ++ d)) ∧ Below w.heap.size w w' := by
  have e : [p, d].flatten = p ++ d := by simp
  have h := concat_any w (some ⟨B, 0, none⟩) 2 [p, d] 2 rfl (by omega) (by
      intro i
      match i with
      | 0 => show p.length ≤ 60; have := H0.out.1; omega
      | 1 => show d.length ≤ 60; have := H1.out.1; omega
      | (i + 2) => simp [crow]) (by
      refine .inr ⟨B, 0, (fun i => if i = 0 then some ⟨b, off, none⟩ else some ⟨b, off2, none⟩), (fun i => if i = 0 then cap0 else cap1), rfl, ?_, ?_⟩
      · intro i hi
        match i, hi with
        | 0, _ =>
          refine ⟨?_, HP.out⟩
          show w.cell? ⟨B, 0, none⟩ = some (.slice (some ⟨b, off, none⟩) p.length cap0)
          rw [← H0.out.1]; exact HC.out.1
        | 1, _ =>
          refine ⟨?_, HD.out⟩
          show w.cell? ⟨B, 1, none⟩ = some (.slice (some ⟨b, off2, none⟩) d.length cap1)
          rw [← H1.out.1]; exact HC.out.2
        | (i + 2), hi => simp at hi; omega
      · intro i hi
        match i, hi with
        | 0, _ => exact ⟨by show p.length ≤ cap0; have := H0.out; omega, fun h => by simp at h⟩
        | 1, _ => exact ⟨by show d.length ≤ cap1; have := H1.out; omega, fun h => by simp at h⟩
        | (i + 2), hi => simp at hi; omega)
  rw [e] at h
  exact h

set_option maxHeartbeats 1600000 in
set_option maxRecDepth 20000 in
theorem withoutPair_at (b off off2 cap : Nat) (l p d : List (Int × Int)) (n k m : Nat) (w : World) (hp : p = l.take k) (hd : d = l.drop (k + 1)) (Hm : Hid (m = n - (k + 1) ∧ m = d.length)) (Hn : Hid (n = l.length)) (hl : n ≤ 60) (hcap : n ≤ cap) (hk : k < n)
    (hif : (if cap = k + 1 then (some ⟨b, off, none⟩ : Option Addr) else some ⟨b, off + (k + 1) * 2, none⟩) = some ⟨b, off2, none⟩)
    (HP : Hid (CallsAt w (some ⟨b, off, none⟩) p))
    (HD : Hid (CallsAt w (some ⟨b, off2, none⟩) d)) :
    Calls Try.prog 48 #[.slice (some ⟨b, off, none⟩) n cap, .int .i64 k] w fun e w' => ∃ v, e = .returned v ∧ w'.ownsRow w.heap.size 46 2 v (p ++ d).length (cs (p ++ d)) ∧ Below w.heap.size w w' := by
  have Hk0 : Hid (k = p.length ∧ k ≤ cap) := by show _ ∧ _; rw [hp, List.length_take, ← Hn.out]; omega
  have Hm2 : Hid (m = d.length ∧ m ≤ cap - (k + 1)) := ⟨Hm.out.2, by have := Hm.out.1; omega⟩
  have hml : (n : Int) - ((k : Int) + 1) = (m : Int) := by have := Hm.out.1; omega
  have hml2 : n - (k + 1) = m := Hm.out.1.symm
  clear hp hd
  have hk0 : (0 : Int) ≤ (k : Int) := by omega
  have hk1 : (k : Int) ≤ (n : Int) := by omega
  have hk2 : (k : Int) ≤ (cap : Int) := by omega
  have hk3 : (0 : Int) ≤ (k : Int) + 1 := by omega
  have hk4 : (k : Int) + 1 ≤ (n : Int) := by omega
  have hk5 : (n : Int) ≤ (cap : Int) := by omega
  have hw1 : IntKind.i64.wrap ((k : Int) + 1) = (k : Int) + 1 := IntWalk.i64_in _ (by omega)
  have hw2 : ((k : Int) + 1).toNat = k + 1 := by omega
  have hm60 : m ≤ 60 := by omega
  go_enter Try.func48, Try.ntmps48
  go_wp2_with fail
  have HW1 : Hid (Below w.heap.size w w.drew) := (Below.refl _ _).drew
  refine wp_region_any (by kernel_rfl) ?_
  change wpAny _ _ _ _ _ _ _ (World.drew _)
  obtain ⟨w1, hw⟩ : ∃ w1, w.drew = w1 := ⟨_, rfl⟩
  rw [hw] at HW1 ⊢
  clear hw
  have HWA : Hid (∀ o, Below w.heap.size w (w1.alloc o)) := Lib.hid (fun o => HW1.out.alloc HW1.out.size o)
  refine wpAny_take (i := 0) (v := ?_) rfl (by kernel_rfl) (by kernel_rfl) (by kernel_rfl) (fun _ _ _ h => h) (Or.inl ⟨by rfl, ?y0⟩) ?_
  case y0 => intro w; go_simp; first | done | with_reducible rfl
  refine wpAny_take (i := 1) (v := ?_) rfl (by kernel_rfl) (by kernel_rfl) (by kernel_rfl) (fun _ _ _ h => h) (Or.inl ⟨by rfl, ?y1⟩) ?_
  case y1 => intro w; go_simp; first | done | with_reducible rfl
  refine wpAny_take (i := 3) (v := ?_) rfl (by kernel_rfl) (by kernel_rfl) (by kernel_rfl) (fun _ _ _ h => h) (Or.inl ⟨by rfl, ?y3⟩) ?_
  case y3 => intro w; go_simp; first | done | with_reducible rfl
  refine wpAny_take (i := 4) (v := ?_) rfl (by kernel_rfl) (by kernel_rfl) (by kernel_rfl) (fun _ _ _ h => h) (Or.inl ⟨by rfl, ?y4⟩) ?_
  case y4 => intro w; go_simp; first | done | with_reducible rfl
  refine wpAny_take (i := 5) (v := ?_) rfl (by kernel_rfl) (by kernel_rfl) (by kernel_rfl) (fun _ _ _ h => h) (Or.inl ⟨by rfl, ?y5⟩) ?_
  case y5 => intro w; go_simp; first | done | with_reducible rfl
  refine wpAny_ready (rs := [2, 6]) (by kernel_rfl) (by simp) ?_
  refine AllReady.cons rfl (fun K hK => ?_) ?_
  · go_simp
    try (refine hK _ _ ?_; clear hK K)
    refine wpAny_ready (rs := [6]) (by kernel_rfl) (by simp) ?_
    refine AllReady.cons rfl (fun K hK => ?_) AllReady.nil
    go_simp
    try (refine hK _ _ ?_; clear hK K)
    refine wpAny_ready (rs := [7]) (by kernel_rfl) (by simp) ?_
    refine AllReady.cons rfl (fun K hK => ?_) AllReady.nil
    go_simp
    try (refine hK _ _ ?_; clear hK K)
    refine wpAny_ready (rs := [8]) (by kernel_rfl) (by simp) ?_
    refine AllReady.cons rfl (fun K hK => ?_) AllReady.nil
    go_simp
    go_wp2_with (go_at_call 62; refine (concat2 _ w1.heap.size off off2 b cap (cap - (k + 1)) k m p d Hk0 Hm2 (by omega) hm60 ⟨by simp, by simp⟩ (HP.out.kept (HWA.out _)) (HD.out.kept (HWA.out _))).mono ?_; rintro e w4 ⟨v, rfl, own4, hb4⟩)
    try (refine hK _ _ ?_; clear hK K)
    refine wpAny_ready (rs := [9]) (by kernel_rfl) (by simp) ?_
    refine AllReady.cons rfl (fun K hK => ?_) AllReady.nil
    go_simp
    try (refine hK _ _ ?_; clear hK K)
    have hsz := (HWA.out (.cells #[.slice (some ⟨b, off, none⟩) k cap, .slice (some ⟨b, off2, none⟩) m (cap - (k + 1))] 26)).size
    have Hown := Lib.hid (own_base hsz own4)
    have HW4 : Hid (Below w.heap.size w w4) := (HWA.out _).trans (hb4.mono hsz)
    refine wpAny_done (by kernel_rfl) ?_ _
    go_wp2_with fail
    go_ret
    exact ⟨_, rfl, Hown.out, HW4.out⟩
  refine AllReady.cons rfl (fun K hK => ?_) AllReady.nil
  · go_simp
    try (refine hK _ _ ?_; clear hK K)
    refine wpAny_ready (rs := [2]) (by kernel_rfl) (by simp) ?_
    refine AllReady.cons rfl (fun K hK => ?_) AllReady.nil
    go_simp
    try (refine hK _ _ ?_; clear hK K)
    refine wpAny_ready (rs := [7]) (by kernel_rfl) (by simp) ?_
    refine AllReady.cons rfl (fun K hK => ?_) AllReady.nil
    go_simp
    try (refine hK _ _ ?_; clear hK K)
    refine wpAny_ready (rs := [8]) (by kernel_rfl) (by simp) ?_
    refine AllReady.cons rfl (fun K hK => ?_) AllReady.nil
    go_simp
    go_wp2_with (go_at_call 62; refine (concat2 _ w1.heap.size off off2 b cap (cap - (k + 1)) k m p d Hk0 Hm2 (by omega) hm60 ⟨by simp, by simp⟩ (HP.out.kept (HWA.out _)) (HD.out.kept (HWA.out _))).mono ?_; rintro e w4 ⟨v, rfl, own4, hb4⟩)
    try (refine hK _ _ ?_; clear hK K)
    refine wpAny_ready (rs := [9]) (by kernel_rfl) (by simp) ?_
    refine AllReady.cons rfl (fun K hK => ?_) AllReady.nil
    go_simp
    try (refine hK _ _ ?_; clear hK K)
    have hsz := (HWA.out (.cells #[.slice (some ⟨b, off, none⟩) k cap, .slice (some ⟨b, off2, none⟩) m (cap - (k + 1))] 26)).size
    have Hown := Lib.hid (own_base hsz own4)
    have HW4 : Hid (Below w.heap.size w w4) := (HWA.out _).trans (hb4.mono hsz)
    refine wpAny_done (by kernel_rfl) ?_ _
    go_wp2_with fail
    go_ret
    exact ⟨_, rfl, Hown.out, HW4.out⟩

theorem withoutPair_any (ao : Option Addr) (cap : Nat) (l : List (Int × Int)) (n k : Nat) (w : World) (Hn : Hid (n = l.length)) (hl : n ≤ 60) (hcap : n ≤ cap) (hk : k < n) (hc : CallsAt w ao l) :
    Calls Try.prog 48 #[.slice ao n cap, .int .i64 k] w fun e w' => ∃ v, e = .returned v ∧ w'.ownsRow w.heap.size 46 2 v (less l k).length (cs (less l k)) ∧ Below w.heap.size w w' := by
  rcases hc with h | ⟨b, off, rfl, hc⟩
  · subst h; have := Hn.out; simp at this; omega
  · by_cases hcc : cap = k + 1
    · refine withoutPair_at b off off cap l (l.take k) (l.drop (k + 1)) n k (n - (k + 1)) w rfl rfl ⟨rfl, by rw [List.length_drop, ← Hn.out]⟩ Hn hl hcap hk (by rw [if_pos hcc]) (calls_take' hc k) ?_
      refine .inr ⟨b, off, rfl, fun i hi => ?_⟩
      rw [List.length_drop, ← Hn.out] at hi; omega
    · refine withoutPair_at b off (off + (k + 1) * 2) cap l (l.take k) (l.drop (k + 1)) n k (n - (k + 1)) w rfl rfl ⟨rfl, by rw [List.length_drop, ← Hn.out]⟩ Hn hl hcap hk (by rw [if_neg hcc]) (calls_take' hc k) ?_
      exact .inr ⟨b, _, rfl, fun i hi => calls_drop Hn.out (by rw [Hn.out]; exact hc) (k + 1) i hi⟩


end Go.Proofs.Ytibjapfaljeclaa
