/- The calls without one of them, in the model. -/
import Derived.Test.YtffnmpmgnaephaaIdle
namespace Go.Proofs.Ytffnmpmgnaephaa
open Go.ChangeShapes Go.WideShapes Go.ChangeAt Go.RowKit
set_option linter.unusedVariables false

/-- An append to a row of the call's own, as a step of a region that draws; nothing may be appended too. -/
theorem step_append_mine {P : Program} (w : World) {ops : Array Oper} {o : Oper} {a : Act} {K : Act → World → Prop} {Q : Exit → Act → World → Prop} {E : Prop} (hgd : o.guard = none) (s x : Operand) (t : TypeId)
    (ho : o.op = .call { callee := .builtin .append, args := #[s, x], argTypes := #[t, t] })
    (base : Nat) (e : TypeId) (i : TypeInfo) (z : Value) (size bytes : Nat) (ht : P.underlying t = some (.slice e)) (hi : P.info? e = some i) (hz : i.zero = some z)
    (hsize : i.size = size) (hby : i.bytes = bytes) (hzs : z.cells.size = size) (hsz : 0 < size)
    (v : Value) (n : Nat) (xs : List Value) (hs : a.eval s = v) (hown : w.ownsRow base e size v n xs)
    (ad : Addr) (m c : Nat) (news : List Value) (hx : a.eval x = .slice (some ad) m c) (hl : news.length = m * size) (hnews : ∀ j u, news[j]? = some u → w.cell? (ad.add j) = some u) (h1 : ∀ u ∈ news, u.oneCell' = true)
    (h63 : n + m ≤ maxLen) (hbytes : (n + m) * bytes ≤ 140737488355328) (hbase : base ≤ w.heap.size)
    (h : ∀ v' w', w'.ownsRow base e size v' (n + m) (xs ++ news) → w.grownBy w' v.ownBlock → K (a.put o.dst v') w') :
    if Region.wanted o (yielded ops a.tmps) = true then Oper.wp P o a w K Q else E := by
  have hw : Region.wanted o (yielded ops a.tmps) = true := by simp [Region.wanted, hgd]
  rw [if_pos hw]
  exact wp_append_own w s x t ho base e i z size bytes ht hi hz hsize hby hzs hsz v n xs hs hown ad m c news hx hl hnews h1 h63 hbytes hbase fun v' w' h2 h3 _ => h v' w' h2 h3

theorem calls_news {w : World} {b off : Nat} {m : List (Int × Int)} (h : ∀ i, i < m.length → w.cell? ⟨b, off + i * 2, none⟩ = some (.int .i64 (ca m i)) ∧ w.cell? ⟨b, off + i * 2 + 1, none⟩ = some (.int .i64 (cb m i))) :
    ∀ j u, (cs m)[j]? = some u → w.cell? ((⟨b, off, none⟩ : Addr).add j) = some u := by
  intro j u hu
  have hadd : (⟨b, off, none⟩ : Addr).add j = ⟨b, off + j, none⟩ := by unfold Addr.add; split <;> simp_all
  rw [hadd]
  have hj : j < (cs m).length := (List.getElem?_eq_some_iff.1 hu).1
  rw [cs_length] at hj
  obtain ⟨i, hi⟩ : ∃ i, j = i * 2 ∨ j = i * 2 + 1 := ⟨j / 2, by omega⟩
  rcases hi with rfl | rfl
  · rw [cs_even _ i (by omega)] at hu
    rw [(h i (by omega)).1]; exact hu
  · rw [cs_odd _ i (by omega)] at hu
    rw [← Nat.add_assoc, (h i (by omega)).2]; exact hu

theorem calls_drop {w : World} {b off n : Nat} {l : List (Int × Int)} (hn : n = l.length) (h : ∀ i, i < n → w.cell? ⟨b, off + i * 2, none⟩ = some (.int .i64 (ca l i)) ∧ w.cell? ⟨b, off + i * 2 + 1, none⟩ = some (.int .i64 (cb l i))) (k : Nat) :
    ∀ i, i < (l.drop k).length → w.cell? ⟨b, off + k * 2 + i * 2, none⟩ = some (.int .i64 (ca (l.drop k) i)) ∧ w.cell? ⟨b, off + k * 2 + i * 2 + 1, none⟩ = some (.int .i64 (cb (l.drop k) i)) := by
  intro i hi
  have hi' : k + i < n := by rw [List.length_drop] at hi; omega
  have e1 : ca (l.drop k) i = ca l (k + i) := by simp [ca, List.getD_eq_getElem?_getD]
  have e2 : cb (l.drop k) i = cb l (k + i) := by simp [cb, List.getD_eq_getElem?_getD]
  rw [e1, e2, show off + k * 2 + i * 2 = off + (k + i) * 2 by omega]
  exact h _ hi'

theorem calls_keep {w w' : World} {b off n : Nat} {l : List (Int × Int)} (hb : Below w.heap.size w w') (h : ∀ i, i < n → w.cell? ⟨b, off + i * 2, none⟩ = some (.int .i64 (ca l i)) ∧ w.cell? ⟨b, off + i * 2 + 1, none⟩ = some (.int .i64 (cb l i))) :
    ∀ i, i < n → w'.cell? ⟨b, off + i * 2, none⟩ = some (.int .i64 (ca l i)) ∧ w'.cell? ⟨b, off + i * 2 + 1, none⟩ = some (.int .i64 (cb l i)) :=
  fun i hi => ⟨cell_old hb (h i hi).1, cell_old hb (h i hi).2⟩

def less (l : List (Int × Int)) (k : Nat) : List (Int × Int) := l.take k ++ l.drop (k + 1)

set_option maxRecDepth 20000 in
theorem caLess_at (b off off2 cap : Nat) (l : List (Int × Int)) (n k : Nat) (w : World) (Hn : Hid (n = l.length)) (hs : n ≤ 60) (hcap : n ≤ cap) (hk : k < n)
    (hif : (if cap = k + 1 then (some ⟨b, off, none⟩ : Option Addr) else some ⟨b, off + (k + 1) * 2, none⟩) = some ⟨b, off2, none⟩)
    (HN2 : Hid (∀ w', Below w.heap.size w w' → ∀ j u, (cs (l.drop (k + 1)))[j]? = some u → w'.cell? ((⟨b, off2, none⟩ : Addr).add j) = some u))
    (Hc : Hid (∀ i, i < n → w.cell? ⟨b, off + i * 2, none⟩ = some (.int .i64 (ca l i)) ∧ w.cell? ⟨b, off + i * 2 + 1, none⟩ = some (.int .i64 (cb l i)))) :
    Calls Try.prog 61 #[.slice (some ⟨b, off, none⟩) n cap, .int .i64 k] w fun e w' => ∃ v, e = .returned v ∧ w'.ownsRow w.heap.size 50 2 v (less l k).length (cs (less l k)) ∧ Below w.heap.size w w' := by
  obtain ⟨i0, hi, hz0, hz1, hz2⟩ := info_parts info50
  have hk0 : (0 : Int) ≤ (k : Int) := by omega
  have hk1 : (k : Int) ≤ (n : Int) := by omega
  have hk2 : (k : Int) ≤ (cap : Int) := by omega
  have hk3 : (0 : Int) ≤ (k : Int) + 1 := by omega
  have hk4 : (k : Int) + 1 ≤ (n : Int) := by omega
  have hk5 : (n : Int) ≤ (cap : Int) := by omega
  have hw1 : IntKind.i64.wrap ((k : Int) + 1) = (k : Int) + 1 := IntWalk.i64_in _ (by omega)
  have hw2 : ((k : Int) + 1).toNat = k + 1 := by omega
  have HN1 : Hid (∀ w', Below w.heap.size w w' → ∀ j u, (cs (l.take k))[j]? = some u → w'.cell? ((⟨b, off, none⟩ : Addr).add j) = some u) := by
    intro w' hb
    refine calls_news fun i hi => ?_
    have hi' : i < k ∧ i < n := by rw [List.length_take] at hi; omega
    have e1 : ca (l.take k) i = ca l i := by simp [ca, List.getD_eq_getElem?_getD, hi'.1]
    have e2 : cb (l.take k) i = cb l i := by simp [cb, List.getD_eq_getElem?_getD, hi'.1]
    rw [e1, e2]
    exact calls_keep hb Hc.out i hi'.2
  have HL1 : Hid ((cs (l.take k)).length = k * 2) := by show _ = _; rw [cs_length, List.length_take, ← Hn.out]; omega
  have HL2 : Hid ((cs (l.drop (k + 1))).length = (n - (k + 1)) * 2) := by show _ = _; rw [cs_length, List.length_drop, ← Hn.out]
  have HB0 : Hid (∀ o, Below w.heap.size w (w.alloc o).drew) := fun o => ((Below.refl _ _).alloc (Nat.le_refl _) _).drew
  have HO0 : Hid ((w.alloc (.cells #[] 50)).drew.ownsRow w.heap.size 50 2 (.slice (some ⟨w.heap.size, 0, none⟩) 0 0) 0 []) := (World.ownsRow_lit w #[] 0 (Nat.le_refl _) (by unfold maxLen; omega) rfl).drew
  go_enter Try.func61, Try.ntmps61
  go_wp2_with fail
  go_region_held3 (fun w' => Below w.heap.size w w')
    (first | exact (Below.refl _ _).drew | exact (HB0.out _) | assumption | go_keep)
    (first
      | (refine step_append_mine _ (by rfl) _ _ _ (by rfl) w.heap.size 50 i0 _ 2 16 Try.underlying27 hi hz0 hz1 hz2 rfl (by omega) _ 0 [] (by rfl) HO0.out ⟨b, off, none⟩ k _ (cs (l.take k)) (by rfl) HL1.out (HN1.out _ (HB0.out _)) (cs_one _) (by unfold maxLen; omega) (by omega) (by simp) ?_
         intro v1 w1 own1 gr1
         have hb1 : Below w.heap.size w w1 := (HB0.out _).grown gr1 (by simp) (by intro b hb; cases hb; exact Nat.le_refl _))
      | (refine step_append_mine _ (by rfl) _ _ _ (by rfl) w.heap.size 50 i0 _ 2 16 Try.underlying27 hi hz0 hz1 hz2 rfl (by omega) _ _ _ (by rfl) own1 ⟨b, off2, none⟩ (n - (k + 1)) _ (cs (l.drop (k + 1))) (by rfl) HL2.out (HN2.out _ hb1) (cs_one _) (by unfold maxLen; omega) (by omega) hb1.size ?_
         intro v2 w2 own2 gr2
         have hb2 : Below w.heap.size w w2 := hb1.grown gr2 hb1.size (fun b hb => (own1.lt b hb).1))
      | fail)
  go_wp2_with fail
  go_ret
  have hl : (less l k).length = 0 + k + (n - (k + 1)) := by simp [less, ← Hn.out]; omega
  exact ⟨_, rfl, by rw [hl, show cs (less l k) = [] ++ cs (l.take k) ++ cs (l.drop (k + 1)) by simp [less, cs_append]]; exact own2, hb2⟩

theorem caLess_pos (b off cap : Nat) (l : List (Int × Int)) (n k : Nat) (w : World) (Hn : Hid (n = l.length)) (hs : n ≤ 60) (hcap : n ≤ cap) (hk : k < n)
    (Hc : Hid (∀ i, i < n → w.cell? ⟨b, off + i * 2, none⟩ = some (.int .i64 (ca l i)) ∧ w.cell? ⟨b, off + i * 2 + 1, none⟩ = some (.int .i64 (cb l i)))) :
    Calls Try.prog 61 #[.slice (some ⟨b, off, none⟩) n cap, .int .i64 k] w fun e w' => ∃ v, e = .returned v ∧ w'.ownsRow w.heap.size 50 2 v (less l k).length (cs (less l k)) ∧ Below w.heap.size w w' := by
  by_cases hc : cap = k + 1
  · have hd : l.drop (k + 1) = [] := List.drop_eq_nil_of_le (by rw [← Hn.out]; omega)
    refine caLess_at b off off cap l n k w Hn hs hcap hk (by rw [if_pos hc]) ?_ Hc
    intro w' _ j u hu
    rw [hd] at hu
    simp [cs] at hu
  · refine caLess_at b off (off + (k + 1) * 2) cap l n k w Hn hs hcap hk (by rw [if_neg hc]) ?_ Hc
    intro w' hb
    exact calls_news (calls_drop Hn.out (calls_keep hb Hc.out) (k + 1))

/-- The first n numbers are the same. -/
def sameN (l m : List Int) (n : Nat) : Bool := (List.range n).all fun i => na l i == na m i

set_option maxRecDepth 100000 in
theorem l1Same_pos (b off b' off' ka kb : Nat) (l m : List Int) (n : Nat) (w : World) (hl : n ≤ 1048576)
    (Hc : Hid (∀ i, i < n → w.cell? ⟨b, off + i, none⟩ = some (.int .i64 (na l i))))
    (Hd : Hid (∀ i, i < n → w.cell? ⟨b', off' + i, none⟩ = some (.int .i64 (na m i)))) :
    Calls Try.prog 60 #[.slice (some ⟨b, off, none⟩) n ka, .slice (some ⟨b', off', none⟩) n kb] w fun e w' => e = .returned (.bool (sameN l m n)) ∧ Below w.heap.size w w' := by
  have hnn : ((n : Int) != (n : Int)) = false := by simp
  go_enter Try.func60, Try.ntmps60
  go_wp2_with fail
  go_loopw [13] (fun i wr => ∃ k : Nat, k ≤ n ∧ i = .int .i64 k ∧ Hid (∀ j, j < k → (na l j == na m j) = true) ∧ Below w.heap.size w wr) (fun i _ => n - (intOf i).toNat)
  case atStart => exact ⟨0, Nat.zero_le _, rfl, fun j hj => absurd hj (by omega), Below.refl _ _⟩
  case round =>
    obtain ⟨k, hk, rfl, hall, hbel⟩ := hrel
    by_cases hlt : k < n
    · have h0 := hbel.cell (p := ⟨b, off + k, none⟩) (World.block_lt_of_cell? w _ (Hc.out k hlt))
      have h2 := hbel.cell (p := ⟨b', off' + k, none⟩) (World.block_lt_of_cell? w _ (Hd.out k hlt))
      rw [Hc.out k hlt] at h0
      rw [Hd.out k hlt] at h2
      have hb0 : (0 : Int) ≤ k := by omega
      have hb1 : (k : Int) < n := by omega
      cases hee : (na l k != na m k)
      · have hall2 : Hid (∀ j, j < k + 1 → (na l j == na m j) = true) := by
          intro j hj
          by_cases hjk : j = k
          · subst hjk; simpa using hee
          · exact hall.out j (by omega)
        go_wp2_with fail
        go_quiet (fail)
        go_wp2_with fail
        go_roundw
        case rel => exact ⟨k + 1, by omega, by go_num, hall2, below_drewN hbel _⟩
        case measure => simp [intOf]; omega
      · have hno : sameN l m n = false := by
          unfold sameN
          rw [List.all_eq_false]
          exact ⟨k, List.mem_range.2 hlt, by simpa using hee⟩
        have Hno := Lib.hid hno
        clear hno
        go_wp2_with fail
        go_quiet (fail)
        go_wp2_with fail
        go_ret
        exact ⟨ret_bool Hno.out.symm, below_drewN hbel _⟩
    · obtain rfl : k = n := by omega
      have hyes : sameN l m k = true := by
        unfold sameN
        rw [List.all_eq_true]
        intro j hj
        exact hall.out j (List.mem_range.1 hj)
      have Hyes := Lib.hid hyes
      clear hyes hall
      go_wp2_with fail
      go_ret
      exact ⟨ret_bool Hyes.out.symm, hbel⟩

theorem less_gd {f : Int} {l : List (Int × Int)} (h : gdB f l = true) (k : Nat) : gdB f (less l k) = true := by
  simp only [gdB, Bool.and_eq_true, decide_eq_true_eq, List.all_eq_true] at h ⊢
  refine ⟨⟨h.1.1, ?_⟩, ?_⟩
  · have := h.1.2
    simp only [less, List.length_append, List.length_take, List.length_drop]; omega
  · intro c hc
    simp only [less, List.mem_append] at hc
    rcases hc with hc | hc
    · exact h.2 c (List.mem_of_mem_take hc)
    · exact h.2 c (List.mem_of_mem_drop hc)

theorem less_play (f : Nat) (l : List (Int × Int)) (k : Nat) : play f (less l k) = (l.drop (k + 1)).foldl stp (play f (l.take k)) := by
  unfold play less
  rw [List.foldl_append]
end Go.Proofs.Ytffnmpmgnaephaa
