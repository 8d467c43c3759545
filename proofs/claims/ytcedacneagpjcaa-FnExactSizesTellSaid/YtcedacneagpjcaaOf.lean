/- Sizes of just so many wires; what tells all wires by sizes. -/
import Derived.Test.YtcedacneagpjcaaSrt
import Derived.Test.YtcedacneagpjcaaPt
import Derived.Test.YtcedacneagpjcaaCp
namespace Go.Proofs.Ytcedacneagpjcaa
open Go.ChangeShapes Go.WideShapes Go.ChangeAt Go.RowKit
set_option linter.unusedVariables false


/-- Sizes of just so many wires. -/
def ofB (W : Int) (l : List Int) : Bool := ksB l && (sumZ l l.length == W)

theorem of_impl {W : Int} (hW : W ≤ 12) (l : List Int) : (lfB W l && (lfV W l == 0)) = ofB W l := by
  rw [Bool.eq_iff_iff]
  unfold lfB ofB ksB
  simp only [Bool.and_eq_true, decide_eq_true_eq, beq_iff_eq]
  constructor
  · intro hh
    have h3 : lfV W l = 0 := hh.2
    have h0 : 0 < l.length := by have := hh.1; simp_all
    have hk : kW W l l.length = true ∧ dnTo l l.length = true := by have := hh.1; simp_all
    unfold lfV at h3
    rw [hk.1] at h3
    have h3' : W - sumZ l l.length = 0 := h3
    exact ⟨⟨h0, kW_yes fun i hi => ⟨(kW_at hk.1 hi).1, Int.le_trans (kW_at hk.1 hi).2 hW⟩, hk.2⟩, by omega⟩
  · rintro ⟨⟨h0, h1, h2⟩, h3⟩
    have hp : ∀ i, i < l.length → 1 ≤ na l i := fun i hi => (kW_at h1 hi).1
    have hk : kW W l l.length = true := kW_yes fun i hi => ⟨hp i hi, by rw [← h3]; exact sum_mono (i + 1) l.length (by omega) hp⟩
    have h4 : lfV W l = 0 := by
      unfold lfV
      rw [hk]
      show W - sumZ l l.length = 0
      omega
    refine ⟨?_, h4⟩
    simp [hk, h2, h0]

set_option maxRecDepth 20000 in
theorem cbOf_any (W : Int) (ao : Option Addr) (cap : Nat) (l : List Int) (n : Nat) (w : World) (Hn : Hid (n = l.length)) (hn : n ≤ 1048576) (hc : NumsAt w ao l) :
    Calls Try.prog 41 #[.int .i64 W, .slice ao n cap] w fun e w' => e = .returned (.bool (ofB W l)) ∧ w = w' := by
  cases hg : ksB l
  · have hR : ofB W l = false := by simp [ofB, hg]
    rw [hR]
    have Hg := Lib.hid hg
    clear hg hR
    go_enter Try.func41, Try.ntmps41
    go_wp2_with fail
    refine (cbKinds_any ao cap l n w Hn hn hc).mono ?_
    rintro e w' ⟨rfl, rfl⟩
    rw [Hg.out]
    go_wp2_with fail
    go_ret
    exact ⟨rfl, rfl⟩
  · have hb := ksB_len hg
    have hle : ∀ k, k ≤ n → sumZ l k ≤ 12 ∧ 0 ≤ sumZ l k := fun k hk => by
      have h1 := sum_mono (l := l) k l.length (by rw [← Hn.out]; exact hk) hb.2.2.1
      have h2 := sum_ge (l := l) k (fun i hi => hb.2.2.1 i (by rw [← Hn.out]; omega))
      omega
    obtain ⟨b, off, hao, hcc⟩ : ∃ b off, ao = some ⟨b, off, none⟩ ∧ (∀ i, i < n → w.cell? ⟨b, off + i, none⟩ = some (.int .i64 (na l i))) := by
      rcases hc with h | ⟨b, off, h, hc⟩
      · subst h; have := hb.1; simp at this
      · exact ⟨b, off, h, fun i hi => hc i (by rw [← Hn.out]; exact hi)⟩
    have hR : ofB W l = (sumZ l n == W) := by simp [ofB, hg, ← Hn.out]
    rw [hR]
    have Hg := Lib.hid hg
    have Hle := Lib.hid hle
    have Hcc := Lib.hid hcc
    have Hc0 := Lib.hid hc
    clear hg hR hb hle hcc hc
    subst hao
    go_enter Try.func41, Try.ntmps41
    go_wp2_with fail
    refine (cbKinds_any _ cap l n w Hn hn Hc0.out).mono ?_
    rintro e w' ⟨rfl, rfl⟩
    rw [Hg.out]
    go_wp2_with fail
    go_loopw [5, 13] (fun s i wr => ∃ k : Nat, k ≤ n ∧ i = .int .i64 k ∧ s = .int .i64 (sumZ l k) ∧ w = wr) (fun _ i _ => n - (intOf i).toNat)
    case atStart => exact ⟨0, Nat.zero_le _, rfl, rfl, rfl⟩
    case round =>
      obtain ⟨k, hk, rfl, rfl, hw⟩ := hrel
      subst hw
      by_cases hlt : k < n
      · have h0 := Hcc.out k hlt
        have h1 := Hle.out (k + 1) (by omega)
        have Hs : Hid (sumZ l (k + 1) = sumZ l k + na l k) := rfl
        have hw2 : IntKind.i64.wrap (sumZ l k + na l k) = sumZ l k + na l k := IntWalk.i64_in _ (by have := Hs.out; omega)
        clear h1
        go_wp2_with fail
        go_roundw
        case rel => exact ⟨k + 1, by omega, by go_num, by rw [Hs.out], by trivial⟩
        case measure => simp [intOf]; omega
      · obtain rfl : k = n := by omega
        go_wp2_with fail
        go_ret
        exact ⟨rfl, rfl⟩

set_option maxRecDepth 20000 in
theorem areSizesOf_any (W : Int) (hW0 : 0 ≤ W) (hW : W ≤ 12) (ao : Option Addr) (cap : Nat) (l : List Int) (n : Nat) (w : World) (Hn : Hid (n = l.length)) (hn : n ≤ 1048576) (hc : NumsAt w ao l) :
    Calls Try.prog 46 #[.int .i64 W, .slice ao n cap] w fun e w' => e = .returned (.bool (ofB W l)) ∧ Below w.heap.size w w' := by
  rw [← of_impl hW l]
  have HL := Lib.hid (leftBySizes_any W hW0 hW ao cap l n w Hn hn hc)
  generalize lfV W l = V at HL ⊢
  generalize lfB W l = B at HL ⊢
  clear hc
  cases B
  · go_enter Try.func46, Try.ntmps46
    go_wp2_with fail
    refine HL.out.mono ?_
    rintro e w1 ⟨rfl, hb1⟩
    go_wp2_with fail
    go_ret
    exact ⟨rfl, hb1⟩
  · go_enter Try.func46, Try.ntmps46
    go_wp2_with fail
    refine HL.out.mono ?_
    rintro e w1 ⟨rfl, hb1⟩
    go_wp2_with fail
    go_ret
    exact ⟨rfl, hb1⟩

theorem nx_one (l : List Int) (x : Int) : nx (l ++ [x]) (l.length + 1) = if x = nx l l.length then nx l l.length + 1 else nx l l.length := by
  rw [nx, na_app_last, nx_app l x l.length (Nat.le_refl _)]

theorem fbT_gr {l : List Int} {k : Nat} (h : grTo (fbL l k) (fbL l k).length = true ∧ nx (fbL l k) (fbL l k).length = (k : Int)) : ∀ j, grTo (fbT l k j) (fbT l k j).length = true ∧ nx (fbT l k j) (fbT l k j).length = if j = 0 then (k : Int) else (k : Int) + 1
  | 0 => by rw [fbT_zero, if_pos rfl]; exact h
  | j + 1 => by
    have ih := fbT_gr h j
    rw [← fbT_succ, if_neg (by omega), List.length_append, List.length_singleton]
    refine ⟨grTo_app ih.1 ⟨by omega, ?_⟩, ?_⟩
    · rw [ih.2]; split <;> omega
    · rw [nx_one, ih.2]
      by_cases hj : j = 0
      · rw [if_pos hj, if_pos rfl]
      · rw [if_neg hj, if_neg (by omega)]

theorem fb_gr {l : List Int} (h : ksB l = true) : ∀ k, k ≤ l.length → grTo (fbL l k) (fbL l k).length = true ∧ nx (fbL l k) (fbL l k).length = (k : Int)
  | 0, _ => ⟨rfl, rfl⟩
  | k + 1, hk => by
    obtain ⟨q, hq, hq1, _⟩ := fb_at h (k := k) (by omega)
    have h1 := fbT_gr (fb_gr h k (by omega)) q
    rw [fbT_all l k q hq, if_neg (by omega)] at h1
    exact ⟨h1.1, by rw [h1.2]; omega⟩

theorem of_parts {W : Nat} {l : List Int} (h : ofB (W : Int) l = true) (h1 : 1 ≤ W) (hW : W ≤ 12) : ksB l = true ∧ (fbL l l.length).length = W ∧ grB (fbL l l.length) = true := by
  simp only [ofB, Bool.and_eq_true, beq_iff_eq] at h
  have h2 := fb_len (l := l) l.length (ksB_len h.1).2.2.1
  have h3 := fb_gr h.1 l.length (Nat.le_refl _)
  have h4 : (fbL l l.length).length = W := by omega
  exact ⟨h.1, h4, good_of h3.1 (by omega) (by omega)⟩

/-- These sizes tell all wires together with those. -/
def stT (W : Nat) (l m : List Int) : Bool := (ptI (fbL l l.length) (allG W) (allG W).length).any fun i => szS (gl (row (allG W) i) W) == m

def stOk (W : Int) (l m : List Int) : Bool := decide (1 ≤ W ∧ W ≤ 7) && (ofB W l && ofB W m)

def stR (W : Int) (l m : List Int) : Bool := stOk W l m && stT W.toNat l m

theorem any_next {α : Type} {f : α → Bool} {P : List α} {q : Nat} {x : α} (h : (P.take q).any f = false) (hx : P[q]? = some x) (hf : f x = false) : (P.take (q + 1)).any f = false := by
  have hq := (List.getElem?_eq_some_iff.1 hx)
  obtain ⟨h1, h2⟩ := hq
  rw [List.take_succ_eq_append_getElem h1, List.any_append, h, h2]; simp [hf]

theorem any_at {α : Type} {f : α → Bool} {P : List α} {q : Nat} {x : α} (hx : P[q]? = some x) (hf : f x = true) : P.any f = true := by
  rw [List.any_eq_true]
  exact ⟨x, List.mem_of_getElem? hx, hf⟩

theorem firstBySizes_any (ao : Option Addr) (cap : Nat) (l : List Int) (n : Nat) (w : World) (Hn : Hid (n = l.length)) (Hg : Hid (ksB l = true)) (hc : NumsAt w ao l) :
    Calls Try.prog 48 #[.slice ao n cap] w fun e w' => ∃ v, e = .returned v ∧ w'.ownsRow w.heap.size 3 1 v (fbL l n).length (ns (fbL l n)) ∧ Below w.heap.size w w' := by
  have hn12 : n ≤ 12 := by rw [Hn.out]; exact (ksB_len Hg.out).2.1
  rcases hc with h | ⟨b, off, rfl, hc⟩
  · subst h; have := (ksB_len Hg.out).1; simp at this
  · exact firstBySizes_pos b off cap l n w Hn hn12 Hg (fun i hi => hc i (by rw [← Hn.out]; exact hi))

theorem nums_old {w w' : World} {ao : Option Addr} {l : List Int} (hb : Below w.heap.size w w') (h : NumsAt w ao l) : NumsAt w' ao l := by
  rcases h with h | ⟨b, off, h, hc⟩
  · exact .inl h
  · exact .inr ⟨b, off, h, fun i hi => cell_old hb (hc i hi)⟩

theorem ptX_cell {w : World} {base g q c : Nat} {X : List Value} {P : List Nat} (h : w.ownsRow base 22 1 (.slice (some ⟨g, 0, none⟩) q c) q (ptX X P)) (hq : q = P.length) (j i : Nat) (hi : P[j]? = some i) : w.cell? ⟨g, j, none⟩ = some (X.getD i (.bool false)) := by
  have hj := (List.getElem?_eq_some_iff.1 hi).1
  have hc := h.cellAt j (by omega)
  rw [hc]
  unfold ptX
  rw [List.getElem?_map, hi]; rfl

end Go.Proofs.Ytcedacneagpjcaa
