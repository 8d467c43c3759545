/- Tests joined: the program. -/
import Derived.Test.YtejmlhhblckddaaJt0
namespace Go.Proofs.Ytejmlhhblckddaa
open Go.ChangeShapes Go.WideShapes Go.ChangeAt Go.RowKit
set_option linter.unusedVariables false


/-- The first k rows are fresh, the rest are the old slices. -/
def PR (w : World) (base H g N cap : Nat) (D X : List Value) (L : List (List Int)) (k : Nat) : Prop :=
  w.ownsRow base 27 1 (.slice (some ⟨g, 0, none⟩) N cap) N (X ++ D.drop k) ∧ X.length = k ∧
  (∀ (i : Nat) (x : Value), X[i]? = some x → w.ownsRow H 3 1 x (row L i).length (ns (row L i))) ∧
  (∀ (i j : Nat) (x y : Value) (b : Nat), i < j → X[i]? = some x → X[j]? = some y → x.ownBlock = some b → y.ownBlock ≠ some b)
theorem PR.later {w w' : World} {base H g N cap : Nat} {D X : List Value} {L : List (List Int)} {k : Nat} (h : PR w base H g N cap D X L k) (hb : Below w.heap.size w w') : PR w' base H g N cap D X L k :=
  ⟨own_later h.1 hb, h.2.1, fun i x hx => own_later (h.2.2.1 i x hx) hb, h.2.2.2⟩
theorem PR.step {w w1 : World} {base H g N cap : Nat} {D X : List Value} {L : List (List Int)} {k : Nat} (h : PR w base H g N cap D X L k) (hk : k < D.length) (hg : g < H) (hH : H ≤ w.heap.size) (hb : Below w.heap.size w w1)
    {x : Value} (hx : w1.ownsRow w.heap.size 3 1 x (row L k).length (ns (row L k))) : PR (w1.setCell ⟨g, k, none⟩ x) base H g N cap D (X ++ [x]) L (k + 1) := by
  have h5 := ((h.later hb).1.stored k x).1
  have hs : (X ++ D.drop k).set k x = (X ++ [x]) ++ D.drop (k + 1) := by
    rw [List.drop_eq_getElem_cons hk, List.set_append_right _ _ (by rw [h.2.1]; exact Nat.le_refl _), h.2.1]
    rw [Nat.sub_self, List.set_cons_zero, List.append_assoc]; rfl
  rw [hs] at h5
  have far : ∀ b, b ≠ g → (w1.setCell ⟨g, k, none⟩ x).heap[b]? = w1.heap[b]? := fun b hb => Below.heap_setCell _ _ _ _ (by simpa using hb)
  refine ⟨h5, by simp [h.2.1], fun i y hy => ?_, fun i j y z b hij hy hz hb2 => ?_⟩
  · by_cases hi : i < X.length
    · rw [List.getElem?_append_left hi] at hy
      have h6 := h.2.2.1 i y hy
      exact own_same (own_later h6 hb) (fun b hb => far b (by have := (h6.lt b hb).1; omega))
    · have hi2 : i = X.length := by
        have := (List.getElem?_eq_some_iff.1 hy).1
        simp at this; omega
      subst hi2
      simp at hy
      subst hy
      rw [h.2.1]
      exact own_same (own_base hH hx) (fun b hb => far b (by have := (hx.lt b hb).1; omega))
  · have hj : j < X.length + 1 := by have := (List.getElem?_eq_some_iff.1 hz).1; simpa using this
    rw [List.getElem?_append_left (by omega)] at hy
    by_cases hjX : j < X.length
    · rw [List.getElem?_append_left hjX] at hz
      exact h.2.2.2 i j y z b hij hy hz hb2
    · obtain rfl : j = X.length := by omega
      simp at hz
      subst hz
      intro e
      have h1 := ((h.2.2.1 i y hy).lt b hb2).2
      have h2 := (hx.lt b e).1
      omega
theorem PR.done {w : World} {base H g N cap : Nat} {D X : List Value} {L : List (List Int)} (h : PR w base H g N cap D X L N) (hD : D.length = N) (hL : L.length = N) (hg : g < H) (hb : base ≤ H) : OwnSS w base (.slice (some ⟨g, 0, none⟩) N cap) X L := by
  have h1 := h.1
  rw [List.drop_eq_nil_of_le (by omega), List.append_nil] at h1
  refine ⟨by rw [hL]; exact h1, by rw [h.2.1, hL], fun i x l hx hl => ?_, h.2.2.2⟩
  have h2 := h.2.2.1 i x hx
  have hi := (List.getElem?_eq_some_iff.1 hl).1
  rw [List.getElem?_eq_getElem hi, row_get hi] at hl
  obtain rfl : row L i = l := by simpa using hl
  refine ⟨own_base hb h2, fun b hb2 e => ?_⟩
  have h3 := (h2.lt b hb2).1
  have h4 : g = b := by simpa [Value.ownBlock] using e
  omega
theorem rows_own2 {w : World} {base : Nat} {ao : Option Addr} {n cap : Nat} {X : List Value} {L : List (List Int)} (h : OwnSS w base (.slice ao n cap) X L) : RowsAt w ao L ∧ (ao = none → cap = 0) := by
  obtain ⟨ao', cap', e, hr⟩ := h.rows
  cases e
  exact ⟨hr, own_nil h.1⟩

set_option maxHeartbeats 3200000 in
set_option maxRecDepth 20000 in
theorem implJt_any (w : World) (f : Int) (o1 : Option Addr) (c1 : Nat) (A : List (List Int)) (n1 : Nat) (Hn1 : Hid (n1 = A.length)) (hn1 : n1 ≤ 1048576) (HA : Hid (∀ i, (row A i).length ≤ 1048576)) (Hd1 : RowsAt w o1 A ∧ (o1 = none → c1 = 0)) (o2 : Option Addr) (c2 : Nat) (B : List (List Int)) (n2 : Nat) (Hn2 : Hid (n2 = B.length)) (hn2 : n2 ≤ 1048576) (HB : Hid (∀ i, (row B i).length ≤ 1048576)) (Hd2 : RowsAt w o2 B ∧ (o2 = none → c2 = 0)) :
    Calls Try.prog 35 #[.int .i64 f, .slice o1 n1 c1, .slice o2 n2 c2] w fun e w' => ∃ v X, e = .returned (.tuple #[v, .bool (jtB f A B)]) ∧ OwnSS w' w.heap.size v X (jtR f A B) ∧ Below w.heap.size w w' := by
  have Hc1 := Hd1.1
  have Hc2 := Hd2.1
  have Hz1 := Lib.hid Hd1.2
  have Hz2 := Lib.hid Hd2.2
  clear Hd1 Hd2
  obtain ⟨i0, hi, hz0, hz1, hz2⟩ := info_parts info27
  have HC1 := Lib.hid Hc1
  have HC2 := Lib.hid Hc2
  clear Hc1 Hc2
  cases hA : wiB f A
  · have hB : jtB f A B = false := by simp [jtB, hA]
    have hR : jtR f A B = [] := by simp [jtR, hB]
    rw [hR, hB]
    have Hw := Lib.hid hA
    clear hR hB hA
    go_enter Try.func35, Try.ntmps35
    go_wp2_with fail
    refine (areTests_any f o1 c1 A n1 w Hn1 hn1 HA HC1).mono ?_
    rintro e w' ⟨rfl, rfl⟩
    rw [Hw.out]
    go_wp2_with fail
    go_ret2
    exact ⟨_, [], rfl, OwnSS.nil _ _, Below.refl _ _⟩
  · cases hBw : wiB f B
    · have hB : jtB f A B = false := by simp [jtB, hA, hBw]
      have hR : jtR f A B = [] := by simp [jtR, hB]
      rw [hR, hB]
      have Hw := Lib.hid hA
      have Hv := Lib.hid hBw
      clear hR hB hA hBw
      go_enter Try.func35, Try.ntmps35
      go_wp2_with fail
      refine (areTests_any f o1 c1 A n1 w Hn1 hn1 HA HC1).mono ?_
      rintro e w' ⟨rfl, rfl⟩
      rw [Hw.out]
      go_wp2_with fail
      refine (areTests_any f o2 c2 B n2 w Hn2 hn2 HB HC2).mono ?_
      rintro e w' ⟨rfl, rfl⟩
      rw [Hv.out]
      go_wp2_with fail
      go_ret2
      exact ⟨_, [], rfl, OwnSS.nil _ _, Below.refl _ _⟩
    · by_cases h12 : n1 + n2 ≤ 12
      case neg =>
        have hB : jtB f A B = false := by
          rw [Hn1.out, Hn2.out] at h12
          simp [jtB, hA, hBw]; omega
        have hR : jtR f A B = [] := by simp [jtR, hB]
        rw [hR, hB]
        have Hw := Lib.hid hA
        have Hv := Lib.hid hBw
        have hd : decide ((n1 : Int) + (n2 : Int) > 12) = true := by simp; omega
        clear hR hB hA hBw h12
        go_enter Try.func35, Try.ntmps35
        go_wp2_with fail
        refine (areTests_any f o1 c1 A n1 w Hn1 hn1 HA HC1).mono ?_
        rintro e w' ⟨rfl, rfl⟩
        rw [Hw.out]
        go_wp2_with fail
        refine (areTests_any f o2 c2 B n2 w Hn2 hn2 HB HC2).mono ?_
        rintro e w' ⟨rfl, rfl⟩
        rw [Hv.out]
        go_wp2_with fail
        go_ret2
        exact ⟨_, [], rfl, OwnSS.nil _ _, Below.refl _ _⟩
      have hB : jtB f A B = true := by
        have h3 := h12
        rw [Hn1.out, Hn2.out] at h3
        simp [jtB, hA, hBw]; omega
      have hR : jtR f A B = A ++ B := by simp [jtR, hB]
      have HJ := Lib.hid hB
      rw [hR, hB]
      have HA10 : Hid (∀ i, i < n1 → 0 < (row A i).length ∧ (row A i).length ≤ 10) := Lib.hid fun i hi => (wi_row hA (by rw [← Hn1.out]; exact hi)).2
      have HB10 : Hid (∀ i, i < n2 → 0 < (row B i).length ∧ (row B i).length ≤ 10) := Lib.hid fun i hi => (wi_row hBw (by rw [← Hn2.out]; exact hi)).2
      have Hw := Lib.hid hA
      have Hv := Lib.hid hBw
      have hd : decide ((n1 : Int) + (n2 : Int) > 12) = false := by simp; omega
      obtain ⟨L, hL⟩ : ∃ L, A ++ B = L := ⟨_, rfl⟩
      rw [hL]
      have HLe := Lib.hid hL
      clear hR hB hA hBw
      go_enter Try.func35, Try.ntmps35
      go_wp2_with fail
      refine (areTests_any f o1 c1 A n1 w Hn1 hn1 HA HC1).mono ?_
      rintro e w' ⟨rfl, rfl⟩
      rw [Hw.out]
      go_wp2_with fail
      refine (areTests_any f o2 c2 B n2 w Hn2 hn2 HB HC2).mono ?_
      rintro e w' ⟨rfl, rfl⟩
      rw [Hv.out]
      clear hd
      go_wp2_with fail
      obtain ⟨D1, hD1, hN1⟩ := HC1.out.hd
      obtain ⟨D2, hD2, hN2⟩ := HC2.out.hd
      have bd : Below w.heap.size w (w.alloc (.cells #[.slice o1 n1 c1, .slice o2 n2 c2] 22)) := (Below.refl _ _).alloc (Nat.le_refl _) _
      have hs0 : (w.alloc (.cells #[.slice o1 n1 c1, .slice o2 n2 c2] 22)).heap.size = w.heap.size + 1 := by simp
      have e1 := Hn1.out
      have e2 := Hn2.out
      refine (concat_two (w.alloc (.cells #[.slice o1 n1 c1, .slice o2 n2 c2] 22)) w.heap.size o1 c1 D1 o2 c2 D2 n1 n2 (by rw [e1, hN1.1]) (by rw [e2, hN2.1]) (by omega) (by omega) (by rw [cell_of_row _ _ _ _ _ _ (heap_alloc_new w _)]; rfl) (by rw [cell_of_row _ _ _ _ _ _ (heap_alloc_new w _)]; rfl) (hD1.kept bd) (hD2.kept bd) hN1.one hN2.one Hz1.out Hz2.out).mono ?_
      rintro e w1 ⟨v, rfl, own, hb1⟩
      have HN := Lib.hid (hN1.app hN2)
      have hbel1 : Below w.heap.size w w1 := bd.trans (hb1.mono (by rw [hs0]; omega))
      have own1 := own_base (b' := w.heap.size) (by rw [hs0]; omega) own
      obtain ⟨D, hD⟩ : ∃ D, D1 ++ D2 = D := ⟨_, rfl⟩
      have hL := HLe.out
      obtain ⟨N, hN⟩ : ∃ N, n1 + n2 = N := ⟨_, rfl⟩
      rw [hD, hL] at HN
      rw [hD, hN] at own1
      have hLN : L.length = N := by rw [← hL, ← hN, List.length_append, e1, e2]
      have hDN : D.length = N := by rw [HN.out.1, hLN]
      have HL10 : Hid (∀ i, i < N → 0 < (row L i).length ∧ (row L i).length ≤ 10) := Lib.hid fun i hi => by
        have h9 := jt_row HJ.out (i := i) (by rw [hL, hLN]; exact hi)
        rw [hL] at h9
        exact h9
      rw [hN] at h12
      have hs1 := hbel1.size
      clear own bd hs0 hb1 hD1 hD2 hN1 hN2 hD hN hL e1 e2 HA10 HB10 Hw Hv
      by_cases hN0 : N = 0
      · subst hN0
        have hL0 : L = [] := List.eq_nil_of_length_eq_zero hLN
        have hD0 : D = [] := List.eq_nil_of_length_eq_zero hDN
        subst hL0
        subst hD0
        have Ho : Hid (OwnSS w1 w.heap.size v [] []) := Lib.hid ⟨own1, rfl, fun i x l hx _ => by simp at hx, fun i j x y b _ hx => by simp at hx⟩
        obtain ⟨ao, cap, rfl, _⟩ := Ho.out.reads
        clear own1
        go_wp2_with fail
        go_rounds 1
        go_ret2
        exact ⟨_, [], rfl, Ho.out, hbel1⟩
      · obtain ⟨g, cap, rfl, hgb⟩ := own_pos own1 (by omega)
        have hgH := (own1.lt g rfl).2
        obtain ⟨H, hH⟩ : ∃ H, w1.heap.size = H := ⟨_, rfl⟩
        rw [hH] at hgH hs1
        have HP0 : Hid (PR w1 w.heap.size H g N cap D [] L 0) := Lib.hid ⟨by simpa using own1, rfl, fun i x hx => by simp at hx, fun i j x y b _ hx => by simp at hx⟩
        clear own1
        go_wp2_with fail
        go_loopw [35] (fun i wr => ∃ (k : Nat) (X : List Value), k ≤ N ∧ i = .int .i64 k ∧ PR wr w.heap.size H g N cap D X L k ∧ H ≤ wr.heap.size ∧ Below w.heap.size w wr) (fun i _ => N - (intOf i).toNat)
        case atStart => exact ⟨0, [], Nat.zero_le _, rfl, HP0.out, by omega, hbel1⟩
        case round =>
          obtain ⟨k, X, hk, rfl, hor, hHr, hbel⟩ := hrel
          by_cases hlt : k < N
          · have hsz := hbel.size
            have hkD : k < D.length := by omega
            have hDk := List.getElem?_eq_getElem hkD
            obtain ⟨aa, cc, hDe, hc2⟩ := (HN.out.kept hbel).2 k _ hDk
            obtain ⟨m, hm⟩ : ∃ m, (row L k).length = m := ⟨_, rfl⟩
            have h10 := HL10.out k hlt
            have hc1 := hor.1.cellAt k (by omega)
            rw [List.getElem?_append_right (by rw [hor.2.1]; exact Nat.le_refl _), hor.2.1, List.getElem?_drop] at hc1
            simp only [Nat.sub_self, Nat.add_zero] at hc1
            rw [hDk, hDe, hm] at hc1
            rw [hm] at h10
            have Hm := Lib.hid hm.symm
            have Hc2 := Lib.hid hc2
            have Hor := Lib.hid hor
            have hk1 : (0 : Int) ≤ k := by omega
            have hk2 : (k : Int) < N := by omega
            have hgwr : g < wr.heap.size := by omega
            clear hor hc2 hm hDe hDk
            go_wp2_with fail
            refine (clone_at aa cc m (row L k) wr Hm h10.1 (by omega) Hc2.out).mono ?_
            rintro e w5 ⟨g5, k5, rfl, own5, hb5⟩
            have own6 : w5.ownsRow wr.heap.size 3 1 (.slice (some ⟨g5, 0, none⟩) m k5) (row L k).length (ns (row L k)) := by rw [← Hm.out]; exact own5
            have hbel5 : Below w.heap.size w w5 := hbel.trans (hb5.mono hsz)
            have hout := (Hor.out.later hb5).1
            obtain ⟨u0, z0⟩ := own_some hout k (by omega)
            have zf0 := hout.frozenAt k
            have Hst := Lib.hid (Hor.out.step hkD hgH hHr hb5 own6)
            have hs5 := hb5.size
            have hs6 : (w5.setCell ⟨g, k, none⟩ (.slice (some ⟨g5, 0, none⟩) m k5)).heap.size = w5.heap.size := by simp
            clear hout own5 own6 hb5 hbel
            go_wp2_with fail
            go_roundw
            case rel => exact ⟨k + 1, _, by omega, by go_num, Hst.out, by rw [hs6]; omega, hbel5.setCell hgb _⟩
            case measure => simp [intOf]; omega
          · have hkn : N = k := by omega
            subst hkn
            have Hor := Lib.hid (hor.done hDN hLN hgH hs1)
            clear hor
            go_wp2_with fail
            go_ret2
            exact ⟨_, X, rfl, Hor.out, hbel⟩

end Go.Proofs.Ytejmlhhblckddaa
