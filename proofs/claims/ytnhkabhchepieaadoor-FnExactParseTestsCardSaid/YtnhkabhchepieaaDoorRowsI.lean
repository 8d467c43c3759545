/- The laws' own helpers on lists of lists of numbers: sizes, copies. -/
import Derived.Test.YtnhkabhchepieaaDoorGrow
namespace Go.Proofs.YtnhkabhchepieaaDoor
open Go.ChangeShapes Go.WideShapes Go.ChangeAt Go.RowKit
set_option linter.unusedVariables false


theorem own_cap {w : World} {base : Nat} {e : TypeId} {size n m cap : Nat} {ao : Option Addr} {xs : List Value} (h : w.ownsRow base e size (.slice ao n cap) m xs) : n ≤ cap := by
  rcases h.2 with ⟨h', _⟩ | ⟨g', cap', cur, h', _, _, hnc, _⟩
  · simp at h'; omega
  · simp only [Value.slice.injEq] at h'
    obtain ⟨_, h2, h3⟩ := h'
    omega

theorem own_nil {w : World} {base : Nat} {e : TypeId} {size n m cap : Nat} {ao : Option Addr} {xs : List Value} (h : w.ownsRow base e size (.slice ao n cap) m xs) (ha : ao = none) : cap = 0 := by
  subst ha
  rcases h.2 with ⟨h', _⟩ | ⟨g', cap', cur, h', _, _, hnc, _⟩
  · simp at h'; omega
  · simp at h'


/-- The slice at this address reads as these lists of calls. -/
def RowsAt (w : World) (ao : Option Addr) (L : List (List Int)) : Prop :=
  L = [] ∨ ∃ b off A C, ao = some ⟨b, off, none⟩ ∧ SSAt w b off A C L L.length ∧ ∀ i, i < L.length → (row L i).length ≤ C i ∧ (A i = none → C i = 0)

theorem RowsAt.kept {w w' : World} {ao : Option Addr} {L : List (List Int)} (h : RowsAt w ao L) (hb : Below w.heap.size w w') : RowsAt w' ao L := by
  rcases h with h | ⟨b, off, A, C, h, hc, hcap⟩
  · exact .inl h
  · exact .inr ⟨b, off, A, C, h, hc.kept hb, hcap⟩

theorem OwnSS.rows {w : World} {base : Nat} {v : Value} {X : List Value} {L : List (List Int)} (h : OwnSS w base v X L) : ∃ ao cap, v = .slice ao L.length cap ∧ RowsAt w ao L := by
  obtain ⟨ao, cap, rfl, hr⟩ := h.reads
  refine ⟨ao, cap, rfl, ?_⟩
  rcases hr with h0 | ⟨b, rfl, hc⟩
  · exact .inl (List.eq_nil_of_length_eq_zero h0)
  · refine .inr ⟨b, 0, _, _, rfl, hc, fun i hi => ?_⟩
    obtain ⟨a, c, hx, _, ho⟩ := h.cellOf rfl i hi
    have e : X.getD i (.bool false) = .slice a (row L i).length c := by simp [List.getD_eq_getElem?_getD, hx]
    simp only [e]
    exact ⟨own_cap ho, fun ha => own_nil ho ha⟩

theorem row_none {L : List (List Int)} {i : Nat} (h : L.length ≤ i) : row L i = [] := by simp [row, List.getD_eq_getElem?_getD, h]


theorem ctot_mono (L : List (List Int)) {i j : Nat} (h : i ≤ j) : ctot L i ≤ ctot L j := by
  induction j with
  | zero => obtain rfl : i = 0 := by omega
            exact Nat.le_refl _
  | succ j ih =>
    by_cases hij : i = j + 1
    · subst hij; exact Nat.le_refl _
    · exact Nat.le_trans (ih (by omega)) (by simp [ctot])

theorem row_le_ctot (L : List (List Int)) (i : Nat) : (row L i).length ≤ ctot L L.length := by
  by_cases h : i < L.length
  · have h1 := ctot_mono L (i := i + 1) (j := L.length) h
    have h2 : ctot L (i + 1) = ctot L i + (row L i).length := rfl
    omega
  · rw [row_none (by omega)]; simp

theorem szIntS_fit (ao : Option Addr) (n cap left : Nat) (w : World) (h : n ≤ left) (hl : left ≤ 1048576) :
    Calls Tryd.prog 29 #[.slice ao n cap, .int .i64 (left : Int)] w fun e w' => e = .returned (.int .i64 ((left - n : Nat) : Int)) ∧ w = w' := by
  have hd : decide ((left : Int) - (n : Int) < 0) = false := by simp; omega
  have e1 : ((left - n : Nat) : Int) = (left : Int) - n := by omega
  rw [e1]
  go_enter Tryd.func29, Tryd.ntmps29
  go_wp2
  go_ret
  exact ⟨rfl, rfl⟩

theorem szIntS_over (ao : Option Addr) (n cap left : Nat) (w : World) (h : left < n) (hl : left ≤ 1048576) (hm : n ≤ 9223372036854775807) :
    Calls Tryd.prog 29 #[.slice ao n cap, .int .i64 (left : Int)] w fun e w' => e = .returned (.int .i64 (-1)) ∧ w = w' := by
  have hd : decide ((left : Int) - (n : Int) < 0) = true := by simp; omega
  go_enter Tryd.func29, Tryd.ntmps29
  go_wp2
  go_ret
  exact ⟨rfl, rfl⟩

theorem szIntSS_pos (b off cap : Nat) (A : Nat → Option Addr) (C : Nat → Nat) (L : List (List Int)) (n : Nat) (left : Nat) (w : World) (hl : n ≤ 9223372036854775807) (hlf : left ≤ 1048576) (hL : Hid (∀ i, (row L i).length ≤ 9223372036854775807)) (Hc : Hid (SSAt w b off A C L n)) :
    Calls Tryd.prog 8 #[.slice (some ⟨b, off, none⟩) n cap, .int .i64 (left : Int)] w fun e w' => ∃ r : Int, e = .returned (.int .i64 r) ∧ w = w' ∧ (0 ≤ r → r + n + ctot L n = left) := by
  by_cases hs : n ≤ left
  · have hd0 : decide ((left : Int) - (n : Int) < 0) = false := by simp; omega
    have Hq0 : Hid ((left : Int) - (n : Int) = ((left - n : Nat) : Int)) := by show _ = _; omega
    go_enter Tryd.func8, Tryd.ntmps8
    go_wp2_with fail
    go_loopw [1, 5] (fun lf i wr => ∃ (k q : Nat), k ≤ n ∧ q ≤ 1048576 ∧ i = .int .i64 k ∧ lf = .int .i64 q ∧ Hid (q + n + ctot L k = left) ∧ w = wr) (fun _ i _ => n - (intOf i).toNat)
    case atStart => exact ⟨0, left - n, Nat.zero_le _, by omega, rfl, by rw [← Hq0.out], Lib.hid (by simp only [ctot]; omega), rfl⟩
    case round =>
      obtain ⟨k, q, hk, hq, rfl, rfl, hdone, rfl⟩ := hrel
      by_cases hlt : k < n
      · obtain ⟨h0, _⟩ := Hc.out k hlt
        have hlk := hL.out k
        have hk1 : (0 : Int) ≤ k := by omega
        have hk2 : (k : Int) < n := by omega
        by_cases hfit : (row L k).length ≤ q
        · have hq0 : (0 : Int) ≤ ((q - (row L k).length : Nat) : Int) := by omega
          have hd : decide (((q - (row L k).length : Nat) : Int) < 0) = false := by simp
          have Hnext : Hid (q - (row L k).length + n + ctot L (k + 1) = left) := by
            have h1 := hdone.out
            show _ = _
            simp only [ctot]
            omega
          go_wp2_with fail
          refine (szIntS_fit _ _ _ q _ hfit hq).mono ?_
          rintro e w2 ⟨rfl, rfl⟩
          go_wp2_with fail
          go_roundw
          case rel => exact ⟨k + 1, q - (row L k).length, by omega, by omega, by go_num, rfl, Hnext, by trivial⟩
          case measure => simp [intOf]; omega
        · go_wp2_with fail
          refine (szIntS_over _ _ _ q _ (by omega) hq hlk).mono ?_
          rintro e w2 ⟨rfl, rfl⟩
          go_wp2_with fail
          go_ret
          exact ⟨-1, rfl, rfl, fun h => absurd h (by decide)⟩
      · obtain rfl : k = n := by omega
        go_wp2_with fail
        go_ret
        exact ⟨q, rfl, rfl, fun _ => by have := hdone.out; omega⟩
  · have hd : decide ((left : Int) - (n : Int) < 0) = true := by simp; omega
    go_enter Tryd.func8, Tryd.ntmps8
    go_wp2_with fail
    go_ret
    exact ⟨-1, rfl, rfl, fun h => absurd h (by decide)⟩

theorem szIntSS_zero (ao : Option Addr) (cap : Nat) (left : Nat) (hlf : left ≤ 1048576) (w : World) :
    Calls Tryd.prog 8 #[.slice ao 0 cap, .int .i64 (left : Int)] w fun e w' => e = .returned (.int .i64 (left : Int)) ∧ w = w' := by
  go_enter Tryd.func8, Tryd.ntmps8
  go_wp2_with fail
  go_rounds 1
  go_ret
  exact ⟨rfl, rfl⟩

theorem szIntSS_any (ao : Option Addr) (cap : Nat) (L : List (List Int)) (n : Nat) (left : Int) (w : World) (h0 : 0 ≤ left) (hlf : left ≤ 1048576) (hn : n = L.length) (hl : n ≤ 9223372036854775807) (hL : ∀ i, (row L i).length ≤ 9223372036854775807) (Hc : RowsAt w ao L) :
    Calls Tryd.prog 8 #[.slice ao n cap, .int .i64 left] w fun e w' => ∃ r : Int, e = .returned (.int .i64 r) ∧ w = w' ∧ (0 ≤ r → r + n + ctot L n = left) := by
  obtain ⟨q, rfl⟩ := Int.eq_ofNat_of_zero_le h0
  rcases Hc with h | ⟨b, off, A, C, rfl, hc, hcap⟩
  · subst h
    subst hn
    refine (szIntSS_zero ao cap q (by omega) w).mono ?_
    rintro e w' ⟨rfl, rfl⟩
    exact ⟨_, rfl, rfl, fun _ => by simp [ctot]⟩
  · exact szIntSS_pos b off cap A C L n q w hl (by omega) hL (by rw [hn]; exact hc)


theorem cpart_set (L : List (List Int)) (k : Nat) (h : k < L.length) : (L.take k ++ List.replicate (L.length - k) []).set k (row L k) = L.take (k + 1) ++ List.replicate (L.length - (k + 1)) [] := by
  rw [List.set_append_right _ _ (by simp; omega), show k - (L.take k).length = 0 by simp; omega, show L.length - k = (L.length - (k + 1)) + 1 by omega, List.replicate_succ, List.set_cons_zero, List.take_succ_eq_append_getElem h, row_get h]
  simp

set_option maxRecDepth 20000 in
theorem toIntSS_pos (b off cap : Nat) (A : Nat → Option Addr) (C : Nat → Nat) (L : List (List Int)) (n : Nat) (w : World) (Hn : Hid (n = L.length)) (hl : n ≤ 1048576) (hL : Hid (∀ i, (row L i).length ≤ 1048576)) (Hc : Hid (SSAt w b off A C L n)) :
    Calls Tryd.prog 10 #[.slice (some ⟨b, off, none⟩) n cap] w fun e w' => ∃ X, e = .returned (.slice (some ⟨w.heap.size, 0, none⟩) n n) ∧ OwnSS w' w.heap.size (.slice (some ⟨w.heap.size, 0, none⟩) n n) X L ∧ Below w.heap.size w w' := by
  obtain ⟨i0, hi, hz0, hz1, hz2⟩ := info_parts info49
  have Hz := Lib.hid (And.intro hz0 (And.intro hz1 hz2))
  clear hz0 hz1 hz2
  go_enter Tryd.func10, Tryd.ntmps10
  go_wp2_with (refine wpList_make_full _ rfl _ _ 22 rfl w.heap.size 49 i0 (.slice none 0 0) 1 Tryd.underlying22 hi Hz.out.1 Hz.out.2.1 .i64 .i64 _ _ n rfl rfl rfl rfl ?_ ?_ ?_ ?_)
  · rw [Hz.out.2.2]; omega
  · unfold maxLen; omega
  · exact Nat.le_refl _
  intro w4 hown hgr
  have hown2 : w4.ownsRow w.heap.size 49 1 (.slice (some ⟨w.heap.size, 0, none⟩) n n) n (List.replicate n (.slice none 0 0)) := by rw [← zero_slices]; simpa using hown
  have H0 := Lib.hid (OwnSS.fresh hown2)
  have Hb4 := Lib.hid ((Below.refl w.heap.size w).grown hgr (Nat.le_refl _) (fun _ h => by cases h))
  clear hown hgr hown2
  have hk0 : L.take 0 ++ List.replicate (L.length - 0) [] = List.replicate n [] := by rw [Hn.out]; simp
  go_wp2_with fail
  go_loopw [4] (fun i wr => ∃ (k : Nat) (X : List Value), k ≤ n ∧ i = .int .i64 k ∧ OwnSS wr w.heap.size (.slice (some ⟨w.heap.size, 0, none⟩) n n) X (L.take k ++ List.replicate (L.length - k) []) ∧ Below w.heap.size w wr) (fun i _ => n - (intOf i).toNat)
  case atStart => exact ⟨0, _, Nat.zero_le _, rfl, by rw [hk0]; exact H0.out, Hb4.out⟩
  case round =>
    obtain ⟨k, X, hk, rfl, hor, hbel⟩ := hrel
    by_cases hlt : k < n
    · have hsz := hbel.size
      have hkL : k < L.length := by rw [← Hn.out]; exact hlt
      obtain ⟨h0, hA⟩ := (Hc.out.kept hbel) k hlt
      have Hto := Lib.hid (toIntS_any (A k) (C k) (row L k) _ wr rfl (hL.out k) hA)
      have Hor := Lib.hid hor
      have hk1 : (0 : Int) ≤ k := by omega
      have hk2 : (k : Int) < n := by omega
      have hgwr : w.heap.size < wr.heap.size := (hor.1.lt _ rfl).2
      clear hor hA
      go_wp2_with fail
      refine Hto.out.mono ?_
      rintro e w5 ⟨c5, rfl, own5, hb5⟩
      have Ho5 := Lib.hid (Hor.out.later hb5)
      have hbel5 : Below w.heap.size w w5 := hbel.trans (hb5.mono hsz)
      have hout := Ho5.out.1
      have hlen5 : (L.take k ++ List.replicate (L.length - k) ([] : List Int)).length = n := by rw [Hn.out]; simp; omega
      rw [hlen5] at hout
      obtain ⟨u0, z0⟩ := own_some hout k (by omega)
      have zf0 := hout.frozenAt k
      have hst := Ho5.out.store hlen5.symm k (by omega) (.slice (some ⟨wr.heap.size, 0, none⟩) (row L k).length c5) (row L k) (own_base hsz own5) (fun b hb => by
          have := (own5.lt b hb).1; omega) (fun i y b hy hb he => by
          have hlX : i < X.length := (List.getElem?_eq_some_iff.1 hy).1
          have hl2 : i < (L.take k ++ List.replicate (L.length - k) ([] : List Int)).length := by rw [← Hor.out.2.1]; exact hlX
          have h1 := ((Hor.out.2.2.1 i y _ hy (List.getElem?_eq_getElem hl2)).1.lt b hb).2
          have h2 := (own5.lt b he).1
          omega)
      rw [cpart_set L k hkL] at hst
      have Hst := Lib.hid hst
      clear hst hout hlen5 own5 hb5
      go_wp2_with fail
      go_roundw
      case rel => exact ⟨k + 1, _, by omega, by go_num, Hst.out, hbel5.setCell (Nat.le_refl _) _⟩
      case measure => simp [intOf]; omega
    · have hk' : k = L.length := by rw [← Hn.out]; omega
      have hp : L.take k ++ List.replicate (L.length - k) [] = L := by rw [hk']; simp
      rw [hp] at hor
      have Hor := Lib.hid hor
      clear hor hp hk'
      go_wp2_with fail
      go_ret
      exact ⟨X, rfl, Hor.out, hbel⟩

theorem toIntSS_zero (ao : Option Addr) (cap : Nat) (w : World) :
    Calls Tryd.prog 10 #[.slice ao 0 cap] w fun e w' => ∃ X, e = .returned (.slice (some ⟨w.heap.size, 0, none⟩) 0 0) ∧ OwnSS w' w.heap.size (.slice (some ⟨w.heap.size, 0, none⟩) 0 0) X [] ∧ Below w.heap.size w w' := by
  obtain ⟨i0, hi, hz0, hz1, hz2⟩ := info_parts info49
  have Hz := Lib.hid (And.intro hz0 (And.intro hz1 hz2))
  clear hz0 hz1 hz2
  go_enter Tryd.func10, Tryd.ntmps10
  go_wp2_with (refine wpList_make_full _ rfl _ _ 22 rfl w.heap.size 49 i0 (.slice none 0 0) 1 Tryd.underlying22 hi Hz.out.1 Hz.out.2.1 .i64 .i64 _ _ 0 rfl rfl rfl rfl ?_ ?_ ?_ ?_)
  · omega
  · unfold maxLen; omega
  · exact Nat.le_refl _
  intro w4 hown hgr
  have hown2 : w4.ownsRow w.heap.size 49 1 (.slice (some ⟨w.heap.size, 0, none⟩) 0 0) 0 (List.replicate 0 (.slice none 0 0)) := by rw [← zero_slices]; simpa using hown
  have H0 := Lib.hid (OwnSS.fresh hown2)
  have Hb4 := Lib.hid ((Below.refl w.heap.size w).grown hgr (Nat.le_refl _) (fun _ h => by cases h))
  clear hown hgr hown2
  go_wp2_with fail
  go_rounds 1
  go_ret
  exact ⟨_, rfl, H0.out, Hb4.out⟩

theorem toIntSS_any (ao : Option Addr) (cap : Nat) (L : List (List Int)) (n : Nat) (w : World) (Hn : Hid (n = L.length)) (hl : n ≤ 1048576) (hL : Hid (∀ i, (row L i).length ≤ 1048576)) (Hc : Hid (RowsAt w ao L)) :
    Calls Tryd.prog 10 #[.slice ao n cap] w fun e w' => ∃ cap' X, e = .returned (.slice (some ⟨w.heap.size, 0, none⟩) n cap') ∧ OwnSS w' w.heap.size (.slice (some ⟨w.heap.size, 0, none⟩) n cap') X L ∧ Below w.heap.size w w' := by
  rcases Hc.out with h | ⟨b, off, A, C, rfl, hc, hcap⟩
  · subst h
    have h0 := Hn.out
    subst h0
    refine (toIntSS_zero ao cap w).mono ?_
    rintro e w' ⟨X, he, ho, hb⟩
    exact ⟨0, X, he, ho, hb⟩
  · refine (toIntSS_pos b off cap A C L n w Hn hl hL (by rw [Hn.out]; exact hc)).mono ?_
    rintro e w' ⟨X, he, ho, hb⟩
    exact ⟨n, X, he, ho, hb⟩

end Go.Proofs.YtnhkabhchepieaaDoor
