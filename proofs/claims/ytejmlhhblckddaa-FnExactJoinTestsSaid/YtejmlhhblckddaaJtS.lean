/- Tests joined: the model. -/
import Derived.Test.YtejmlhhblckddaaJt0
namespace Go.Proofs.Ytejmlhhblckddaa
open Go.ChangeShapes Go.WideShapes Go.ChangeAt Go.RowKit
set_option linter.unusedVariables false


set_option maxHeartbeats 3200000 in
set_option maxRecDepth 20000 in
theorem specJt_any (w : World) (f : Int) (o1 : Option Addr) (c1 : Nat) (A : List (List Int)) (n1 : Nat) (Hn1 : Hid (n1 = A.length)) (hn1 : n1 ≤ 1048576) (HA : Hid (∀ i, (row A i).length ≤ 1048576)) (Hc1 : RowsAt w o1 A) (o2 : Option Addr) (c2 : Nat) (B : List (List Int)) (n2 : Nat) (Hn2 : Hid (n2 = B.length)) (hn2 : n2 ≤ 1048576) (HB : Hid (∀ i, (row B i).length ≤ 1048576)) (Hc2 : RowsAt w o2 B) :
    Calls Try.prog 34 #[.int .i64 f, .slice o1 n1 c1, .slice o2 n2 c2] w fun e w' => ∃ v X, e = .returned (.tuple #[v, .bool (jtB f A B)]) ∧ OwnSS w' w.heap.size v X (jtR f A B) ∧ Below w.heap.size w w' := by
  obtain ⟨i0, hi, hz0, hz1, hz2⟩ := info_parts info27
  have HC1 := Lib.hid Hc1
  have HC2 := Lib.hid Hc2
  clear Hc1 Hc2
  cases hA : wiB f A
  · have hB : jtB f A B = false := by simp [jtB, hA]
    have hR : jtR f A B = [] := by simp [jtR, hB]
    rw [hR, hB]
    have Hw := Lib.hid hA
    clear hR hB hA
    go_enter Try.func34, Try.ntmps34
    go_wp2_with fail
    refine (wiGood_any f o1 c1 A n1 w Hn1 hn1 HA HC1).mono ?_
    rintro e w' ⟨rfl, rfl⟩
    rw [Hw.out]
    go_wp2_with fail
    go_ret2
    exact ⟨_, [], rfl, OwnSS.nil _ _, Below.refl _ _⟩
  · cases hBw : wiB f B
    · have hB : jtB f A B = false := by simp [jtB, hA, hBw]
      have hR : jtR f A B = [] := by simp [jtR, hB]
      rw [hR, hB]
      have Hw := Lib.hid hA
      have Hv := Lib.hid hBw
      clear hR hB hA hBw
      go_enter Try.func34, Try.ntmps34
      go_wp2_with fail
      refine (wiGood_any f o1 c1 A n1 w Hn1 hn1 HA HC1).mono ?_
      rintro e w' ⟨rfl, rfl⟩
      rw [Hw.out]
      go_wp2_with fail
      refine (wiGood_any f o2 c2 B n2 w Hn2 hn2 HB HC2).mono ?_
      rintro e w' ⟨rfl, rfl⟩
      rw [Hv.out]
      go_wp2_with fail
      go_ret2
      exact ⟨_, [], rfl, OwnSS.nil _ _, Below.refl _ _⟩
    · by_cases h12 : n1 + n2 ≤ 12
      case neg =>
        have hB : jtB f A B = false := by
          rw [Hn1.out, Hn2.out] at h12
          simp [jtB, hA, hBw]; omega
        have hR : jtR f A B = [] := by simp [jtR, hB]
        rw [hR, hB]
        have Hw := Lib.hid hA
        have Hv := Lib.hid hBw
        have hd : decide ((n1 : Int) + (n2 : Int) > 12) = true := by simp; omega
        clear hR hB hA hBw h12
        go_enter Try.func34, Try.ntmps34
        go_wp2_with fail
        refine (wiGood_any f o1 c1 A n1 w Hn1 hn1 HA HC1).mono ?_
        rintro e w' ⟨rfl, rfl⟩
        rw [Hw.out]
        go_wp2_with fail
        refine (wiGood_any f o2 c2 B n2 w Hn2 hn2 HB HC2).mono ?_
        rintro e w' ⟨rfl, rfl⟩
        rw [Hv.out]
        go_wp2_with fail
        go_ret2
        exact ⟨_, [], rfl, OwnSS.nil _ _, Below.refl _ _⟩
      have hB : jtB f A B = true := by
        have h3 := h12
        rw [Hn1.out, Hn2.out] at h3
        simp [jtB, hA, hBw]; omega
      have hR : jtR f A B = A ++ B := by simp [jtR, hB]
      have HJ := Lib.hid hB
      rw [hR, hB]
      have HA10 : Hid (∀ i, i < n1 → 0 < (row A i).length ∧ (row A i).length ≤ 10) := Lib.hid fun i hi => (wi_row hA (by rw [← Hn1.out]; exact hi)).2
      have HB10 : Hid (∀ i, i < n2 → 0 < (row B i).length ∧ (row B i).length ≤ 10) := Lib.hid fun i hi => (wi_row hBw (by rw [← Hn2.out]; exact hi)).2
      have Hw := Lib.hid hA
      have Hv := Lib.hid hBw
      have hd : decide ((n1 : Int) + (n2 : Int) > 12) = false := by simp; omega
      clear hR hB hA hBw
      go_enter Try.func34, Try.ntmps34
      go_wp2_with fail
      refine (wiGood_any f o1 c1 A n1 w Hn1 hn1 HA HC1).mono ?_
      rintro e w' ⟨rfl, rfl⟩
      rw [Hw.out]
      go_wp2_with fail
      refine (wiGood_any f o2 c2 B n2 w Hn2 hn2 HB HC2).mono ?_
      rintro e w' ⟨rfl, rfl⟩
      rw [Hv.out]
      clear hd
      go_wp2_with fail
      go_loopw [8, 33] (fun v i wr => ∃ (k : Nat) (X : List Value), k ≤ n1 ∧ i = .int .i64 k ∧ OwnSS wr w.heap.size v X (A.take k) ∧ Below w.heap.size w wr) (fun _ i _ => n1 - (intOf i).toNat)
      case atStart => exact ⟨0, [], Nat.zero_le _, rfl, by rw [List.take_zero]; exact OwnSS.nil _ _, Below.refl _ _⟩
      case round =>
        obtain ⟨k, X, hk, rfl, hor, hbel⟩ := hrel
        by_cases hlt : k < n1
        · have hsz := hbel.size
          have hkL : k < A.length := by rw [← Hn1.out]; exact hlt
          obtain ⟨P0, hP0⟩ : ∃ P0, A.take k = P0 := ⟨_, rfl⟩
          have Hnx : Hid (A.take (k + 1) = P0 ++ [row A k]) := Lib.hid (by rw [take_row A k hkL, ← hP0])
          have hpl : P0.length ≤ 12 := by
            rw [← hP0]
            have e1 := Hn1.out
            have e2 := Hn1.out
            simp only [List.length_take]
            omega
          rw [hP0] at hor
          clear hP0
          obtain ⟨ao, cap, rfl, _⟩ := hor.reads
          obtain ⟨K, hK⟩ : ∃ K, P0.length = K := ⟨_, rfl⟩
          rw [hK] at hor hpl ⊢
          have HK := Lib.hid hK
          have h10 := HA10.out k hlt
          rcases HC1.out.kept hbel with h0 | ⟨b, off, AA, CC, rfl, hcell, _⟩
          · exfalso
            rw [h0] at hkL
            simp at hkL
          · obtain ⟨hc1, hc2⟩ := hcell k hkL
            obtain ⟨m, hm⟩ : ∃ m, (row A k).length = m := ⟨_, rfl⟩
            obtain ⟨aa, haa⟩ : ∃ q, AA k = q := ⟨_, rfl⟩
            obtain ⟨cc, hcc⟩ : ∃ q, CC k = q := ⟨_, rfl⟩
            rw [hm] at hc1 h10
            rw [haa] at hc1 hc2
            rw [hcc] at hc1
            have Hm := Lib.hid hm.symm
            have Hc2 := Lib.hid hc2
            have Hor := Lib.hid hor
            have Hbel := Lib.hid hbel
            have hk1 : (0 : Int) ≤ k := by omega
            have hk2 : (k : Int) < n1 := by omega
            clear hor hbel hcell hc2 hm haa hcc hK hkL
            go_wp2_with fail
            refine (l1Own_at aa cc m (row A k) wr Hm h10.1 (by omega) Hc2.out).mono ?_
            rintro e w1 ⟨g1, k1, rfl, own1, hb1⟩
            have own2 : w1.ownsRow wr.heap.size 3 1 (.slice (some ⟨g1, 0, none⟩) m k1) (row A k).length (ns (row A k)) := by rw [← Hm.out]; exact own1
            have HP := Lib.hid (newRow Hor.out hsz hb1 own2)
            have hs1 := hb1.size
            have Hb5 := Lib.hid ((Hbel.out.trans (hb1.mono hsz)).alloc (by omega) (.cells #[.slice (some ⟨g1, 0, none⟩) m k1] 27))
            have hs5 : (w1.alloc (.cells #[.slice (some ⟨g1, 0, none⟩) m k1] 27)).heap.size = w1.heap.size + 1 := by simp
            clear own1 own2 hb1
            go_wp2_with (at_builtin; refine push_row _ rfl _ _ 22 rfl w.heap.size i0 Try.underlying22 hi hz0 hz1 hz2 _ X P0 K HK.out rfl HP.out.own (by omega) (.slice (some ⟨g1, 0, none⟩) m k1) (row A k) HP.out.new HP.out.hv HP.out.hX 1 w1.heap.size rfl HP.out.cell rfl HP.out.size ?_)
            intro v6 w6 own6 hgr6 hat6
            have Ho6 : Hid (OwnSS w6 w.heap.size v6 (X ++ [.slice (some ⟨g1, 0, none⟩) m k1]) (A.take (k + 1))) := Lib.hid (by rw [Hnx.out]; exact own6)
            have Hb6 := Lib.hid (Hb5.out.grown hgr6 (by rw [hs5]; omega) (fun bb hb => (HP.out.own.1.lt bb hb).1))
            clear own6 hgr6 hat6 Hb5
            go_wp2_with fail
            go_roundw
            case rel => exact ⟨k + 1, _, by omega, by go_num, Ho6.out, Hb6.out⟩
            case measure => simp [intOf]; omega
        · have hkn : n1 = k := by omega
          subst hkn
          rw [show A.take n1 = A by rw [Hn1.out]; exact List.take_length] at hor
          have Hor := Lib.hid hor
          clear hor
          go_wp2_with fail
          go_loopw [8, 45] (fun v i wr => ∃ (k : Nat) (X : List Value), k ≤ n2 ∧ i = .int .i64 k ∧ OwnSS wr w.heap.size v X (A ++ B.take k) ∧ Below w.heap.size w wr) (fun _ i _ => n2 - (intOf i).toNat)
          case atStart => exact ⟨0, X, Nat.zero_le _, rfl, by rw [List.take_zero, List.append_nil]; exact Hor.out, hbel⟩
          case round =>
            obtain ⟨k, X, hk, rfl, hor, hbel⟩ := hrel
            by_cases hlt : k < n2
            · have hsz := hbel.size
              have hkL : k < B.length := by rw [← Hn2.out]; exact hlt
              obtain ⟨P0, hP0⟩ : ∃ P0, A ++ B.take k = P0 := ⟨_, rfl⟩
              have Hnx : Hid (A ++ B.take (k + 1) = P0 ++ [row B k]) := Lib.hid (by rw [take_row B k hkL, ← hP0]; simp)
              have hpl : P0.length ≤ 12 := by
                rw [← hP0]
                have e1 := Hn2.out
                have e2 := Hn1.out
                simp only [List.length_append, List.length_take]
                omega
              rw [hP0] at hor
              clear hP0
              obtain ⟨ao, cap, rfl, _⟩ := hor.reads
              obtain ⟨K, hK⟩ : ∃ K, P0.length = K := ⟨_, rfl⟩
              rw [hK] at hor hpl ⊢
              have HK := Lib.hid hK
              have h10 := HB10.out k hlt
              rcases HC2.out.kept hbel with h0 | ⟨b, off, AA, CC, rfl, hcell, _⟩
              · exfalso
                rw [h0] at hkL
                simp at hkL
              · obtain ⟨hc1, hc2⟩ := hcell k hkL
                obtain ⟨m, hm⟩ : ∃ m, (row B k).length = m := ⟨_, rfl⟩
                obtain ⟨aa, haa⟩ : ∃ q, AA k = q := ⟨_, rfl⟩
                obtain ⟨cc, hcc⟩ : ∃ q, CC k = q := ⟨_, rfl⟩
                rw [hm] at hc1 h10
                rw [haa] at hc1 hc2
                rw [hcc] at hc1
                have Hm := Lib.hid hm.symm
                have Hc2 := Lib.hid hc2
                have Hor := Lib.hid hor
                have Hbel := Lib.hid hbel
                have hk1 : (0 : Int) ≤ k := by omega
                have hk2 : (k : Int) < n2 := by omega
                clear hor hbel hcell hc2 hm haa hcc hK hkL
                go_wp2_with fail
                refine (l1Own_at aa cc m (row B k) wr Hm h10.1 (by omega) Hc2.out).mono ?_
                rintro e w1 ⟨g1, k1, rfl, own1, hb1⟩
                have own2 : w1.ownsRow wr.heap.size 3 1 (.slice (some ⟨g1, 0, none⟩) m k1) (row B k).length (ns (row B k)) := by rw [← Hm.out]; exact own1
                have HP := Lib.hid (newRow Hor.out hsz hb1 own2)
                have hs1 := hb1.size
                have Hb5 := Lib.hid ((Hbel.out.trans (hb1.mono hsz)).alloc (by omega) (.cells #[.slice (some ⟨g1, 0, none⟩) m k1] 27))
                have hs5 : (w1.alloc (.cells #[.slice (some ⟨g1, 0, none⟩) m k1] 27)).heap.size = w1.heap.size + 1 := by simp
                clear own1 own2 hb1
                go_wp2_with (at_builtin; refine push_row _ rfl _ _ 22 rfl w.heap.size i0 Try.underlying22 hi hz0 hz1 hz2 _ X P0 K HK.out rfl HP.out.own (by omega) (.slice (some ⟨g1, 0, none⟩) m k1) (row B k) HP.out.new HP.out.hv HP.out.hX 1 w1.heap.size rfl HP.out.cell rfl HP.out.size ?_)
                intro v6 w6 own6 hgr6 hat6
                have Ho6 : Hid (OwnSS w6 w.heap.size v6 (X ++ [.slice (some ⟨g1, 0, none⟩) m k1]) (A ++ B.take (k + 1))) := Lib.hid (by rw [Hnx.out]; exact own6)
                have Hb6 := Lib.hid (Hb5.out.grown hgr6 (by rw [hs5]; omega) (fun bb hb => (HP.out.own.1.lt bb hb).1))
                clear own6 hgr6 hat6 Hb5
                go_wp2_with fail
                go_roundw
                case rel => exact ⟨k + 1, _, by omega, by go_num, Ho6.out, Hb6.out⟩
                case measure => simp [intOf]; omega
            · have hkn : n2 = k := by omega
              subst hkn
              rw [show B.take n2 = B by rw [Hn2.out]; exact List.take_length] at hor
              have Hor := Lib.hid hor
              clear hor
              go_wp2_with fail
              go_ret2
              exact ⟨_, X, rfl, Hor.out, hbel⟩

end Go.Proofs.Ytejmlhhblckddaa
