/- ArrivalsOf, both sides. -/
import Derived.Test.YtghfkgbmmkcjhaaAvL
namespace Go.Proofs.Ytghfkgbmmkcjhaa
open Go.ChangeShapes Go.WideShapes Go.ChangeAt Go.RowKit
set_option linter.unusedVariables false


theorem own_low {w : World} {B B' n size : Nat} {e : TypeId} {v : Value} {xs : List Value} (h : w.ownsRow B e size v n xs) (hb : B' ≤ B) : w.ownsRow B' e size v n xs := by
  obtain ⟨h0, h1⟩ := h
  refine ⟨h0, ?_⟩
  rcases h1 with h1 | ⟨g, c, cur, h1, h2, h3⟩
  · exact Or.inl h1
  · exact Or.inr ⟨g, c, cur, h1, Nat.le_trans hb h2, h3⟩
theorem ars_parts {d P : Int} {l : List Snd} (h : arsB d P l = true) : (1 ≤ d ∧ d ≤ 10) ∧ (∃ Q : Nat, P = Q ∧ 1 ≤ Q ∧ Q ≤ 40) ∧ l.length ≤ 40 ∧ ok1B P l = true ∧ ok2B d l = true := by
  simp only [arsB, arB, Bool.and_eq_true, decide_eq_true_eq] at h
  obtain ⟨D, hD, h1, h2⟩ := de_in h.1
  exact ⟨by omega, pe_in h.2.1, h.2.2.1, h.2.2.2.1, h.2.2.2.2⟩
set_option maxHeartbeats 1600000 in
set_option maxRecDepth 20000 in
theorem implAV_any (w : World) (d P : Int) (ao : Option Addr) (cap : Nat) (l : List Snd) (n : Nat) (Hn : Hid (n = l.length)) (hn : n ≤ 1048576) (hcap : n ≤ cap) (hc : SendsAt w ao l) :
    Calls Try.prog 34 #[.int .i64 d, .int .i64 P, .slice ao n cap] w fun e w' => ∃ v, e = .returned (.tuple #[v, .bool (arsB d P l)]) ∧ w'.ownsRow w.heap.size 3 1 v (avR d P l).length (ns (avR d P l)) ∧ Below w.heap.size w w' := by
  have HX := Lib.hid (aof_any w d P ao cap l n Hn hn hcap hc)
  clear hc
  cases hA : arsB d P l
  · have hR : avR d P l = [] := by simp [avR, hA]
    rw [hR]
    rw [hA] at HX
    clear hA hR
    go_enter Try.func34, Try.ntmps34
    go_wp2_with fail
    refine HX.out.mono ?_
    rintro e w1 ⟨F, rfl, _, hb1⟩
    go_wp2_with (refine wpList_store_row rfl 57 (.tmp 8) (.tmp 18) rfl w1.heap.size (AA F) ?_ ?_ 57 _ (heap_alloc_new w1 _) ?_ ?_ ?_ ?_)
    try any_goals first | exact AA_one _ | exact infoA2 | (rw [infoA, AA_size]; done) | (rw [AA_size]; rfl) | rfl
    go_ret2
    exact ⟨.slice none 0 0, rfl, World.ownsRow_nil _ _ _ _, below_setRow (hb1.alloc hb1.size _) hb1.size _⟩
  · have HA := Lib.hid hA
    obtain ⟨hd, ⟨Q, rfl, hQ1, hQ2⟩, h40, hv, h2⟩ := ars_parts hA
    have hR : avR d Q l = (List.range Q).map fun (i : Nat) => av d l i := by simp [avR, hA]
    have HV := Lib.hid hv
    rw [hR]
    rw [hA] at HX
    clear hA hR hv h2
    obtain ⟨R, HR⟩ : ∃ R : List Int, Hid (R = (List.range Q).map fun (i : Nat) => av d l i) := ⟨_, Lib.hid rfl⟩
    rw [← HR.out]
    go_enter Try.func34, Try.ntmps34
    go_wp2_with fail
    refine HX.out.mono ?_
    rintro e w1 ⟨F, rfl, hF, hb1⟩
    have HF := Lib.hid (hF trivial)
    have hrow : ((w1.alloc (.cells ZA 57)).setRow w1.heap.size (AA F)).heap[w1.heap.size]? = some (.cells (AA F) 57 (0, 0)) := setRow_heap _ _ _ _ _ _ (heap_alloc_new w1 _)
    rw [ZA_eq] at hrow
    have HCL := Lib.hid (clone_cells w1.heap.size Q 40 (mxL d l F Q 0) _ (Lib.hid (by rw [mxL_length])) (by omega) (by omega) (Lib.hid (fun i hi => by rw [cell_of_row _ _ _ _ _ _ hrow, AA_get F i (by omega), mxL_get d l F Q 0 i hi, if_neg (by omega)])))
    have Hb2 := Lib.hid (below_setRow (hb1.alloc hb1.size (.cells (AA fun _ => 0) 57)) hb1.size (AA F))
    have hq0 : (0 : Int) ≤ (Q : Int) := by omega
    have hq1 : (Q : Int) ≤ 40 := by omega
    clear hF hb1 hrow
    go_wp2_with (refine wpList_store_row rfl 57 (.tmp 8) (.tmp 18) rfl w1.heap.size (AA F) ?_ ?_ 57 _ (heap_alloc_new w1 _) ?_ ?_ ?_ ?_)
    try any_goals first | exact AA_one _ | exact infoA2 | (rw [infoA, AA_size]; done) | (rw [AA_size]; rfl) | rfl
    refine HCL.out.mono ?_
    rintro e w2 ⟨g2, c2, rfl, hown2, hb3⟩
    have hg2 : w.heap.size ≤ g2 ∧ g2 < w2.heap.size := by
      rcases hown2.2 with ⟨h, _⟩ | ⟨g, c, cur, h, hbg, hh, _⟩
      · cases h
      · simp only [Value.slice.injEq, Option.some.injEq, Addr.mk.injEq] at h
        obtain ⟨⟨rfl, _⟩, _⟩ := h
        exact ⟨Nat.le_trans Hb2.out.size hbg, (Array.getElem?_eq_some_iff.1 hh).1⟩
    have Hor := Lib.hid (own_low hown2 Hb2.out.size)
    have Hb := Lib.hid (Hb2.out.trans (hb3.mono Hb2.out.size))
    clear hown2 hb3
    go_wp2_with fail
    go_loopw [27] (fun i wr => ∃ k : Nat, k ≤ Q ∧ i = .int .i64 k ∧ wr.ownsRow w.heap.size 3 1 (.slice (some ⟨g2, 0, none⟩) Q c2) Q (ns (mxL d l F Q k)) ∧ Below w.heap.size w wr) (fun i _ => Q - (intOf i).toNat)
    case atStart => exact ⟨0, Nat.zero_le _, rfl, Hor.out, Hb.out⟩
    case round =>
      obtain ⟨k, hk, rfl, hor, hbel⟩ := hrel
      clear Hor Hb HCL Hb2 HX
      by_cases hlt : k < Q
      · have hdl : decide ((k : Int) < (Q : Int)) = true := by simp only [decide_eq_true_eq]; omega
        have hp0 : (0 : Int) ≤ (k : Int) := by omega
        have hp1 : (k : Int) < (Q : Int) := by omega
        have c0 := hor.cellAt k (by omega)
        rw [ns_get _ k (by rw [mxL_length]; omega), mxL_get d l F Q k k hlt, if_neg (by omega)] at c0
        rcases fill_av hd.1 hd.2 HV.out (k : Int) with ⟨e1, e2⟩ | ⟨e1, e2, e3⟩
        · rw [HF.out, e1] at c0
          obtain ⟨u1, z1⟩ := own_some hor k (by omega)
          have zf1 := hor.frozenAt k
          have own3 := (hor.stored k (.int .i64 (-1))).1
          rw [ns_set, show (-1 : Int) = av d l k from e2.symm, mxL_set d l F Q k hlt, e2] at own3
          have Own3 := Lib.hid own3
          have Bel3 := Lib.hid (hbel.setCell (p := ⟨g2, k, none⟩) hg2.1 (.int .i64 (-1)))
          clear own3 hor hbel e1 e2
          go_wp2_with fail
          go_roundw
          case rel => exact ⟨k + 1, by omega, by go_num, Own3.out, Bel3.out⟩
          case measure => simp [intOf]; omega
        · obtain ⟨x, hx⟩ : ∃ x, F k = x := ⟨_, rfl⟩
          rw [hx] at c0
          have hn7 : ¬ x = 71 := by rw [← hx, HF.out, e1]; omega
          have hne : (x == 71) = false := by simpa using hn7
          rw [← mxL_same d l F Q k hlt (by rw [HF.out, e1])] at hor
          have Hor := Lib.hid hor
          have Hbel := Lib.hid hbel
          clear hor hbel e1 e2 e3
          go_wp2_with fail
          go_roundw
          case rel => exact ⟨k + 1, by omega, by go_num, Hor.out, Hbel.out⟩
          case measure => simp [intOf]; omega
      · obtain rfl : k = Q := by omega
        rw [mxL_all, ← HR.out] at hor
        have Hor := Lib.hid hor
        have Hbel := Lib.hid hbel
        clear hor hbel
        go_wp2_with fail
        go_ret2
        refine ⟨.slice (some ⟨g2, 0, none⟩) k c2, rfl, ?_, Hbel.out⟩
        have hl : R.length = k := by rw [HR.out]; simp
        rw [hl]
        exact Hor.out

theorem specAV_any (w : World) (d P : Int) (ao : Option Addr) (cap : Nat) (l : List Snd) (n : Nat) (Hn : Hid (n = l.length)) (hn : n ≤ 1048576) (hcap : n ≤ cap) (hc : SendsAt w ao l) :
    Calls Try.prog 33 #[.int .i64 d, .int .i64 P, .slice ao n cap] w fun e w' => ∃ v, e = .returned (.tuple #[v, .bool (arsB d P l)]) ∧ w'.ownsRow w.heap.size 3 1 v (avR d P l).length (ns (avR d P l)) ∧ Below w.heap.size w w' := by
  cases hA : deB d && peB P
  · have hB : arsB d P l = false := by
      unfold arsB
      cases h1 : deB d
      · rfl
      · rw [h1] at hA; simp at hA; simp [hA]
    have hR : avR d P l = [] := by simp [avR, hB]
    rw [hR, hB]
    have HA : Hid ((deB d && peB P) = false) := hA
    clear hA hR hB
    go_enter Try.func33, Try.ntmps33
    go_wp2_with fail
    refine (deAsked_any d P w).mono ?_
    rintro e w' ⟨rfl, rfl⟩
    rw [HA.out]
    go_wp2_with fail
    go_ret2
    exact ⟨.slice none 0 0, rfl, World.ownsRow_nil _ _ _ _, Below.refl _ _⟩
  · have HA : Hid ((deB d && peB P) = true) := hA
    simp only [Bool.and_eq_true] at hA
    obtain ⟨D, rfl, hD1, hD10⟩ := de_in hA.1
    obtain ⟨Q, rfl, hQ1, hQ2⟩ := pe_in hA.2
    have hB : arsB (D : Int) (Q : Int) l = arB (D : Int) (Q : Int) l := by simp [arsB, hA.1, hA.2]
    have hR : avR (D : Int) (Q : Int) l = arR (D : Int) Q l := by
      simp only [avR, arR, hB, aL, List.take_length, Int.toNat_natCast]
    rw [hR, hB]
    have HX := Lib.hid (deA_any w (D : Int) Q ao cap l n (by omega) hQ1 hQ2 Hn hcap hc)
    obtain ⟨r, Hr⟩ : ∃ r : Bool, Hid (r = arB (D : Int) (Q : Int) l) := ⟨_, Lib.hid rfl⟩
    obtain ⟨R, HR⟩ : ∃ R : List Int, Hid (R = arR (D : Int) Q l) := ⟨_, Lib.hid rfl⟩
    rw [← Hr.out, ← HR.out] at HX ⊢
    clear hA hR hB hc
    go_enter Try.func33, Try.ntmps33
    go_wp2_with fail
    refine (deAsked_any D Q w).mono ?_
    rintro e w' ⟨rfl, rfl⟩
    rw [HA.out]
    go_wp2_with fail
    refine HX.out.mono ?_
    rintro e w1 ⟨v, rfl, own, hb1⟩
    have Own := Lib.hid own
    clear own
    go_wp2_with fail
    go_ret2
    exact ⟨v, rfl, Own.out, hb1⟩

end Go.Proofs.Ytghfkgbmmkcjhaa
