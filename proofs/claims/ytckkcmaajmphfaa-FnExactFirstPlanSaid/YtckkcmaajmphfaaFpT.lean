/- The first plan: the model and the program. -/
import Derived.Test.YtckkcmaajmphfaaFpS
import Derived.Test.YtckkcmaajmphfaaFpI
namespace Go.Proofs.Ytckkcmaajmphfaa
open Go.ChangeShapes Go.WideShapes Go.ChangeAt Go.RowKit
set_option linter.unusedVariables false

set_option maxRecDepth 20000 in
theorem allCalls_any (F : Nat) (w : World) (hF : F ≤ 10) :
    Calls Try.prog 25 #[.int .i64 F] w fun e w' => ∃ v, e = .returned v ∧ w'.ownsRow w.heap.size 50 2 v (wholeP (pr 3 0 F) F F).length (cs (wholeP (pr 3 0 F) F F)) ∧ Below w.heap.size w w' := by
  obtain ⟨i0, hi, hz0, hz1, hz2⟩ := info_parts infoC
  go_enter Try.func25, Try.ntmps25
  go_wp2_with fail
  go_loopw [3, 7] (fun v i wr => ∃ a : Nat, a ≤ F ∧ i = .int .i64 a ∧ wr.ownsRow w.heap.size 50 2 v (wholeP (pr 3 0 F) F a).length (cs (wholeP (pr 3 0 F) F a)) ∧ Below w.heap.size w wr) (fun _ i _ => F - (intOf i).toNat)
  case atStart => exact ⟨0, Nat.zero_le _, rfl, World.ownsRow_nil _ _ _ _, Below.refl _ _⟩
  case round =>
    obtain ⟨a, ha, rfl, hor, hbel⟩ := hrel
    have hwl := wholeP_len (pr 3 0 F) hF a
    by_cases hlt : a < F
    · have Hor := Lib.hid hor
      clear hor
      go_wp2_with fail
      go_loopw [3, 5] (fun v i wr => ∃ m : Nat, a + 1 ≤ m ∧ m ≤ F ∧ i = .int .i64 m ∧ wr.ownsRow w.heap.size 50 2 v (wholeP (pr 3 0 F) F a ++ rowP (pr 3 0 F) a m).length (cs (wholeP (pr 3 0 F) F a ++ rowP (pr 3 0 F) a m)) ∧ Below w.heap.size w wr) (fun _ i _ => F - (intOf i).toNat)
      case atStart => exact ⟨a + 1, Nat.le_refl _, hlt, by go_num, by rw [rowP_low _ _ _ (Nat.le_refl _), List.append_nil]; exact Hor.out, hbel⟩
      case round =>
        clear Hor hbel
        obtain ⟨m, hm1, hm, rfl, hor, hbel⟩ := hrel
        have hrl := rowP_len (pr 3 0 F) a m
        have hll : (wholeP (pr 3 0 F) F a ++ rowP (pr 3 0 F) a m).length ≤ 200 := by rw [List.length_append]; omega
        have hsz := hbel.size
        by_cases hlm : m < F
        · have Hs : Hid (rowP (pr 3 0 F) a (m + 1) = rowP (pr 3 0 F) a m ++ [((a : Int), (m : Int))]) := Lib.hid (rowP_yes (by omega) (by simp [pr]))
          go_wp2_with (at_builtin; refine wpList_append_own _ rfl _ _ 22 rfl w.heap.size 50 i0 (.agg #[.int .i64 0, .int .i64 0]) 2 16 Try.underlying22 hi hz0 hz1 hz2 rfl (by decide) _ _ _ rfl (hor.alloc _) ⟨wr.heap.size, 0, none⟩ 1 1 [.int .i64 a, .int .i64 m] rfl rfl ?c1 ?c2 ?c3 ?c4 ?c5 ?_)
          case c1 => exact World.news_of_block (cs := #[.int .i64 a, .int .i64 m]) (t := 50) (fr := (0, 0)) (heap_alloc_new _ _)
          case c2 => intro u hu; simp at hu; rcases hu with rfl | rfl <;> rfl
          case c3 => unfold maxLen; omega
          case c4 => omega
          case c5 => simp; omega
          intro v' w8 hown' hgr _
          have Hown := Lib.hid hown'
          have Hbel := Lib.hid ((hbel.alloc hsz _).grown hgr (by simp; omega) (fun b hb => (hor.lt b hb).1))
          clear hown' hgr
          clear hor hbel
          go_wp2_with fail
          go_roundw
          case rel => exact ⟨m + 1, by omega, by omega, by go_num, by rw [Hs.out, ← List.append_assoc, cs_append, List.length_append, List.length_append]; exact Hown.out, Hbel.out⟩
          case measure => simp [intOf]; omega
        · obtain rfl : m = F := by omega
          have Hor := Lib.hid hor
          clear hor
          go_wp2_with fail
          go_roundw
          case rel => exact ⟨a + 1, by omega, by go_num, Hor.out, hbel⟩
          case measure => simp [intOf]; omega
    · obtain rfl : a = F := by omega
      have Hor := Lib.hid hor
      clear hor
      go_wp2_with fail
      go_ret
      exact ⟨_, rfl, Hor.out, hbel⟩




theorem l1In_any (x lo hi : Int) (w : World) : Calls Try.prog 18 #[.int .i64 x, .int .i64 lo, .int .i64 hi] w fun e w' => e = .returned (.bool (decide (lo ≤ x ∧ x ≤ hi))) ∧ w = w' := by
  by_cases h1 : lo ≤ x
  · by_cases h2 : x ≤ hi
    · rw [show decide (lo ≤ x ∧ x ≤ hi) = true by simp [h1, h2]]
      go_enter Try.func18, Try.ntmps18
      go_wp2
      go_ret
      exact ⟨by first | rfl | (simp; done) | (simp; omega), rfl⟩
    · rw [show decide (lo ≤ x ∧ x ≤ hi) = false by simp [h2]]
      have hd : decide (x ≤ hi) = false := by simpa using h2
      go_enter Try.func18, Try.ntmps18
      go_wp2
      go_ret
      exact ⟨by first | rfl | (simp; done) | (simp; omega), rfl⟩
  · rw [show decide (lo ≤ x ∧ x ≤ hi) = false by simp [h1]]
    have hd : decide (lo ≤ x) = false := by simpa using h1
    go_enter Try.func18, Try.ntmps18
    go_wp2
    go_ret
    exact ⟨rfl, rfl⟩
/-- Are there so few friends; the first plan. -/
def plB (f : Int) : Bool := decide (1 ≤ f ∧ f ≤ 5)
def plR (f : Int) : List (Int × Int) := if plB f then planL f.toNat else []
theorem pl_no {f : Int} (h : plB f = false) : plR f = [] := by rw [plR, h]; rfl
theorem pl_yes {F : Nat} (h1 : 1 ≤ F) (h5 : F ≤ 5) : plB (F : Int) = true ∧ plR (F : Int) = planL F := by
  have e : plB (F : Int) = true := by simp [plB]; omega
  exact ⟨e, by rw [plR, e]; rfl⟩
theorem plR_len (f : Int) : (plR f).length ≤ 6 := by
  unfold plR
  split
  · next h =>
    simp only [plB, decide_eq_true_eq] at h
    have := few_le ⟨f.toNat, by omega⟩
    simp only at this
    omega
  · simp
theorem few_at {F : Nat} (h4 : 4 ≤ F) : ((few F : Nat) : Int) = 2 * (F : Int) - 4 := by
  unfold few; rw [if_neg (by omega)]; omega
theorem caFew_any (F : Nat) (w : World) (h1 : 1 ≤ F) (hF : F ≤ 10) : Calls Try.prog 21 #[.int .i64 F] w fun e w' => e = .returned (.int .i64 (few F)) ∧ w = w' := by
  rcases (show F = 1 ∨ F = 2 ∨ F = 3 ∨ 4 ≤ F by omega) with rfl | rfl | rfl | h
  · go_enter Try.func21, Try.ntmps21
    go_wp2
    go_ret
    exact ⟨rfl, rfl⟩
  · go_enter Try.func21, Try.ntmps21
    go_wp2
    go_ret
    exact ⟨rfl, rfl⟩
  · go_enter Try.func21, Try.ntmps21
    go_wp2
    go_ret
    exact ⟨rfl, rfl⟩
  · have He := Lib.hid (few_at h)
    have n1 : ((F : Int) == 1) = false := by simp; omega
    have n2 : ((F : Int) == 2) = false := by simp; omega
    have n3 : ((F : Int) == 3) = false := by simp; omega
    go_enter Try.func21, Try.ntmps21
    go_wp2
    go_ret
    exact ⟨ret_int (by rw [He.out]), rfl⟩
theorem fewest_any (F : Nat) (w : World) (h1 : 1 ≤ F) (hF : F ≤ 10) : Calls Try.prog 22 #[.int .i64 F] w fun e w' => e = .returned (.tuple #[.int .i64 (few F), .bool true]) ∧ w = w' := by
  rcases (show F = 1 ∨ F = 2 ∨ F = 3 ∨ 4 ≤ F by omega) with rfl | rfl | rfl | h
  · go_enter Try.func22, Try.ntmps22
    go_wp2
    go_ret2
    exact ⟨rfl, rfl⟩
  · go_enter Try.func22, Try.ntmps22
    go_wp2
    go_ret2
    exact ⟨rfl, rfl⟩
  · go_enter Try.func22, Try.ntmps22
    go_wp2
    go_ret2
    exact ⟨rfl, rfl⟩
  · have He := Lib.hid (few_at h)
    have i1 : (1 : Int) ≤ F := by omega
    have i2 : (F : Int) ≤ 10 := by omega
    have i3 : ¬ (F : Int) < 4 := by omega
    clear h h1 hF
    go_enter Try.func22, Try.ntmps22
    go_wp2
    go_ret2
    exact ⟨by rw [He.out]; rfl, rfl⟩

set_option maxRecDepth 20000 in
theorem specPlan_any (w : World) (f : Int) :
    Calls Try.prog 6 #[.int .i64 f] w fun e w' => ∃ v, e = .returned (.tuple #[v, .bool (plB f)]) ∧ w'.ownsRow w.heap.size 50 2 v (plR f).length (cs (plR f)) ∧ Below w.heap.size w w' := by
  by_cases h : 1 ≤ f ∧ f ≤ 5
  · obtain ⟨F, rfl⟩ := Int.eq_ofNat_of_zero_le (show 0 ≤ f by omega)
    have Hy := Lib.hid (pl_yes (F := F) (by omega) (by omega))
    have hfl := few_le ⟨F, by omega⟩
    simp only at hfl
    have Hfl := Lib.hid hfl
    have Hsp := Lib.hid (sp_at (F := F) (by omega) (by omega))
    have h1 : (1 : Int) ≤ F := h.1
    have h5 : (F : Int) ≤ 5 := h.2
    clear hfl
    go_enter Try.func6, Try.ntmps6
    go_wp2_with fail
    refine (l1In_any (F : Int) 1 5 w).mono ?_
    rintro e w' ⟨rfl, rfl⟩
    rw [decide_eq_true h]
    go_wp2_with fail
    refine (caStart_any F w (by omega)).mono ?_
    rintro e w1 ⟨v1, rfl, own1, hb1⟩
    obtain ⟨g1, cap1, rfl⟩ := own_apos' own1 (by omega)
    have Hk1 := Lib.hid (kl_cells own1)
    have Hb1 := Lib.hid hb1
    clear own1 hb1
    go_wp2_with fail
    refine (caFew_any F w1 (by omega) (by omega)).mono ?_
    rintro e w' ⟨rfl, rfl⟩
    go_wp2_with fail
    refine (search_any F (by omega) (by omega) (few F) (by have := Hfl.out.1; omega) (own0 F) g1 cap1 w1 (Lib.hid gd_own) Hk1).mono ?_
    rintro e w2 ⟨v2, rfl, own2, hb2⟩
    rw [Hsp.out] at own2 ⊢
    have Hown : Hid (w2.ownsRow w.heap.size 50 2 v2 (plR (F : Int)).length (cs (plR (F : Int)))) := Lib.hid (by rw [Hy.out.2]; exact own_base Hb1.out.size own2)
    have Hb2 := Lib.hid (Hb1.out.trans (hb2.mono Hb1.out.size))
    clear own2 hb2
    go_wp2_with fail
    go_ret2
    exact ⟨v2, by rw [Hy.out.1]; rfl, Hown.out, Hb2.out⟩
  · have hb : plB f = false := by simp only [plB, decide_eq_false_iff_not]; exact h
    have Hb := Lib.hid hb
    have Hr := Lib.hid (pl_no hb)
    clear hb
    by_cases h1 : 1 ≤ f
    · have h2 : ¬ f ≤ 5 := fun h5 => h ⟨h1, h5⟩
      have h3 : 5 < f := by omega
      clear h
      go_enter Try.func6, Try.ntmps6
      go_wp2
      go_ret2
      exact ⟨.slice none 0 0, by rw [Hb.out]; rfl, by rw [Hr.out]; exact World.ownsRow_nil _ _ _ _, Below.refl _ _⟩
    · have h3 : f < 1 := by omega
      clear h
      go_enter Try.func6, Try.ntmps6
      go_wp2
      go_ret2
      exact ⟨.slice none 0 0, by rw [Hb.out]; rfl, by rw [Hr.out]; exact World.ownsRow_nil _ _ _ _, Below.refl _ _⟩

theorem fill_any (F g bC offC : Nat) (ch : List (Int × Int)) (nC capC : Nat) (hF : F ≤ 10) (HnC : Hid (nC = ch.length)) (hnC : nC ≤ 60) (Hch : Hid (∀ i, i < ch.length → 0 ≤ ca ch i ∧ ca ch i < cb ch i ∧ cb ch i < (F : Int))) : ∀ n, FillOk F g bC offC ch nC capC n
  | 0 => fill_zero F g bC offC ch nC capC hF
  | n + 1 => fill_succ F g bC offC ch nC capC n hF HnC hnC Hch (Lib.hid (fill_any F g bC offC ch nC capC hF HnC hnC Hch n))
theorem row_own {w : World} {base g n : Nat} {R : Array Value} {l : List (Int × Int)} (hg : base ≤ g) (hr : w.heap[g]? = some (.cells R 50 (0, 0))) (hz : R.size = 0 + 2 * n) (hn : l.length = n) (hc : ∀ j u, (cs l)[j]? = some u → R[0 + j]? = some u) (hm : n ≤ 1000) : w.ownsRow base 50 2 (.slice (some ⟨g, 0, none⟩) n n) n (cs l) := by
  refine ⟨by rw [cs_length, hn], .inr ⟨g, n, R, rfl, hg, hr, Nat.le_refl _, by unfold maxLen; omega, by omega, ?_⟩⟩
  apply List.ext_getElem?
  intro j
  by_cases hj : j < (cs l).length
  · have h := hc j _ (List.getElem?_eq_getElem hj)
    rw [Nat.zero_add] at h
    rw [List.getElem?_take_of_lt (by rw [cs_length, hn] at hj; exact hj), Array.getElem?_toList, h, List.getElem?_eq_getElem hj]
  · have hj2 : n * 2 ≤ j := by rw [cs_length, hn] at hj; omega
    rw [List.getElem?_eq_none (by rw [List.length_take]; omega), List.getElem?_eq_none (by rw [cs_length, hn]; omega)]
theorem own_cases {e : TypeId} {w : World} {base n : Nat} {v : Value} {l : List (Int × Int)} (h : w.ownsRow base e 2 v n (cs l)) (hn : n = l.length) (h0 : 0 < n) : ∃ g cap, v = .slice (some ⟨g, 0, none⟩) n cap ∧ base ≤ g ∧ g < w.heap.size ∧ (∀ i, i < l.length → w.cell? ⟨g, 0 + i * 2, none⟩ = some (.int .i64 (ca l i)) ∧ w.cell? ⟨g, 0 + i * 2 + 1, none⟩ = some (.int .i64 (cb l i))) := by
  obtain ⟨g, cap, rfl⟩ := own_apos' h h0
  have hlt := h.lt g rfl
  refine ⟨g, cap, rfl, hlt.1, hlt.2, fun i hi => ?_⟩
  rcases own_at h hn with h2 | ⟨b, off, e1, h3⟩
  · rw [h2] at hi; simp at hi
  · cases e1; exact h3 i hi
theorem own_slice {e : TypeId} {w : World} {base size n : Nat} {v : Value} {xs : List Value} (h : w.ownsRow base e size v n xs) : ∃ ao cap, v = .slice ao n cap := by
  rcases h.2 with ⟨h1, h2⟩ | ⟨g, cap, cur, h1, _⟩
  · exact ⟨none, 0, by rw [h1, h2]⟩
  · exact ⟨_, _, h1⟩

set_option maxHeartbeats 1600000 in
set_option maxRecDepth 20000 in
theorem implPlan_any (w : World) (f : Int) :
    Calls Try.prog 7 #[.int .i64 f] w fun e w' => ∃ v, e = .returned (.tuple #[v, .bool (plB f)]) ∧ w'.ownsRow w.heap.size 50 2 v (plR f).length (cs (plR f)) ∧ Below w.heap.size w w' := by
  by_cases h : 1 ≤ f ∧ f ≤ 5
  · obtain ⟨F, rfl⟩ := Int.eq_ofNat_of_zero_le (show 0 ≤ f by omega)
    have Hy := Lib.hid (pl_yes (F := F) (by omega) (by omega))
    have hfl := few_le ⟨F, by omega⟩
    have hch := ch_all ⟨F, by omega⟩
    have hcl := ch_len ⟨F, by omega⟩
    simp only at hfl hch hcl
    have Hfl := Lib.hid hfl
    have Hch := Lib.hid hch
    have Hcl := Lib.hid hcl
    have Hok : Hid (∀ i, i < (chL F).length → 0 ≤ ca (chL F) i ∧ ca (chL F) i < cb (chL F) i ∧ cb (chL F) i < (F : Int)) := Lib.hid (fun i hi => ch_ok ⟨F, by omega⟩ ⟨i, by omega⟩ hi)
    have Hfp := Lib.hid (fp_at (F := F) (by omega) (by omega))
    have h1 : (1 : Int) ≤ F := h.1
    have h5 : (F : Int) ≤ 5 := h.2
    obtain ⟨i0, hi, hz0, hz1, hz2⟩ := info_parts infoC
    have Hz := Lib.hid (And.intro hz0 (And.intro hz1 hz2))
    clear hfl hch hcl hz0 hz1 hz2
    go_enter Try.func7, Try.ntmps7
    go_wp2_with fail
    refine (fewest_any F w (by omega) (by omega)).mono ?_
    rintro e w' ⟨rfl, rfl⟩
    obtain ⟨n, hn⟩ : ∃ n, few F = n := ⟨_, rfl⟩
    have HN := Lib.hid hn
    have hn6 : n ≤ 6 := by rw [← hn]; exact Hfl.out.1
    rw [hn]
    clear hn
    go_wp2_with (refine wpList_make_full _ rfl _ _ 22 rfl w.heap.size 50 i0 (.agg #[.int .i64 0, .int .i64 0]) 2 Try.underlying22 hi Hz.out.1 Hz.out.2.1 .i64 .i64 _ _ n rfl rfl rfl rfl ?_ ?_ ?_ ?_)
    · rw [Hz.out.2.2]; omega
    · unfold maxLen; omega
    · exact Nat.le_refl _
    intro w2 hown hgr
    have hrow2 : ∃ R, w2.heap[w.heap.size]? = some (.cells R 50 (0, 0)) ∧ R.size = 0 + 2 * n := by
      rcases hown.2 with ⟨hv, _⟩ | ⟨g, cap, cur, hv, _, hh, _, _, hs, _⟩
      · cases hv
      · injection hv with e1 e2 e3
        injection e1 with e1
        injection e1 with e1
        subst e1; subst e3
        exact ⟨cur, hh, by omega⟩
    obtain ⟨R, hR, hRz⟩ := hrow2
    have Hb2 := Lib.hid ((Below.refl w.heap.size w).grown hgr (Nat.le_refl _) (fun _ h => by cases h))
    have HR2 := Lib.hid hR
    have HRz := Lib.hid hRz
    obtain ⟨g, hg⟩ : ∃ g, w.heap.size = g := ⟨_, rfl⟩
    have hg2 : g < w2.heap.size := by rw [← hg]; exact (Array.getElem?_eq_some_iff.1 hR).1
    rw [hg] at HR2
    have Hg := Lib.hid hg
    clear hown hgr hR hRz
    go_wp2_with fail
    refine (ownNews_any F w2 (by omega)).mono ?_
    rintro e w3 ⟨rfl, hb3⟩
    have HR3 : Hid (w3.heap[g]? = some (.cells R 50 (0, 0))) := Lib.hid ((hb3.block g hg2).trans HR2.out)
    have Hb3 := Lib.hid (Hb2.out.trans (hb3.mono Hb2.out.size))
    have hg3 : g < w3.heap.size := Nat.lt_of_lt_of_le hg2 hb3.size
    clear hb3 HR2 Hb2
    go_wp2_with fail
    refine (allCalls_any F w3 (by omega)).mono ?_
    rintro e w4 ⟨v4, rfl, own4, hb4⟩
    rw [Hch.out] at own4
    have HR4 : Hid (w4.heap[g]? = some (.cells R 50 (0, 0))) := Lib.hid ((hb4.block g hg3).trans HR3.out)
    have Hb4 := Lib.hid (Hb3.out.trans (hb4.mono Hb3.out.size))
    have HGo : Hid (Gd F (own0 F)) := Lib.hid gd_own
    clear hb4 HR3 Hb3
    obtain ⟨aC, cC, hv4⟩ := own_slice own4
    obtain ⟨nC, hnC⟩ : ∃ nC, (chL F).length = nC := ⟨_, rfl⟩
    have hcon : Calls Try.prog 23 #[.slice (some ⟨g, 0, none⟩) n n, .agg (KA F (own0 F)), v4] w4 fun e w' => e = .returned (.bool true) ∧ Fill g 0 R (some (planL F)) w4 w' := by
      by_cases hn0 : n = 0
      · subst hn0
        have h := fill_none F g (chL F) (by omega) (own0 F) (some ⟨g, 0, none⟩) 0 0 R w4 v4 HGo HR4
        have e : fpI (whI F) (chL F) 0 (own0 F) = some (planL F) := by rw [← HN.out]; exact Hfp.out
        rw [e] at h
        exact h
      · have hpos : 0 < nC := by rw [← hnC]; exact Hfl.out.2.2 (by omega) (by rw [HN.out]; omega)
        rw [hnC] at own4
        obtain ⟨b, cap, hv, hbg, hbl, hcell⟩ := own_cases own4 hnC.symm hpos
        have hbne : b ≠ g := by omega
        have h := fill_any F g b 0 (chL F) nC cap (by omega) (Lib.hid hnC.symm) (by have := Hcl.out; omega) Hok n (own0 F) (some ⟨g, 0, none⟩) n 0 R w4 HGo (Lib.hid ⟨hbne, hcell⟩) HR4 HRz (fun _ => ⟨rfl, rfl⟩)
        have e : fpI (whI F) (chL F) n (own0 F) = some (planL F) := by rw [← HN.out]; exact Hfp.out
        rw [e] at h
        rw [hv]
        exact h
    have Hcon := Lib.hid hcon
    clear hcon own4 hnC hv4
    go_wp2_with fail
    try rw [Hg.out]
    refine Hcon.out.mono ?_
    rintro e w5 ⟨rfl, R', hmid, hcs⟩
    have Hown : Hid (w5.ownsRow w.heap.size 50 2 (.slice (some ⟨g, 0, none⟩) n n) (plR (F : Int)).length (cs (plR (F : Int)))) := Lib.hid (by
      rw [Hy.out.2, Hfl.out.2.1, HN.out]
      exact row_own (by rw [Hg.out]; exact Nat.le_refl _) hmid.2.1 (by rw [hmid.2.2.1]; exact HRz.out) (by rw [Hfl.out.2.1]; exact HN.out) (hcs _ rfl) (by omega))
    have Hb5 : Hid (Below w.heap.size w w5) := Lib.hid (Hb4.out.trans (hmid.1.below (by rw [Hg.out]; exact Nat.le_refl _) Hb4.out.size))
    clear hmid hcs
    go_wp2_with fail
    go_ret2
    exact ⟨.slice (some ⟨g, 0, none⟩) n n, by rw [Hy.out.1]; rfl, Hown.out, Hb5.out⟩
  · have hb : plB f = false := by simp only [plB, decide_eq_false_iff_not]; exact h
    have Hb := Lib.hid hb
    have Hr := Lib.hid (pl_no hb)
    clear hb
    by_cases h1 : 1 ≤ f
    · have h3 : 5 < f := by omega
      clear h
      by_cases h10 : f ≤ 10
      · obtain ⟨F, rfl⟩ := Int.eq_ofNat_of_zero_le (show 0 ≤ f by omega)
        go_enter Try.func7, Try.ntmps7
        go_wp2_with fail
        refine (fewest_any F w (by omega) (by omega)).mono ?_
        rintro e w' ⟨rfl, rfl⟩
        go_wp2_with fail
        go_ret2
        exact ⟨.slice none 0 0, by rw [Hb.out]; rfl, by rw [Hr.out]; exact World.ownsRow_nil _ _ _ _, Below.refl _ _⟩
      · have h4 : 10 < f := by omega
        go_enter Try.func7, Try.ntmps7
        go_wp2
        go_ret2
        exact ⟨.slice none 0 0, by rw [Hb.out]; rfl, by rw [Hr.out]; exact World.ownsRow_nil _ _ _ _, Below.refl _ _⟩
    · have h3 : f < 1 := by omega
      clear h
      go_enter Try.func7, Try.ntmps7
      go_wp2
      go_ret2
      exact ⟨.slice none 0 0, by rw [Hb.out]; rfl, by rw [Hr.out]; exact World.ownsRow_nil _ _ _ _, Below.refl _ _⟩

end Go.Proofs.Ytckkcmaajmphfaa
