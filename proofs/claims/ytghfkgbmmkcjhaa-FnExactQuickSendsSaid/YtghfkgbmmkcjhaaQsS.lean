/- Quick sends: the model. -/
import Derived.Test.YtghfkgbmmkcjhaaQs
import Derived.Test.YtghfkgbmmkcjhaaAsk
namespace Go.Proofs.Ytghfkgbmmkcjhaa
open Go.ChangeShapes Go.WideShapes Go.ChangeAt Go.RowKit
set_option linter.unusedVariables false


/-- What the row of those who know tells: who knows the news by a minute. -/
def KN (d : Nat) (K : List Int) (n : Nat) : Prop := ∀ i, i < n → ∀ x : Nat, na K i ≤ (x : Int) ↔ i < inf d x
theorem KN_start {d P : Nat} (h1 : 1 ≤ d) (hP : 1 ≤ P) : KN d (List.replicate P 0) 1 := by
  intro i hi x
  obtain rfl : i = 0 := by omega
  have := inf_pos d x
  simp only [na, List.getD_eq_getElem?_getD, List.getElem?_replicate]
  constructor
  · intro _; omega
  · intro _; rw [if_pos (by omega)]; simp
theorem KN_next {d : Nat} {K : List Int} {n t i : Nat} (h1 : 1 ≤ d) (h : KN d K (n + i)) (hn : n = inf d (t + d - 1)) (hi : i < inf d t) (hl : n + i < K.length) : KN d (K.set (n + i) ((t : Int) + (d : Int))) (n + (i + 1)) := by
  intro j hj x
  by_cases e : j = n + i
  · subst e
    have hv : na (K.set (n + i) ((t : Int) + (d : Int))) (n + i) = (t : Int) + (d : Int) := by
      simp [na, List.getD_eq_getElem?_getD, hl]
    rw [hv]
    have hs := inf_hi h1 (t := t + d) (by omega)
    rw [Nat.add_sub_cancel, ← hn] at hs
    constructor
    · intro hx
      have := inf_mono h1 (s := t + d) (t := x) (by omega)
      omega
    · intro hx
      by_cases hlt : t + d ≤ x
      · omega
      · have := inf_mono h1 (s := x) (t := t + d - 1) (by omega)
        omega
  · have hv : na (K.set (n + i) ((t : Int) + (d : Int))) j = na K j := by
      simp [na, List.getD_eq_getElem?_getD, List.getElem?_set_ne (show n + i ≠ j by omega)]
    rw [hv]
    exact h j (by omega) x

set_option maxHeartbeats 4000000 in
set_option maxRecDepth 20000 in
theorem deQuick_any (w : World) (D P : Nat) (hD1 : 1 ≤ D) (hD10 : D ≤ 10) (hP1 : 1 ≤ P) (hP2 : P ≤ 40) :
    Calls Try.prog 60 #[.int .i64 (D : Int), .int .i64 (P : Int)] w fun e w' => ∃ v, e = .returned v ∧ w'.ownsRow w.heap.size 52 3 v (qR0 D P).length (ss (qR0 D P)) ∧ Below w.heap.size w w' := by
  obtain ⟨i0, hi, hz0, hz1, hz2⟩ := info_parts infoSE
  obtain ⟨i3, hi3, hy0, hy1, hy2⟩ := info_parts info3
  have Hz := Lib.hid (And.intro hy0 (And.intro hy1 hy2))
  clear hy0 hy1 hy2
  obtain ⟨R, HR⟩ : ∃ R, Hid (R = qR0 D P) := ⟨_, Lib.hid rfl⟩
  rw [← HR.out]
  go_enter Try.func60, Try.ntmps60
  go_wp2_with (refine wpList_make_full _ rfl _ _ 36 rfl w.heap.size 3 i3 (.int .i64 0) 1 Try.underlying36 hi3 Hz.out.1 Hz.out.2.1 .i64 .i64 _ _ P rfl rfl rfl rfl ?_ ?_ ?_ ?_)
  · rw [Hz.out.2.2]; omega
  · unfold maxLen; omega
  · exact Nat.le_refl _
  intro w1 hown hgr
  have own1 : w1.ownsRow w.heap.size 3 1 (.slice (some ⟨w.heap.size, 0, none⟩) P P) P (ns (List.replicate P 0)) := by rw [← zero_nums, Nat.mul_one]; simpa using hown
  have hb1 : Below w.heap.size w w1 := (Below.refl _ _).grown hgr (Nat.le_refl _) (fun _ h => by cases h)
  have hgl := (own1.lt _ rfl).2
  obtain ⟨g, hg⟩ : ∃ g, w.heap.size = g := ⟨_, rfl⟩
  have hgw : w.heap.size ≤ g := by omega
  have Own1 : Hid (w1.ownsRow g 3 1 (.slice (some ⟨g, 0, none⟩) P P) P (ns (List.replicate P 0))) := by rw [← hg]; exact own1
  have Bel1 := Lib.hid hb1
  have hs1 := hb1.size
  rw [hg] at hgl
  rw [hg]
  clear hown hgr own1 hb1 hg
  go_wp2_with fail
  go_loopw [6, 7, 8] (fun v nx i wr => ∃ (t N0 : Nat) (K : List Int), t ≤ (qL D P t).length ∧ K.length = P ∧ Hid (N0 = (qL D P t).length + 1) ∧ i = .int .i64 t ∧ nx = .int .i64 (N0 : Int) ∧ Hid (KN D K N0) ∧ Hid (wr.ownsRow g 3 1 (.slice (some ⟨g, 0, none⟩) P P) P (ns K)) ∧ wr.ownsRow w1.heap.size 52 3 v (qL D P t).length (ss (qL D P t)) ∧ Below w.heap.size w wr ∧ w1.heap.size ≤ wr.heap.size) (fun _ _ i _ => 50 - (intOf i).toNat)
  case atStart => exact ⟨0, 1, List.replicate P 0, Nat.zero_le _, by simp, rfl, rfl, rfl, KN_start hD1 hP1, Own1, World.ownsRow_nil _ _ _ _, Bel1.out, Nat.le_refl _⟩
  case round =>
    obtain ⟨t, N0, K, htl, hKl, HN0, rfl, rfl, hkn, hko, hor, hbel, hsz⟩ := hrel
    have hle := qL_le D P t
    obtain ⟨ao, ka, rfl, _⟩ := sown_shape hor rfl
    obtain ⟨a, ha⟩ : ∃ a, (qL D P t).length = a := ⟨_, rfl⟩
    rw [ha] at htl hle hor HN0 ⊢
    clear Own1
    by_cases hlt : a < P - 1
    · have hN0P : N0 < P := by have := HN0.out; omega
      have hd1 : decide ((N0 : Int) < (P : Int)) = true := by simp only [decide_eq_true_eq]; omega
      have hN := qL_inf hD1 t (by rw [ha]; exact hlt)
      rw [ha, ← HN0.out] at hN
      have hmono := inf_mono hD1 (s := t) (t := t + D - 1) (by omega)
      have hmore : a < (qL D P (t + 1)).length := by rw [← ha]; exact qL_more (by rw [ha]; exact hlt)
      have Hmore := Lib.hid hmore
      have hnext : qL D P (t + 1) = qL D P t ++ seg a (qC D P a t) t := by rw [qL, ha]
      have Hnext := Lib.hid hnext
      have Ha := Lib.hid ha
      have HN := Lib.hid hN
      obtain ⟨B, HB⟩ : ∃ B, Hid (inf D t = B) := ⟨_, Lib.hid rfl⟩
      obtain ⟨c, hc⟩ : ∃ c, qC D P a t = c := ⟨_, rfl⟩
      have hcb : c ≤ B ∧ c ≤ P - 1 - a ∧ (c = B ∨ c = P - 1 - a) := by rw [← hc, ← HB.out]; unfold qC; omega
      have hBa : B ≤ N0 := by rw [← HB.out, hN]; exact hmono
      rw [hc] at Hnext
      have Hcb := Lib.hid hcb
      have Hor0 := Lib.hid hor
      have Hko0 := hko
      have Hkn0 := hkn
      clear hor hmore hnext ha hc hN hmono hko hkn hcb
      go_wp2_with fail
      go_loopw [6, 7, 10] (fun v nx i wq => ∃ (k j N : Nat) (K : List Int), k ≤ N0 ∧ Hid (j ≤ c ∧ j ≤ k ∧ (j = k ∨ j = c)) ∧ K.length = P ∧ Hid (N = N0 + j) ∧ i = .int .i64 k ∧ nx = .int .i64 (N : Int) ∧ Hid (KN D K N) ∧ Hid (wq.ownsRow g 3 1 (.slice (some ⟨g, 0, none⟩) P P) P (ns K)) ∧ wq.ownsRow w1.heap.size 52 3 v (a + j) (ss (qL D P t ++ seg a j t)) ∧ Below w.heap.size w wq ∧ w1.heap.size ≤ wq.heap.size) (fun _ _ i _ => N0 - (intOf i).toNat)
      case atStart => exact ⟨0, 0, N0, K, Nat.zero_le _, ⟨Nat.zero_le _, Nat.le_refl _, .inl rfl⟩, hKl, rfl, rfl, rfl, Hkn0, Hko0, by simpa [seg] using Hor0.out, hbel, hsz⟩
      case round =>
        clear Hor0 Hko0 Hkn0 hbel hsz hKl
        obtain ⟨k, j, N, K, hk, hjj, hKl, HNe, rfl, rfl, hkn, hko, hoq, hbq, hsz⟩ := hrel
        obtain ⟨ao, ka, rfl, _⟩ := sown_shape hoq (by rw [List.length_append, seg_length, Ha.out])
        by_cases hkl : k < N0
        · have hg1 : decide ((k : Int) < (N0 : Int)) = true := by simp only [decide_eq_true_eq]; omega
          by_cases hNP : N < P
          · have hg2 : decide ((N : Int) < (P : Int)) = true := by simp only [decide_eq_true_eq]; omega
            have c0 := hko.out.cellAt k (by omega)
            rw [ns_get _ k (by omega)] at c0
            have hiff := hkn.out k (by have := HNe.out; omega) t
            rw [HB.out] at hiff
            have hp0 : (0 : Int) ≤ (k : Int) := by omega
            have hp1 : (k : Int) < (P : Int) := by omega
            have hw2 : IntKind.i64.wrap ((k : Int) + 1) = (k : Int) + 1 := IntWalk.i64_in _ (by omega)
            by_cases hkB : k < B
            · have hkj : j = k := by have := hjj.out; have := Hcb.out; have := HNe.out; have := HN0.out; omega
              have hkc : k < c := by have := hjj.out; have := Hcb.out; have := HNe.out; have := HN0.out; omega
              subst hkj
              have htest : decide (na K j ≤ (t : Int)) = true := by simp only [decide_eq_true_eq]; exact hiff.2 hkB
              obtain ⟨u1, z1⟩ := own_some hko.out N (by omega)
              have zf1 := hko.out.frozenAt N
              have own2 := (hko.out.stored N (.int .i64 ((t : Int) + (D : Int)))).1
              rw [ns_set] at own2
              have HK2 := Lib.hid own2
              have HN2 : Hid (KN D (K.set N ((t : Int) + (D : Int))) (N + 1)) := by
                have e := HNe.out
                have h := hkn.out
                subst e
                exact KN_next hD1 h HN.out (by rw [HB.out]; exact hkB) (by omega)
              have HNe2 : Hid (N + 1 = N0 + (j + 1)) := by have := HNe.out; show _ = _; omega
              have hw1 : IntKind.i64.wrap ((t : Int) + (D : Int)) = (t : Int) + (D : Int) := IntWalk.i64_in _ (by omega)
              have hw3 : IntKind.i64.wrap ((N : Int) + 1) = (N : Int) + 1 := IntWalk.i64_in _ (by omega)
              have hp2 : (0 : Int) ≤ (N : Int) := by omega
              have hp3 : (N : Int) < (P : Int) := by omega
              have haj : a + j ≤ 1000 := by have := Hcb.out; omega
              have Hsucc : Hid (seg a (j + 1) t = seg a j t ++ [((j : Int), (N : Int), (t : Int))]) := by
                show _ = _
                rw [seg_succ, show ((a + 1 + j : Nat) : Int) = (N : Int) by have := HNe.out; have := HN0.out; omega]
              have hq2 : (wr.setCell ⟨g, N, none⟩ (.int .i64 ((t : Int) + (D : Int)))).ownsRow w1.heap.size 52 3 (.slice ao (a + j) ka) (a + j) (ss (qL D P t ++ seg a j t)) :=
                own_above hoq ((Above.refl w1.heap.size wr).setCell hgl) (Nat.le_refl _)
              have hbq2 : Below w.heap.size w (wr.setCell ⟨g, N, none⟩ (.int .i64 ((t : Int) + (D : Int)))) := hbq.setCell (p := ⟨g, N, none⟩) hgw _
              have HO := Lib.hid (hq2.alloc (.cells #[.int .i64 (j : Int), .int .i64 (N : Int), .int .i64 (t : Int)] 52))
              have HC : Hid (((wr.setCell ⟨g, N, none⟩ (.int .i64 ((t : Int) + (D : Int)))).alloc (.cells #[.int .i64 (j : Int), .int .i64 (N : Int), .int .i64 (t : Int)] 52)).heap[wr.heap.size]? = some (.cells #[.int .i64 (j : Int), .int .i64 (N : Int), .int .i64 (t : Int)] 52 (0, 0))) := by
                have h := heap_alloc_new (wr.setCell ⟨g, N, none⟩ (.int .i64 ((t : Int) + (D : Int)))) (.cells #[.int .i64 (j : Int), .int .i64 (N : Int), .int .i64 (t : Int)] 52)
                have e : (wr.setCell ⟨g, N, none⟩ (.int .i64 ((t : Int) + (D : Int)))).heap.size = wr.heap.size := by simp [World.setCell]
                rw [e] at h
                exact h
              have HK3 := Lib.hid (HK2.out.alloc (.cells #[.int .i64 (j : Int), .int .i64 (N : Int), .int .i64 (t : Int)] 52))
              have HB3 := Lib.hid (hbq2.alloc hbq2.size (.cells #[.int .i64 (j : Int), .int .i64 (N : Int), .int .i64 (t : Int)] 52))
              have HS3 : Hid (w1.heap.size ≤ ((wr.setCell ⟨g, N, none⟩ (.int .i64 ((t : Int) + (D : Int)))).alloc (.cells #[.int .i64 (j : Int), .int .i64 (N : Int), .int .i64 (t : Int)] 52)).heap.size) := by show _ ≤ _; simp [World.setCell]; omega
              clear hoq hbq hq2 hbq2 own2 hko hkn hiff hjj
              go_wp2_with (at_builtin; refine push_send _ rfl _ _ 25 rfl w1.heap.size 52 i0 Try.underlying25 hi hz0 hz1 hz2 _ _ (a + j) rfl HO.out (by omega) ((j : Int), (N : Int), (t : Int)) _ _ rfl HC.out HS3.out ?_)
              intro g2 cap w2 own2 gr2 _
              have belG := (Below.refl _ _).grown gr2 HS3.out (fun k hk => (HO.out.lt k hk).1)
              have bel2 : Below w.heap.size w w2 := HB3.out.trans (belG.mono (by omega))
              have hKo2 : w2.ownsRow g 3 1 (.slice (some ⟨g, 0, none⟩) P P) P (ns (K.set N ((t : Int) + (D : Int)))) := own_below HK3.out belG (fun k hk => by cases hk; exact hgl)
              have own3 : w2.ownsRow w1.heap.size 52 3 (.slice (some ⟨g2, 0, none⟩) (a + (j + 1)) cap) (a + (j + 1)) (ss (qL D P t ++ seg a (j + 1) t)) := by
                rw [Hsucc.out]; exact own2
              have Own3 := Lib.hid own3
              have Bel2 := Lib.hid bel2
              have HKo2 := Lib.hid hKo2
              have Hsz4 : Hid (w1.heap.size ≤ w2.heap.size) := Nat.le_trans HS3.out belG.size
              clear own2 gr2 own3 bel2 belG hKo2
              go_wp2_with fail
              go_roundw
              case rel => exact ⟨j + 1, j + 1, N + 1, _, by omega, ⟨hkc, Nat.le_refl _, .inl rfl⟩, by rw [List.length_set]; exact hKl, HNe2, by go_num, by go_num, HN2, HKo2, Own3.out, Bel2.out, Hsz4.out⟩
              case measure => simp [intOf]; omega
            · have htest : decide (na K k ≤ (t : Int)) = false := by simp only [decide_eq_false_iff_not]; exact fun h => hkB (hiff.1 h)
              have htest2 : ¬ na K k ≤ (t : Int) := fun h => hkB (hiff.1 h)
              have Hoq := Lib.hid hoq
              have Hbq := Lib.hid hbq
              have hjj2 : Hid (j ≤ c ∧ j ≤ k + 1 ∧ (j = k + 1 ∨ j = c)) := by have := hjj.out; have := Hcb.out; exact ⟨by omega, by omega, .inr (by omega)⟩
              clear hoq hbq hiff hjj
              go_wp2_with fail
              go_roundw
              case rel => exact ⟨k + 1, j, N, K, by omega, hjj2, hKl, HNe, by go_num, rfl, hkn, hko, Hoq.out, Hbq.out, hsz⟩
              case measure => simp [intOf]; omega
          · have hj : j = c := by have := hjj.out; have := Hcb.out; have := HNe.out; have := HN0.out; omega
            have Own : Hid (wr.ownsRow w1.heap.size 52 3 (.slice ao (a + j) ka) (qL D P (t + 1)).length (ss (qL D P (t + 1)))) := by
              show World.ownsRow _ _ _ _ _ _ _
              rw [Hnext.out, List.length_append, seg_length, Ha.out, ← hj]; exact hoq
            have Hlen : Hid (N = (qL D P (t + 1)).length + 1) := by show _ = _; have := HNe.out; have := HN0.out; rw [Hnext.out, List.length_append, seg_length, Ha.out, ← hj]; omega
            have hmore := Hmore.out
            have hw1 : IntKind.i64.wrap ((t : Int) + 1) = (t : Int) + 1 := IntWalk.i64_in _ (by omega)
            have hg2 : decide ((N : Int) < (P : Int)) = false := by simp only [decide_eq_false_iff_not]; omega
            clear hoq hjj hj
            go_wp2_with fail
            go_roundw
            case rel => exact ⟨t + 1, N, K, by omega, hKl, Hlen, by go_num, rfl, hkn, hko, Own.out, hbq, hsz⟩
            case measure => simp [intOf]; omega
        · have hj : j = c := by have := hjj.out; have := Hcb.out; omega
          have Own : Hid (wr.ownsRow w1.heap.size 52 3 (.slice ao (a + j) ka) (qL D P (t + 1)).length (ss (qL D P (t + 1)))) := by
            show World.ownsRow _ _ _ _ _ _ _
            rw [Hnext.out, List.length_append, seg_length, Ha.out, ← hj]; exact hoq
          have Hlen : Hid (N = (qL D P (t + 1)).length + 1) := by show _ = _; have := HNe.out; have := HN0.out; rw [Hnext.out, List.length_append, seg_length, Ha.out, ← hj]; omega
          have hmore := Hmore.out
          have hw1 : IntKind.i64.wrap ((t : Int) + 1) = (t : Int) + 1 := IntWalk.i64_in _ (by omega)
          have hg1 : decide ((k : Int) < (N0 : Int)) = false := by simp only [decide_eq_false_iff_not]; omega
          clear hoq hjj hj
          go_wp2_with fail
          go_roundw
          case rel => exact ⟨t + 1, N, K, by omega, hKl, Hlen, by go_num, rfl, hkn, hko, Own.out, hbq, hsz⟩
          case measure => simp [intOf]; omega
    · have hN0P : ¬ N0 < P := by have := HN0.out; omega
      have hd1 : decide ((N0 : Int) < (P : Int)) = false := by simp only [decide_eq_false_iff_not]; omega
      have hres : Hid (R = qL D P t) := by show _ = _; rw [HR.out]; exact qR0_eq (by rw [ha]; omega)
      have Hor := Lib.hid hor
      have Ha := Lib.hid ha
      clear hor ha hko hkn
      go_wp2_with fail
      go_ret
      exact ⟨_, rfl, by rw [hres.out, Ha.out]; exact own_base (by omega) Hor.out, hbel⟩

theorem specQS_any (w : World) (d m : Int) : Calls Try.prog 24 #[.int .i64 d, .int .i64 m] w fun e w' => ∃ v, e = .returned (.tuple #[v, .bool (qsB d m)]) ∧ w'.ownsRow w.heap.size 52 3 v (qsR d m).length (ss (qsR d m)) ∧ Below w.heap.size w w' := by
  cases hA : qsB d m
  · have hR : qsR d m = [] := by simp [qsR, hA]
    rw [hR]
    have HA : Hid ((deB d && peB m) = false) := hA
    clear hA hR
    go_enter Try.func24, Try.ntmps24
    go_wp2_with fail
    refine (deAsked_any d m w).mono ?_
    rintro e w' ⟨rfl, rfl⟩
    rw [HA.out]
    go_wp2_with fail
    go_ret2
    exact ⟨.slice none 0 0, rfl, World.ownsRow_nil _ _ _ _, Below.refl _ _⟩
  · have hR : qsR d m = qR0 d.toNat m.toNat := by simp [qsR, hA]
    have HA : Hid ((deB d && peB m) = true) := hA
    simp only [qsB, Bool.and_eq_true] at hA
    obtain ⟨D, rfl, hD1, hD10⟩ := de_in hA.1
    obtain ⟨P, rfl, hP1, hP2⟩ := pe_in hA.2
    have hR2 : qsR D P = qR0 D P := hR
    rw [hR2]
    clear hA hR hR2
    go_enter Try.func24, Try.ntmps24
    go_wp2_with fail
    refine (deAsked_any D P w).mono ?_
    rintro e w' ⟨rfl, rfl⟩
    rw [HA.out]
    go_wp2_with fail
    refine (deQuick_any w D P hD1 hD10 hP1 hP2).mono ?_
    rintro e w' ⟨v, rfl, own, hb⟩
    have Own := Lib.hid own
    clear own
    go_wp2_with fail
    go_ret2
    exact ⟨v, rfl, Own.out, hb⟩

end Go.Proofs.Ytghfkgbmmkcjhaa
