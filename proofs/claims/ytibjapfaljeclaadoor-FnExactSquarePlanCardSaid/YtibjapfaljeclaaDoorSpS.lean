/- The plan over a square: the model. -/
import Derived.Test.YtibjapfaljeclaaDoorSp
namespace Go.Proofs.YtibjapfaljeclaaDoor
open Go.ChangeShapes Go.WideShapes Go.ChangeAt Go.RowKit
set_option linter.unusedVariables false

theorem own_outer {w : World} {base : Nat} {v : Value} {X : List Value} {L : List (List Int)} (h : OwnSS w base v X L) (h0 : 0 < L.length) : ∃ g cap, v = .slice (some ⟨g, 0, none⟩) L.length cap ∧ base ≤ g :=  by
  rcases h.1.2 with ⟨_, hh⟩ | ⟨g, cap, cur, rfl, hb, _⟩
  · omega
  · exact ⟨g, cap, rfl, hb⟩
theorem cell_alloc {w : World} {p : Addr} {v : Value} (A : Obj) (h : w.cell? p = some v) : (w.alloc A).cell? p = some v := by
  rw [World.cell?_alloc_some _ _ _ (by simp [h])]; exact h
theorem cell_ad {w : World} {p : Addr} {v : Value} (A : Obj) (h : w.drew.cell? p = some v) : (w.alloc A).drew.cell? p = some v := cell_alloc A (w := w) h
theorem caPair_k (a b : Int) (w : World) : Calls Tryd.prog 25 #[.int .i64 a, .int .i64 b] w fun e w' => e = .returned (.agg #[.int .i64 (min a b), .int .i64 (max a b)]) ∧ Below w.heap.size w w' := by
  refine (caPair_any a b w).mono ?_
  rintro e w' ⟨rfl, rfl⟩
  exact ⟨rfl, bel_alloc _⟩
theorem heap_fifth (w : World) (A B C D E : Obj) : (((((w.alloc A).alloc B).alloc C).alloc D).alloc E).drew.heap[w.heap.size + 1 + 1 + 1 + 1]? = some E := by
  have h := heap_alloc_new ((((w.alloc A).alloc B).alloc C).alloc D) E
  have hs : ((((w.alloc A).alloc B).alloc C).alloc D).heap.size = w.heap.size + 1 + 1 + 1 + 1 := by simp
  rw [hs] at h
  exact h
theorem below_five {base : Nat} {w wr : World} (h : Below base w wr) (hs : base ≤ wr.heap.size) (A B C D E : Obj) : Below base w (((((wr.alloc A).alloc B).alloc C).alloc D).alloc E).drew :=
  (((((h.alloc hs A).alloc (by simp; omega) B).alloc (by simp; omega) C).alloc (by simp; omega) D).alloc (by simp; omega) E).drew

theorem cs_mid (a x y z : Nat) : cs (mid a x y z) = [.int .i64 (min (a : Int) x), .int .i64 (max (a : Int) x), .int .i64 (min (y : Int) z), .int .i64 (max (y : Int) z), .int .i64 (min (a : Int) z), .int .i64 (max (a : Int) z), .int .i64 (min (x : Int) y), .int .i64 (max (x : Int) y)] := by
  simp only [mid, cs, cmm, List.flatMap_cons, List.flatMap_nil, List.append_nil, List.cons_append, List.nil_append]
  have e1 : ∀ p q : Nat, ((min p q : Nat) : Int) = min (p : Int) q := by intro p q; omega
  have e2 : ∀ p q : Nat, ((max p q : Nat) : Int) = max (p : Int) q := by intro p q; omega
  simp only [e1, e2]

set_option maxHeartbeats 8000000 in
set_option maxRecDepth 20000 in
theorem specSp_any (w : World) (f : Int) (ao : Option Addr) (cap : Nat) (l : List (Int × Int)) (n : Nat) (Hn : Hid (n = l.length)) (hs : n ≤ 1048576) (Hc : CallsAt w ao l) :
    Calls Tryd.prog 12 #[.int .i64 f, .slice ao n cap] w fun e w' => ∃ v, e = .returned (.tuple #[v, .bool (spB f l)]) ∧ w'.ownsRow w.heap.size 35 2 v (spR f l).length (cs (spR f l)) ∧ Below w.heap.size w w' := by
  have HA := Lib.hid Hc
  clear Hc
  cases hj : isjR f l
  · have Hno := Lib.hid (sp_no hj)
    have Hj := Lib.hid hj
    cases hg : netB f l
    · have Hg := Lib.hid hg
      clear hg Hj hj
      go_enter Tryd.func12, Tryd.ntmps12
      go_wp2_with fail
      refine (neGood_any f ao cap l n w Hn.out (by omega) HA.out).mono ?_
      rintro e w1 ⟨rfl, hb1⟩
      rw [Hg.out]
      go_wp2_with fail
      go_ret2
      exact ⟨.slice none 0 0, by rw [Hno.out.1]; rfl, by rw [Hno.out.2]; exact World.ownsRow_nil _ _ _ _, hb1⟩
    · have hfr := net_fr hg
      obtain ⟨F, rfl⟩ := Int.eq_ofNat_of_zero_le (show 0 ≤ f by omega)
      have HJ : Hid (joinB F l = false) := Lib.hid (by rw [← isj_at hg]; exact hj)
      have Hgd := Lib.hid (net_gd hg)
      have Hg := Lib.hid hg
      clear hg Hj hj
      go_enter Tryd.func12, Tryd.ntmps12
      go_wp2_with fail
      refine (neGood_any F ao cap l n w Hn.out (by omega) HA.out).mono ?_
      rintro e w1 ⟨rfl, hb1⟩
      rw [Hg.out]
      go_wp2_with fail
      refine (neJoined_any F ao cap l n w1 Hn hs Hgd (HA.out.kept hb1)).mono ?_
      rintro e w2 ⟨rfl, hb2⟩
      rw [HJ.out]
      have hb3 := hb1.trans (hb2.mono hb1.size)
      clear hb1 hb2
      go_wp2_with fail
      go_ret2
      exact ⟨.slice none 0 0, by rw [Hno.out.1]; rfl, by rw [Hno.out.2]; exact World.ownsRow_nil _ _ _ _, hb3⟩
  · have hnet := isj_net hj
    have hfr := net_fr hnet
    obtain ⟨F, rfl⟩ := Int.eq_ofNat_of_zero_le (show 0 ≤ f by omega)
    have HJ : Hid (joinB F l = true) := Lib.hid (by rw [← isj_at hnet]; exact hj)
    have HI := Lib.hid hj
    have Hg := Lib.hid hnet
    have Hgd := Lib.hid (net_gd hnet)
    have Hsh : Hid (∀ q, q ∈ sqW l F F → ∃ a x y z : Nat, q = qd a x y z ∧ Sq4 F a x y z) := Lib.hid (fun q hq => sq_four hq)
    obtain ⟨i0, hi, iz0, iz1, iz2⟩ := info_parts info35
    clear hj hnet
    obtain ⟨TT, hT⟩ : ∃ TT, sqW l F F = TT := ⟨_, rfl⟩
    have HTe := Lib.hid hT
    rw [hT] at Hsh
    clear hT
    cases TT with
    | nil =>
      have Hno := Lib.hid (sp_nil HTe.out)
      go_enter Tryd.func12, Tryd.ntmps12
      go_wp2_with fail
      refine (neGood_any F ao cap l n w Hn.out (by omega) HA.out).mono ?_
      rintro e w1 ⟨rfl, hb1⟩
      rw [Hg.out]
      go_wp2_with fail
      refine (neJoined_any F ao cap l n w1 Hn hs Hgd (HA.out.kept hb1)).mono ?_
      rintro e w2 ⟨rfl, hb2⟩
      rw [HJ.out]
      have hb3 := hb1.trans (hb2.mono hb1.size)
      clear hb1 hb2
      have hs3 := hb3.size
      go_wp2_with fail
      refine (neSquares_any F ao cap l n w2 Hn hs (by omega) (Lib.hid (HA.out.kept hb3))).mono ?_
      rintro e w4 ⟨v, X, rfl, own, hb4⟩
      rw [HTe.out] at own
      obtain ⟨A, C, rfl⟩ := oss_shape own
      have hb5 := hb3.trans (hb4.mono hs3)
      clear own hb3 hb4
      go_wp2_with fail
      go_ret2
      exact ⟨.slice none 0 0, by rw [Hno.out.1]; rfl, by rw [Hno.out.2]; exact World.ownsRow_nil _ _ _ _, hb5⟩
    | cons q r =>
      obtain ⟨a, x, y, z, rfl, h4⟩ := Hsh.out q (List.mem_cons_self ..)
      have Hy := Lib.hid (sp_yes HI.out HTe.out)
      have hlen := sp_len4 HI.out h4
      have H4 := Lib.hid h4
      have e1 := h4.ax
      have e2 := h4.ay
      have e3 := h4.xz
      have e4 := h4.yx
      have e5 := h4.yz
      have e6 := h4.yF
      have e7 := h4.zF
      obtain ⟨R, hR⟩ : ∃ R, tre l F (ts a x y z) = R := ⟨_, rfl⟩
      have HRe := Lib.hid hR
      rw [hR] at hlen
      obtain ⟨N, hN⟩ : ∃ N, R.length = N := ⟨_, rfl⟩
      have HNR : Hid (N = R.length) := Lib.hid hN.symm
      rw [hN] at hlen
      have hN6 : N ≤ 6 := by omega
      have hF4 : 4 ≤ F := hlen.2
      have Hyy : Hid (spR (F : Int) l = R.reverse ++ (mid a x y z ++ R)) := Lib.hid (by rw [Hy.out.2, spL, hR])
      clear hR hN hlen h4
      go_enter Tryd.func12, Tryd.ntmps12
      go_wp2_with fail
      refine (neGood_any F ao cap l n w Hn.out (by omega) HA.out).mono ?_
      rintro e w1 ⟨rfl, hb1⟩
      rw [Hg.out]
      go_wp2_with fail
      refine (neJoined_any F ao cap l n w1 Hn hs Hgd (HA.out.kept hb1)).mono ?_
      rintro e w2 ⟨rfl, hb2⟩
      rw [HJ.out]
      have hb3 := hb1.trans (hb2.mono hb1.size)
      clear hb1 hb2
      have hs3 := hb3.size
      go_wp2_with fail
      refine (neSquares_any F ao cap l n w2 Hn hs (by omega) (Lib.hid (HA.out.kept hb3))).mono ?_
      rintro e w4 ⟨v, X, rfl, own, hb4⟩
      rw [HTe.out] at own
      obtain ⟨g, C, rfl, _⟩ := own_outer own (by simp)
      obtain ⟨x0, hx0⟩ : ∃ x0, X[0]? = some x0 := ⟨_, List.getElem?_eq_getElem (by rw [own.2.1]; simp)⟩
      have hrow := (own.2.2.1 0 x0 (qd a x y z) hx0 rfl).1
      have c0 : w4.cell? ⟨g, 0, none⟩ = some x0 := by rw [own.1.cellAt 0 (by simp)]; exact hx0
      obtain ⟨g0, C0, rfl⟩ := own_apos' hrow (by show 0 < 4; decide)
      have Hrow := Lib.hid hrow
      have Hb4 := Lib.hid (hb3.trans (hb4.mono hs3))
      obtain ⟨K, hK⟩ : ∃ K, (qd a x y z :: r).length = K := ⟨_, rfl⟩
      have hK0 : 0 < K := by rw [← hK]; simp
      have hK1 : ((K : Int) == 0) = false := by simp; omega
      rw [hK]
      have e8 : (qd a x y z).length = 4 := rfl
      rw [e8] at c0
      clear own hb3 hb4 hrow hK hx0
      go_wp2_with fail
      refine (neTree_any F ao cap l n g0 0 C0 4 (qd a x y z) (ts a x y z) w4 Hn hs Hgd HJ (Lib.hid (HA.out.kept Hb4.out)) (Lib.hid rfl) (ts_pc (F := F) (by omega) H4.out).symm (by omega) (ts_lt H4.out) (Lib.hid (ts_seen a x y z)) (Lib.hid (fun i hi => by rw [Nat.zero_add]; exact row_num Hrow.out rfl i hi))).mono ?_
      rintro e w5 ⟨v5, rfl, own5, hb5⟩
      rw [HRe.out, ← HNR.out] at own5
      obtain ⟨a5, c5, rfl, hca, hcc5, hn5⟩ := own_cases own5 HNR.out
      have HR5 := Lib.hid hca
      have HO5 := Lib.hid own5
      have Hrow5 := Lib.hid (own_later Hrow.out hb5)
      have Hb5 := Lib.hid (Hb4.out.trans (hb5.mono Hb4.out.size))
      have hg5 : g0 < w5.heap.size := (Hrow5.out.lt g0 rfl).2
      have Hw5 := Lib.hid Hb5.out.size
      clear own5 hca hb5 Hb4 Hrow c0
      go_wp2_with fail
      go_loopw [9, 10] (fun v i wr => ∃ (j : Nat) (G : Option Addr) (c : Nat), j ≤ N ∧ i = .int .i64 ((N : Int) - 1 - (j : Int)) ∧ v = .slice G j c ∧ Hid (wr.ownsRow w5.heap.size 35 2 (.slice G j c) j (cs (R.reverse.take j))) ∧ Below w5.heap.size w5 wr) (fun _ i _ => (intOf i + 1).toNat)
      case atStart => exact ⟨0, none, 0, Nat.zero_le _, by go_num, rfl, Lib.hid (World.ownsRow_nil _ _ _ _), Below.refl _ _⟩
      case round =>
        obtain ⟨j, G, c, hj, rfl, rfl, Hor, hbel5⟩ := hrel
        by_cases hlt : j < N
        · rcases HR5.out with h | ⟨b, off, rfl, hc⟩
          · exact absurd hlt (by rw [HNR.out, h]; simp)
          obtain ⟨q, hq⟩ : ∃ q, N - 1 - j = q := ⟨_, rfl⟩
          have hqi : (N : Int) - 1 - (j : Int) = (q : Int) := by omega
          have hqN : q < N := by omega
          have h0 := cell_old hbel5 (hc q (by rw [← HNR.out]; exact hqN)).1
          have h1 := cell_old hbel5 (hc q (by rw [← HNR.out]; exact hqN)).2
          obtain ⟨X, hX⟩ : ∃ X : Int, ca R q = X := ⟨_, rfl⟩
          obtain ⟨Y, hY⟩ : ∃ Y : Int, cb R q = Y := ⟨_, rfl⟩
          rw [hX] at h0
          rw [hY] at h1
          have Hs : Hid (R.reverse.take (j + 1) = R.reverse.take j ++ [(X, Y)]) := Lib.hid (by rw [rev_step R N j HNR.out hlt, hq, hX, hY])
          have hq0 : (0 : Int) ≤ q := by omega
          have hq2 : (q : Int) < N := by omega
          have Hq : Hid ((q : Int) - 1 = (N : Int) - 1 - ((j + 1 : Nat) : Int)) := Lib.hid (by omega)
          rw [hqi]
          clear hX hY hq hc hqi
          have hsz5 := hbel5.size
          go_wp2_with (at_builtin; refine wpList_append_own _ rfl _ _ 24 rfl w5.heap.size 35 i0 (.agg #[.int .i64 0, .int .i64 0]) 2 16 Tryd.underlying24 hi iz0 iz1 iz2 rfl (by decide) _ _ _ rfl (Hor.out.alloc _) ⟨wr.heap.size, 0, none⟩ 1 1 [.int .i64 X, .int .i64 Y] rfl rfl ?c1 ?c2 ?c3 ?c4 ?c5 ?_)
          case c1 => exact World.news_of_block (cs := #[.int .i64 X, .int .i64 Y]) (t := 35) (fr := (0, 0)) (heap_alloc_new _ _)
          case c2 => intro u hu; simp at hu; rcases hu with rfl | rfl <;> rfl
          case c3 => unfold maxLen; omega
          case c4 => omega
          case c5 => simp; omega
          intro v' w8 hown' hgr _
          obtain ⟨G2, c2, hv2⟩ := found_shape hown'
          rw [hv2] at hown' ⊢
          have Hown := Lib.hid hown'
          have Hbel := Lib.hid ((hbel5.alloc hsz5 _).grown hgr (by simp; omega) (fun b hb => (Hor.out.lt b hb).1))
          clear hown' hgr Hor hbel5 hv2
          go_wp2_with fail
          go_roundw
          case rel => exact ⟨j + 1, G2, c2, by omega, by rw [← Hq.out], rfl, by rw [Hs.out, cs_append]; exact Hown, Hbel.out⟩
          case measure => first | (simp [intOf]; done) | (simp [intOf]; omega)
        · obtain rfl : j = N := by omega
          have hk0 : ¬ ((j : Int) - 1 - (j : Int) ≥ 0) := by omega
          have Hor2 : Hid (wr.ownsRow w5.heap.size 35 2 (.slice G j c) j (cs R.reverse)) := Lib.hid (by
            have h := Hor.out
            rw [List.take_of_length_le (by rw [List.length_reverse, ← HNR.out]; exact Nat.le_refl _)] at h
            exact h)
          have hrw := own_later Hrow5.out hbel5
          have c0 : wr.cell? ⟨g0, 0, none⟩ = some (.int .i64 a) := hrw.cellAt 0 (by show 0 < 4 * 1; decide)
          have c1 : wr.cell? ⟨g0, 1, none⟩ = some (.int .i64 x) := hrw.cellAt 1 (by show 1 < 4 * 1; decide)
          have c2 : wr.cell? ⟨g0, 2, none⟩ = some (.int .i64 y) := hrw.cellAt 2 (by show 2 < 4 * 1; decide)
          have c3 : wr.cell? ⟨g0, 3, none⟩ = some (.int .i64 z) := hrw.cellAt 3 (by show 3 < 4 * 1; decide)
          have D0 : Hid (wr.drew.cell? ⟨g0, 0, none⟩ = some (.int .i64 a)) := Lib.hid c0
          have D1 : Hid (wr.drew.cell? ⟨g0, 1, none⟩ = some (.int .i64 x)) := Lib.hid c1
          have D2 : Hid (wr.drew.cell? ⟨g0, 2, none⟩ = some (.int .i64 y)) := Lib.hid c2
          have D3 : Hid (wr.drew.cell? ⟨g0, 3, none⟩ = some (.int .i64 z)) := Lib.hid c3
          have hg0 : g0 < wr.heap.size := (hrw.lt g0 rfl).2
          have far : (Value.slice G j c).ownBlock ≠ some g0 := fun h => by have := (Hor2.out.lt _ h).1; omega
          have Far := Lib.hid far
          have Hb5' := Lib.hid hbel5
          have HO5' := Lib.hid (own_later HO5.out hbel5)
          have hsz5 := hbel5.size
          have HbF := Lib.hid hbel5
          have HorD : Hid (wr.drew.ownsRow w5.heap.size 35 2 (.slice G j c) j (cs R.reverse)) := Lib.hid (own_later Hor2.out (Below.refl _ _).drew)
          have HbD : Hid (Below w5.heap.size w5 wr.drew) := Lib.hid HbF.out.drew
          have Hg0 : Hid (g0 < wr.drew.heap.size) := Lib.hid hg0
          have HN1 : Hid (∀ u ∈ ([.int .i64 (min (a : Int) x), .int .i64 (max (a : Int) x), .int .i64 (min (y : Int) z), .int .i64 (max (y : Int) z), .int .i64 (min (a : Int) z), .int .i64 (max (a : Int) z), .int .i64 (min (x : Int) y), .int .i64 (max (x : Int) y)] : List Value), u.oneCell' = true) := Lib.hid (by intro u hu; simp at hu; rcases hu with rfl | rfl | rfl | rfl | rfl | rfl | rfl | rfl <;> rfl)
          clear Hor hbel5 hrw far
          go_wp2_with fail
          go_region_held3 (fun w' => w'.cell? ⟨g0, 0, none⟩ = some (.int .i64 a) ∧ w'.cell? ⟨g0, 1, none⟩ = some (.int .i64 x) ∧ w'.cell? ⟨g0, 2, none⟩ = some (.int .i64 y) ∧ w'.cell? ⟨g0, 3, none⟩ = some (.int .i64 z))
            (first
              | with_reducible exact ⟨D0.out, D1.out, D2.out, D3.out⟩
              | (go_split_ands; exact ⟨cell_old hb2 (by with_reducible assumption), cell_old hb2 (by with_reducible assumption), cell_old hb2 (by with_reducible assumption), cell_old hb2 (by with_reducible assumption)⟩)
              | (go_split_ands; exact ⟨cell_alloc _ (by with_reducible assumption), cell_alloc _ (by with_reducible assumption), cell_alloc _ (by with_reducible assumption), cell_alloc _ (by with_reducible assumption)⟩)
              | (go_split_ands
                 refine ⟨?_, ?_, ?_, ?_⟩
                 · (rw [hgrow.cell_far _ (by have := Hg0.out; simp; omega) (Ne.symm Far.out)]; with_reducible assumption)
                 · (rw [hgrow.cell_far _ (by have := Hg0.out; simp; omega) (Ne.symm Far.out)]; with_reducible assumption)
                 · (rw [hgrow.cell_far _ (by have := Hg0.out; simp; omega) (Ne.symm Far.out)]; with_reducible assumption)
                 · (rw [hgrow.cell_far _ (by have := Hg0.out; simp; omega) (Ne.symm Far.out)]; with_reducible assumption))
              | go_keep)
            (first
              | (go_at_call 25; (with_reducible refine (caPair_k (a : Int) (x : Int) _).mono ?_); rintro e w2 ⟨rfl, hb2⟩; have HorD := Lib.hid (own_later HorD.out hb2); have HbD := Lib.hid (HbD.out.trans (hb2.mono HbD.out.size)); have Hg0 := Lib.hid (Nat.lt_of_lt_of_le Hg0.out hb2.size))
              | (go_at_call 25; (with_reducible refine (caPair_k (y : Int) (z : Int) _).mono ?_); rintro e w2 ⟨rfl, hb2⟩; have HorD := Lib.hid (own_later HorD.out hb2); have HbD := Lib.hid (HbD.out.trans (hb2.mono HbD.out.size)); have Hg0 := Lib.hid (Nat.lt_of_lt_of_le Hg0.out hb2.size))
              | (go_at_call 25; (with_reducible refine (caPair_k (a : Int) (z : Int) _).mono ?_); rintro e w2 ⟨rfl, hb2⟩; have HorD := Lib.hid (own_later HorD.out hb2); have HbD := Lib.hid (HbD.out.trans (hb2.mono HbD.out.size)); have Hg0 := Lib.hid (Nat.lt_of_lt_of_le Hg0.out hb2.size))
              | (go_at_call 25; (with_reducible refine (caPair_k (x : Int) (y : Int) _).mono ?_); rintro e w2 ⟨rfl, hb2⟩; have HorD := Lib.hid (own_later HorD.out hb2); have HbD := Lib.hid (HbD.out.trans (hb2.mono HbD.out.size)); have Hg0 := Lib.hid (Nat.lt_of_lt_of_le Hg0.out hb2.size))
              | ((fail_if_success go_at_call 25); refine step_append_lies _ (by rfl) _ _ _ (by rfl) w5.heap.size 35 i0 _ 2 16 Tryd.underlying24 hi iz0 iz1 iz2 rfl (by omega) (.slice G j c) j _ (by rfl) (HorD.out.alloc _) ⟨_, 0, none⟩ 4 4 [.int .i64 (min (a : Int) x), .int .i64 (max (a : Int) x), .int .i64 (min (y : Int) z), .int .i64 (max (y : Int) z), .int .i64 (min (a : Int) z), .int .i64 (max (a : Int) z), .int .i64 (min (x : Int) y), .int .i64 (max (x : Int) y)] (by rfl) (by rfl) (World.news_of_block (cs := #[.int .i64 (min (a : Int) x), .int .i64 (max (a : Int) x), .int .i64 (min (y : Int) z), .int .i64 (max (y : Int) z), .int .i64 (min (a : Int) z), .int .i64 (max (a : Int) z), .int .i64 (min (x : Int) y), .int .i64 (max (x : Int) y)]) (t := 35) (fr := (0, 0)) (heap_alloc_new _ _)) HN1.out (by omega) (by unfold maxLen; omega) (by omega) (by have := HbD.out.size; simp; omega) _ rfl ?_; intro gg cap3 w9 hown1 hgrow hat hlt9)
              | fail)
          have Hown9 : Hid (w9.ownsRow w5.heap.size 35 2 (.slice (some ⟨gg, 0, none⟩) (j + 4) cap3) (j + 4) (cs R.reverse ++ cs (mid a x y z))) := Lib.hid (by rw [cs_mid]; exact hown1)
          have Hb9 : Hid (Below w5.heap.size w5 w9) := Lib.hid ((HbD.out.alloc HbD.out.size _).grown hgrow (by have := HbD.out.size; simp; omega) (fun b hb => (HorD.out.lt b hb).1))
          have HO9 := own_later HO5.out Hb9.out
          have Hsz9 := Lib.hid Hb9.out.size
          have Hcs : Hid (cs (spR (F : Int) l) = cs R.reverse ++ cs (mid a x y z) ++ cs R) := Lib.hid (by rw [Hyy.out, cs_append, cs_append, List.append_assoc])
          have Hle : Hid ((spR (F : Int) l).length = j + 4 + j) := Lib.hid (by rw [Hyy.out, List.length_append, List.length_append, List.length_reverse, ← HNR.out]; show j + (4 + j) = _; omega)
          have HbW : Hid (Below w.heap.size w w9) := Lib.hid (Hb5.out.trans (Hb9.out.mono Hw5.out))
          have Hyb := Lib.hid Hy.out.1
          rename_i hS
          clear hS hown1 hgrow hat hlt9 HbD Hor2 c0 c1 c2 c3
          rcases HO9.2 with ⟨hv, h0⟩ | ⟨g5, cap5, cur, hv, _⟩
          · injection hv with hva hvn hvc
            subst hva
            subst hvn
            subst hvc
            have hR0 : R = [] := List.eq_nil_of_length_eq_zero HNR.out.symm
            subst hR0
            clear HO9 h0
            go_wp2_with (at_builtin; refine wpList_append_own_none rfl _ _ 24 rfl w5.heap.size 35 i0 2 Tryd.underlying24 hi _ _ _ rfl Hown9.out rfl ?_)
            go_ret2
            exact ⟨.slice (some ⟨gg, 0, none⟩) (0 + 4) cap3, by rw [Hyb.out]; rfl, by rw [Hcs.out, Hle.out, show cs ([] : List (Int × Int)) = [] from rfl, List.append_nil]; exact own_base Hw5.out Hown9.out, HbW.out⟩
          · injection hv with hva hvn hvc
            subst hva
            subst hvc
            have Hnw := Lib.hid (HO9.cells (g := g5) rfl)
            clear HO9
            go_wp2_with (at_builtin; refine wpList_append_own _ rfl _ _ 24 rfl w5.heap.size 35 i0 (.agg #[.int .i64 0, .int .i64 0]) 2 16 Tryd.underlying24 hi iz0 iz1 iz2 rfl (by decide) _ _ _ rfl Hown9.out ⟨g5, 0, none⟩ j _ (cs R) rfl ?c0 ?c1 ?c2 ?c3 ?c4 ?c5 ?_)
            case c0 => rw [cs_length, ← HNR.out]
            case c1 =>
              intro i u hu
              have h := Hnw.out i u hu
              rwa [show (⟨g5, 0, none⟩ : Addr).add i = ⟨g5, i, none⟩ by unfold Addr.add; split <;> simp_all] at h
            case c2 => exact cs_one _
            case c3 => unfold maxLen; omega
            case c4 => omega
            case c5 => exact Hsz9.out
            intro v' w1 hown' hgr hnil
            have Hown := Lib.hid (own_base Hw5.out hown')
            have Hbel := Lib.hid (HbW.out.grown hgr (Nat.le_trans Hw5.out Hsz9.out) (fun b hb => Nat.le_trans Hw5.out (Hown9.out.lt b hb).1))
            clear hown' hgr hnil
            go_wp2_with fail
            go_ret2
            exact ⟨v', by rw [Hyb.out]; rfl, by rw [Hcs.out, Hle.out, List.append_assoc]; exact Hown.out, Hbel.out⟩

end Go.Proofs.YtibjapfaljeclaaDoor
