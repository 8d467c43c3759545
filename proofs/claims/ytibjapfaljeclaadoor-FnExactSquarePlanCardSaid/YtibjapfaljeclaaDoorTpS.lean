/- The plan along a tree: the model. -/
import Derived.Test.YtibjapfaljeclaaDoorTp
namespace Go.Proofs.YtibjapfaljeclaaDoor
open Go.ChangeShapes Go.WideShapes Go.ChangeAt Go.RowKit
set_option linter.unusedVariables false


set_option maxHeartbeats 4000000 in
set_option maxRecDepth 20000 in
theorem specTp_any (w : World) (f : Int) (ao : Option Addr) (cap : Nat) (l : List (Int × Int)) (n : Nat) (Hn : Hid (n = l.length)) (hs : n ≤ 1048576) (Hc : CallsAt w ao l) :
    Calls Tryd.prog 6 #[.int .i64 f, .slice ao n cap] w fun e w' => ∃ v, e = .returned (.tuple #[v, .bool (isjR f l)]) ∧ w'.ownsRow w.heap.size 35 2 v (tpR f l).length (cs (tpR f l)) ∧ Below w.heap.size w w' := by
  have HA := Lib.hid Hc
  clear Hc
  cases hj : isjR f l
  · have Hno : Hid (tpR f l = []) := Lib.hid (by rw [tpR, hj]; rfl)
    have Hj := Lib.hid hj
    cases hg : netB f l
    · have Hg := Lib.hid hg
      clear hg hj
      go_enter Tryd.func6, Tryd.ntmps6
      go_wp2_with fail
      refine (neGood_any f ao cap l n w Hn.out (by omega) HA.out).mono ?_
      rintro e w1 ⟨rfl, hb1⟩
      rw [Hg.out]
      go_wp2_with fail
      go_ret2
      exact ⟨.slice none 0 0, rfl, by rw [Hno.out]; exact World.ownsRow_nil _ _ _ _, hb1⟩
    · have hfr := net_fr hg
      obtain ⟨F, rfl⟩ := Int.eq_ofNat_of_zero_le (show 0 ≤ f by omega)
      have HJ : Hid (joinB F l = false) := Lib.hid (by rw [← isj_at hg]; exact hj)
      have Hgd := Lib.hid (net_gd hg)
      have Hg := Lib.hid hg
      clear hg hj
      go_enter Tryd.func6, Tryd.ntmps6
      go_wp2_with fail
      refine (neGood_any F ao cap l n w Hn.out (by omega) HA.out).mono ?_
      rintro e w1 ⟨rfl, hb1⟩
      rw [Hg.out]
      go_wp2_with fail
      refine (neJoined_any F ao cap l n w1 Hn hs Hgd (HA.out.kept hb1)).mono ?_
      rintro e w2 ⟨rfl, hb2⟩
      rw [HJ.out]
      have hb3 := hb1.trans (hb2.mono hb1.size)
      clear hb1 hb2
      go_wp2_with fail
      go_ret2
      exact ⟨.slice none 0 0, rfl, by rw [Hno.out]; exact World.ownsRow_nil _ _ _ _, hb3⟩
  · have hnet := isj_net hj
    have hfr := net_fr hnet
    obtain ⟨F, rfl⟩ := Int.eq_ofNat_of_zero_le (show 0 ≤ f by omega)
    have HJ : Hid (joinB F l = true) := Lib.hid (by rw [← isj_at hnet]; exact hj)
    have Hy := Lib.hid (tp_at hj)
    have htl := tp_len1 hj
    have HI := Lib.hid hj
    have Hg := Lib.hid hnet
    have Hgd := Lib.hid (net_gd hnet)
    obtain ⟨i0, hi, iz0, iz1, iz2⟩ := info_parts info35
    clear hj hnet
    go_enter Tryd.func6, Tryd.ntmps6
    go_wp2_with fail
    refine (neGood_any F ao cap l n w Hn.out (by omega) HA.out).mono ?_
    rintro e w1 ⟨rfl, hb1⟩
    rw [Hg.out]
    go_wp2_with fail
    refine (neJoined_any F ao cap l n w1 Hn hs Hgd (HA.out.kept hb1)).mono ?_
    rintro e w2 ⟨rfl, hb2⟩
    rw [HJ.out]
    have hb3 := hb1.trans (hb2.mono hb1.size)
    clear hb1 hb2
    have hs3 := hb3.size
    have hlit : ∀ i, i < 1 → (w2.alloc (.cells #[.int .i64 0] 3)).cell? ⟨w2.heap.size, 0 + i, none⟩ = some (.int .i64 (na [0] i)) := fun i hi => by
      have : i = 0 := by omega
      subst this
      simp [na]
    have Hlit := Lib.hid hlit
    have Hs0 : Hid (∀ u : Nat, seen [0] ([0] : List Int).length u = (1 : Nat).testBit u) := Lib.hid (fun u => by
      have e : (1 : Nat).testBit u = decide (u = 0) := by
        have := Nat.testBit_two_pow (n := 0) (m := u)
        rw [show (2 : Nat) ^ 0 = 1 from rfl] at this
        rw [this]
        simp [eq_comm]
      rw [e]
      by_cases h : u = 0
      · subst h; rfl
      · have : ((0 : Int) == (u : Int)) = false := by simp; omega
        simp [seen, na, this, h])
    have hb4 := hb3.alloc hs3 (.cells #[.int .i64 0] 3)
    have Hb4 := Lib.hid hb4
    have hs4 := hb4.size
    obtain ⟨R, hR⟩ : ∃ R, tre l F 1 = R := ⟨_, rfl⟩
    clear hlit hb4 hb3
    go_wp2_with fail
    refine (neTree_any F ao cap l n w2.heap.size 0 1 1 [0] 1 (w2.alloc (.cells #[.int .i64 0] 3)) Hn hs Hgd HJ (Lib.hid (HA.out.kept Hb4.out)) (Lib.hid rfl) pc_one.symm (by omega) (Nat.one_lt_two_pow (by omega)) Hs0 Hlit).mono ?_
    rintro e w5 ⟨v5, rfl, own5, hb5⟩
    rw [hR] at own5 htl Hy
    obtain ⟨N, hN⟩ : ∃ N, R.length = N := ⟨_, rfl⟩
    rw [hN] at own5 htl
    have HNR : Hid (N = R.length) := Lib.hid hN.symm
    have hN9 : N ≤ 9 := by omega
    obtain ⟨a5, c5, rfl, hca⟩ := own_shape own5 HNR.out
    have HR5 := Lib.hid hca.1
    have Hb5 := Lib.hid (Hb4.out.trans (hb5.mono hs4))
    clear hR hN own5 hca hb5 Hb4 htl
    go_wp2_with fail
    have Hw5 := Lib.hid Hb5.out.size
    go_loopw [7, 8] (fun v i wr => ∃ (j : Nat) (G : Option Addr) (c : Nat), j ≤ N ∧ i = .int .i64 ((N : Int) - 1 - (j : Int)) ∧ v = .slice G j c ∧ Hid (wr.ownsRow w5.heap.size 35 2 (.slice G j c) j (cs (R.reverse.take j))) ∧ Below w5.heap.size w5 wr) (fun _ i _ => (intOf i + 1).toNat)
    case atStart => exact ⟨0, none, 0, Nat.zero_le _, by go_num, rfl, Lib.hid (World.ownsRow_nil _ _ _ _), Below.refl _ _⟩
    case round =>
      obtain ⟨j, G, c, hj, rfl, rfl, Hor, hbel5⟩ := hrel
      by_cases hlt : j < N
      · rcases HR5.out with h | ⟨b, off, rfl, hc⟩
        · exact absurd hlt (by rw [HNR.out, h]; simp)
        obtain ⟨q, hq⟩ : ∃ q, N - 1 - j = q := ⟨_, rfl⟩
        have hqi : (N : Int) - 1 - (j : Int) = (q : Int) := by omega
        have hqN : q < N := by omega
        have h0 := cell_old hbel5 (hc q (by rw [← HNR.out]; exact hqN)).1
        have h1 := cell_old hbel5 (hc q (by rw [← HNR.out]; exact hqN)).2
        obtain ⟨X, hX⟩ : ∃ X : Int, ca R q = X := ⟨_, rfl⟩
        obtain ⟨Y, hY⟩ : ∃ Y : Int, cb R q = Y := ⟨_, rfl⟩
        rw [hX] at h0
        rw [hY] at h1
        have Hs : Hid (R.reverse.take (j + 1) = R.reverse.take j ++ [(X, Y)]) := Lib.hid (by rw [rev_step R N j HNR.out hlt, hq, hX, hY])
        have hq0 : (0 : Int) ≤ q := by omega
        have hq2 : (q : Int) < N := by omega
        have Hq : Hid ((q : Int) - 1 = (N : Int) - 1 - ((j + 1 : Nat) : Int)) := Lib.hid (by omega)
        rw [hqi]
        clear hX hY hq hc hqi
        have hsz5 := hbel5.size
        go_wp2_with (at_builtin; refine wpList_append_own _ rfl _ _ 24 rfl w5.heap.size 35 i0 (.agg #[.int .i64 0, .int .i64 0]) 2 16 Tryd.underlying24 hi iz0 iz1 iz2 rfl (by decide) _ _ _ rfl (Hor.out.alloc _) ⟨wr.heap.size, 0, none⟩ 1 1 [.int .i64 X, .int .i64 Y] rfl rfl ?c1 ?c2 ?c3 ?c4 ?c5 ?_)
        case c1 => exact World.news_of_block (cs := #[.int .i64 X, .int .i64 Y]) (t := 35) (fr := (0, 0)) (heap_alloc_new _ _)
        case c2 => intro u hu; simp at hu; rcases hu with rfl | rfl <;> rfl
        case c3 => unfold maxLen; omega
        case c4 => omega
        case c5 => simp; omega
        intro v' w8 hown' hgr _
        obtain ⟨G2, c2, hv2⟩ := found_shape hown'
        rw [hv2] at hown' ⊢
        have Hown := Lib.hid hown'
        have Hbel := Lib.hid ((hbel5.alloc hsz5 _).grown hgr (by simp; omega) (fun b hb => (Hor.out.lt b hb).1))
        clear hown' hgr Hor hbel5 hv2
        go_wp2_with fail
        go_roundw
        case rel => exact ⟨j + 1, G2, c2, by omega, by rw [← Hq.out], rfl, by rw [Hs.out, cs_append]; exact Hown, Hbel.out⟩
        case measure => first | (simp [intOf]; done) | (simp [intOf]; omega)
      · obtain rfl : j = N := by omega
        have hk0 : ¬ ((j : Int) - 1 - (j : Int) ≥ 0) := by omega
        have Hor2 : Hid (wr.ownsRow w5.heap.size 35 2 (.slice G j c) (j + 0) (cs (R.reverse ++ (R.take 1).tail))) := Lib.hid (by
          have e : (R.take 1).tail = [] := by cases R <;> rfl
          have h := Hor.out
          rw [List.take_of_length_le (by rw [List.length_reverse, ← HNR.out]; exact Nat.le_refl _)] at h
          rw [e, List.append_nil]; exact h)
        have Hb5' := Lib.hid hbel5
        clear Hor hbel5
        go_wp2_with fail
        go_loopw [7, 9] (fun v i wr => ∃ (p m : Nat) (G : Option Addr) (c : Nat), 1 ≤ p ∧ (p ≤ j ∨ p = 1) ∧ i = .int .i64 p ∧ v = .slice G m c ∧ m ≤ 20 ∧ Hid (m = j + (p - 1)) ∧ Hid (wr.ownsRow w5.heap.size 35 2 (.slice G m c) m (cs (R.reverse ++ (R.take p).tail))) ∧ Below w5.heap.size w5 wr) (fun _ i _ => 12 - (intOf i).toNat)
        case atStart => exact ⟨1, j, G, c, Nat.le_refl _, .inr rfl, rfl, rfl, by omega, Lib.hid rfl, Hor2, Hb5'.out⟩
        case round =>
          clear Hor2 Hb5'
          obtain ⟨p, m, G, c, hp1, hp2, rfl, rfl, hm, Hm, Hor, hbel5⟩ := hrel
          by_cases hlp : p < j
          · rcases HR5.out with h | ⟨b, off, rfl, hc⟩
            · exact absurd hlp (by rw [HNR.out, h]; simp)
            have h0 := cell_old hbel5 (hc p (by rw [← HNR.out]; exact hlp)).1
            have h1 := cell_old hbel5 (hc p (by rw [← HNR.out]; exact hlp)).2
            obtain ⟨X, hX⟩ : ∃ X : Int, ca R p = X := ⟨_, rfl⟩
            obtain ⟨Y, hY⟩ : ∃ Y : Int, cb R p = Y := ⟨_, rfl⟩
            rw [hX] at h0
            rw [hY] at h1
            have Hs : Hid ((R.take (p + 1)).tail = (R.take p).tail ++ [(X, Y)]) := Lib.hid (by rw [tail_step R p hp1 (by rw [← HNR.out]; exact hlp), hX, hY])
            have hp0 : (0 : Int) ≤ p := by omega
            have hp3 : (p : Int) < j := by omega
            have Hm2 : Hid (m + 1 = j + (p + 1 - 1)) := Lib.hid (by rw [Hm.out]; omega)
            have hm2 : m + 1 ≤ 20 := by have := Hm.out; omega
            clear hX hY hc
            have hsz5 := hbel5.size
            go_wp2_with (at_builtin; refine wpList_append_own _ rfl _ _ 24 rfl w5.heap.size 35 i0 (.agg #[.int .i64 0, .int .i64 0]) 2 16 Tryd.underlying24 hi iz0 iz1 iz2 rfl (by decide) _ _ _ rfl (Hor.out.alloc _) ⟨wr.heap.size, 0, none⟩ 1 1 [.int .i64 X, .int .i64 Y] rfl rfl ?c1 ?c2 ?c3 ?c4 ?c5 ?_)
            case c1 => exact World.news_of_block (cs := #[.int .i64 X, .int .i64 Y]) (t := 35) (fr := (0, 0)) (heap_alloc_new _ _)
            case c2 => intro u hu; simp at hu; rcases hu with rfl | rfl <;> rfl
            case c3 => unfold maxLen; omega
            case c4 => omega
            case c5 => simp; omega
            intro v' w8 hown' hgr _
            obtain ⟨G2, c2, hv2⟩ := found_shape hown'
            rw [hv2] at hown' ⊢
            have Hown := Lib.hid hown'
            have Hbel := Lib.hid ((hbel5.alloc hsz5 _).grown hgr (by simp; omega) (fun b hb => (Hor.out.lt b hb).1))
            clear hown' hgr Hor hbel5 hv2
            go_wp2_with fail
            go_roundw
            case rel => exact ⟨p + 1, m + 1, G2, c2, by omega, .inl (by omega), by go_num, rfl, hm2, Hm2, by rw [Hs.out, ← List.append_assoc, cs_append]; exact Hown, Hbel.out⟩
            case measure => simp [intOf]; omega
          · have hp4 : ¬ ((p : Int) < (j : Int)) := by omega
            have Hfin : Hid (wr.ownsRow w.heap.size 35 2 (.slice G m c) (tpR (F : Int) l).length (cs (tpR (F : Int) l))) := Lib.hid (by
              have e : (R.take p).tail = R.tail := by
                rcases hp2 with h | h
                · rw [List.take_of_length_le (by rw [← HNR.out]; omega)]
                · subst h
                  have hl : R.length ≤ 1 := by rw [← HNR.out]; omega
                  rw [List.take_of_length_le hl]
              have h := Hor.out
              have hl := h.1
              rw [e] at h hl
              rw [Hy.out]
              have e2 : m = (R.reverse ++ R.tail).length := by rw [cs_length] at hl; omega
              rw [← e2]
              exact own_base Hw5.out h)
            have Hbf := Lib.hid (Hb5.out.trans (hbel5.mono Hw5.out))
            go_wp2_with fail
            go_ret2
            exact ⟨_, rfl, Hfin.out, Hbf.out⟩

end Go.Proofs.YtibjapfaljeclaaDoor
