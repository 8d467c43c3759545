/- NeedlessClaims, the model's way. -/
import Derived.Test.YtaangjidkkpogaaNcI
namespace Go.Proofs.Ytaangjidkkpogaa
open Go.ChangeShapes Go.WideShapes Go.ChangeAt Go.RowKit
set_option linter.unusedVariables false


set_option maxHeartbeats 3200000 in
set_option maxRecDepth 20000 in
theorem specNC_pos (w : World) (f : Int) (b off cap : Nat) (l : List Snd) (n : Nat) (Hn : Hid (n = l.length)) (hn : n ≤ 1048576) (hcap : n ≤ cap) (hcl : clB f l = true) (hc : SendsAt w (some ⟨b, off, none⟩) l) (hc3 : Hid (∀ i, i < n → Sat3 w b off l i)) :
    Calls Try.prog 33 #[.int .i64 f, .slice (some ⟨b, off, none⟩) n cap] w fun e w' => ∃ v, e = .returned (.tuple #[v, .bool true]) ∧ w'.ownsRow w.heap.size 3 1 v (ndK f l n).length (ns (ndK f l n)) ∧ Below w.heap.size w w' := by
  obtain ⟨i3, hi3, hz30, hz31, hz32⟩ := info_parts info3
  obtain ⟨i0, hi, hz0, hz1, hz2⟩ := info_parts infoCL
  have HG := Lib.hid (liGood_any w f (some ⟨b, off, none⟩) cap l n Hn hn hc)
  rw [hcl] at HG
  have HX := Lib.hid (fun w1 hw => liAll_any w1 f (some ⟨b, off, none⟩) cap l n Hn hn hcap (hc.kept hw) hcl)
  have hn20 : n ≤ 20 := by rw [Hn.out]; exact (cl_parts hcl).2.1
  have Hcl := Lib.hid hcl
  obtain ⟨R, hR⟩ : ∃ R, ndK f l = R := ⟨_, rfl⟩
  have HR0 : Hid (R 0 = []) := Lib.hid (by rw [← hR]; rfl)
  have HRs : Hid (∀ k, R (k + 1) = if (fitB f (less l k)).length = (fitB f l).length then R k ++ [(k : Int)] else R k) := Lib.hid (fun k => by rw [← hR]; rfl)
  have HRl : Hid (∀ k, (R k).length ≤ k) := Lib.hid (fun k => by rw [← hR]; exact ndK_len f l k)
  rw [hR]
  clear hcl hc hR
  go_enter Try.func33, Try.ntmps33
  go_wp2_with fail
  refine HG.out.mono ?_
  rintro e w0 ⟨rfl, hb0⟩
  have Hb0 := Lib.hid hb0
  clear hb0
  go_wp2_with fail
  refine (HX.out _ Hb0.out).mono ?_
  rintro e w1 ⟨ao0, M, cap0, HM, rfl, own1, hb1⟩
  have Hb1 := Lib.hid (Hb0.out.trans (hb1.mono Hb0.out.size))
  obtain ⟨H1, hH1⟩ : ∃ H1, w1.heap.size = H1 := ⟨_, rfl⟩
  have HH1 := Lib.hid hH1
  have hHw : w.heap.size ≤ H1 := by have := Hb1.out.size; omega
  clear own1 hb1 hH1
  go_wp2_with fail
  go_loopw [6, 20] (fun v i wr => ∃ k K : Nat, k ≤ n ∧ i = .int .i64 k ∧ Hid (K = (R k).length) ∧ wr.ownsRow H1 3 1 v K (ns (R k)) ∧ Below H1 w1 wr) (fun _ i _ => n - (intOf i).toNat)
  case atStart => exact ⟨0, 0, Nat.zero_le _, rfl, Lib.hid (by rw [HR0.out]; rfl), by rw [HR0.out]; exact World.ownsRow_nil _ _ _ _, by rw [← HH1.out]; exact Below.refl _ _⟩
  case round =>
    obtain ⟨k, K, hk, rfl, HK, hor, hbel⟩ := hrel
    have hKk : K ≤ k := by rw [HK.out]; exact HRl.out k
    have Hbw := Lib.hid (Hb1.out.trans (hbel.mono hHw))
    by_cases hlt : k < n
    · have hkl : k < l.length := by rw [← Hn.out]; exact hlt
      have hsz : H1 ≤ wr.heap.size := by have := hbel.size; have := HH1.out; omega
      have hki : (k : Int) ≤ n := by omega
      have hk0 : (0 : Int) ≤ k := by omega
      have hkc : (k : Int) ≤ (cap : Int) := by omega
      have hk3 : (0 : Int) ≤ (k : Int) + 1 := by omega
      have hk4 : (k : Int) + 1 ≤ (n : Int) := by omega
      have hk5 : (n : Int) ≤ (cap : Int) := by omega
      have hw1 : IntKind.i64.wrap ((k : Int) + 1) = (k : Int) + 1 := IntWalk.i64_in _ (by omega)
      have hw2 : ((k : Int) + 1).toNat = k + 1 := by omega
      obtain ⟨off2, hif, hoff⟩ := tail_at b off cap n k hcap hlt
      have HN1 : Hid (∀ w', Below wr.heap.size wr w' → ∀ j u, (ss (l.take k))[j]? = some u → w'.cell? ((⟨b, off, none⟩ : Addr).add j) = some u) := Lib.hid (fun w' hb => sends_news fun i hi => by
        have hi2 := hi
        rw [List.length_take] at hi2
        exact (((hc3.out i (by omega)).kept Hbw.out).kept hb).take (by omega))
      have HN2 : Hid (∀ w', Below wr.heap.size wr w' → ∀ j u, (ss (l.drop (k + 1)))[j]? = some u → w'.cell? ((⟨b, off2, none⟩ : Addr).add j) = some u) := Lib.hid (fun w' hb => sends_news (tail_cells Hn.out hoff (fun i hi => ((hc3.out i hi).kept Hbw.out).kept hb)))
      have HL1 : Hid ((ss (l.take k)).length = k * 3) := Lib.hid (by rw [ss_length, List.length_take, ← Hn.out]; omega)
      have HL2 : Hid ((ss (l.drop (k + 1))).length = (n - (k + 1)) * 3) := Lib.hid (by rw [ss_length, List.length_drop, ← Hn.out])
      have HB0 : Hid (∀ o, Below wr.heap.size wr (wr.alloc o).drew) := fun o => ((Below.refl _ _).alloc (Nat.le_refl _) _).drew
      have HO0 : Hid ((wr.alloc (.cells #[] 47)).drew.ownsRow wr.heap.size 47 3 (.slice (some ⟨wr.heap.size, 0, none⟩) 0 0) 0 []) := (World.ownsRow_lit wr #[] 0 (Nat.le_refl _) (by unfold maxLen; omega) rfl).drew
      have Hor := Lib.hid hor
      have Hbel := Lib.hid hbel
      have Hless : Hid ((less l k).length = 0 + k + (n - (k + 1)) ∧ ss (less l k) = [] ++ ss (l.take k) ++ ss (l.drop (k + 1)) ∧ (less l k).length = n - 1) := Lib.hid ⟨by rw [less_len hkl, ← Hn.out]; omega, by simp [less, ss_append], by rw [less_len hkl, ← Hn.out]⟩
      have HRk := Lib.hid (HRs.out k)
      have HCF := Lib.hid (fun W a4 c4 m (hm : m = n - 1) (hcm : m ≤ c4) (h : SendsAt W a4 (less l k)) => liAll_any W f a4 c4 (less l k) m (Lib.hid (by rw [hm, less_len hkl, ← Hn.out])) (by omega) hcm h (less_cl Hcl.out k))
      obtain ⟨G, hG⟩ : ∃ G, fitB f (less l k) = G := ⟨_, rfl⟩
      rw [hG] at HCF HRk
      clear hor hbel hoff hG
      go_upto_region 8 with (fail)
      go_region_held3 (fun w' => Below wr.heap.size wr w')
        (first | exact (Below.refl _ _).drew | exact (HB0.out _) | assumption | go_keep)
        (first
          | (refine step_append_mine _ (by rfl) _ _ _ (by rfl) wr.heap.size 47 i0 _ 3 24 Try.underlying25 hi hz0 hz1 hz2 rfl (by omega) _ 0 [] (by rfl) HO0.out ⟨b, off, none⟩ k _ (ss (l.take k)) (by rfl) HL1.out (HN1.out _ (HB0.out _)) (ss_one _) (by unfold maxLen; omega) (by omega) (by simp) ?_
             intro v1 w11 own11 gr11
             have hb11 : Below wr.heap.size wr w11 := (HB0.out _).grown gr11 (by simp) (by intro b hb; cases hb; exact Nat.le_refl _))
          | (refine step_append_mine _ (by rfl) _ _ _ (by rfl) wr.heap.size 47 i0 _ 3 24 Try.underlying25 hi hz0 hz1 hz2 rfl (by omega) _ _ _ (by rfl) own11 ⟨b, off2, none⟩ (n - (k + 1)) _ (ss (l.drop (k + 1))) (by rfl) HL2.out (HN2.out _ hb11) (ss_one _) (by unfold maxLen; omega) (by omega) hb11.size ?_
             intro v2 w2 own2 gr2
             have hb2 : Below wr.heap.size wr w2 := hb11.grown gr2 hb11.size (fun b hb => (own11.lt b hb).1))
          | fail)
      all_goals (
        have hl0 : 0 + k + (n - (k + 1)) = n - 1 := by omega
        rw [← Hless.out.2.1, hl0] at own2
        obtain ⟨a4, c4, rfl, hat, _, _⟩ := sown_shape own2 Hless.out.2.2.symm
        have hc4 := own_cap3 own2
        have Hat := Lib.hid hat
        have Hba := Lib.hid (Hbel.out.trans (hb2.mono hsz))
        have Hora := Lib.hid (own_later Hor.out hb2)
        have hsa : H1 ≤ w2.heap.size := Nat.le_trans hsz hb2.size
        clear hw1 hw2 hif own11 gr11 hb11 own2 gr2 hb2 hat HN1 HN2
        go_wp2_with fail
        refine (HCF.out w2 a4 c4 (n - 1) rfl hc4 Hat.out).mono ?_
        rintro e w5 ⟨ao5, M5, cap5, HM5, rfl, own5, hb5⟩
        have Ho5 := Lib.hid (own_later Hora.out hb5)
        have Hb5 := Lib.hid (Hba.out.trans (hb5.mono hsa))
        have hs5 : H1 ≤ w5.heap.size := Nat.le_trans hsa hb5.size
        clear own5 hb5
        by_cases he : G.length = (fitB f l).length
        · have hMM : ((M5 : Int) == (M : Int)) = true := by have h1 := HM5.out; have h2 := HM.out; simp; omega
          have hR := HRk.out
          rw [if_pos he] at hR
          have HR1 := Lib.hid hR
          have Ho6 := Lib.hid (Ho5.out.alloc (.cells #[.int .i64 (k : Int)] 3))
          have Hb6 := Lib.hid (Hb5.out.alloc hs5 (.cells #[.int .i64 (k : Int)] 3))
          have hszW : (w5.alloc (.cells #[.int .i64 (k : Int)] 3)).heap.size = w5.heap.size + 1 := by simp
          have Hck : Hid ((w5.alloc (.cells #[.int .i64 (k : Int)] 3)).cell? ⟨w5.heap.size, 0, none⟩ = some (.int .i64 (k : Int))) := Lib.hid (by rw [cell_of_row _ _ _ _ _ _ (heap_alloc_new w5 _)]; rfl)
          clear he hR HM5
          go_wp2_with (at_builtin; refine push_num _ rfl _ _ 39 rfl H1 i3 Try.underlying39 hi3 hz30 hz31 hz32 _ (R k) K rfl Ho6.out (by omega) (k : Int) 1 w5.heap.size rfl Hck.out (by rw [hszW]; omega) ?_)
          intro g9 c9 w9 own9 hgr9 _
          have Ho9 : Hid (w9.ownsRow H1 3 1 (.slice (some ⟨g9, 0, none⟩) (K + 1) c9) (K + 1) (ns (R (k + 1)))) := Lib.hid (by rw [HR1.out]; exact own9)
          have Hb9 := Lib.hid (Hb6.out.grown hgr9 (by rw [hszW]; omega) (fun bb hb => (Ho6.out.lt bb hb).1))
          clear own9 hgr9
          go_wp2_with fail
          go_roundw
          case rel => exact ⟨k + 1, K + 1, by omega, by go_num, Lib.hid (by rw [HR1.out, List.length_append, ← HK.out]; rfl), Ho9.out, Hb9.out⟩
          case measure => simp [intOf]; omega
        · have hMM : ((M5 : Int) == (M : Int)) = false := by have h1 := HM5.out; have h2 := HM.out; simp; omega
          have hR := HRk.out
          rw [if_neg he] at hR
          have HR1 := Lib.hid hR
          clear he hR HM5
          go_wp2_with fail
          go_roundw
          case rel => exact ⟨k + 1, K, by omega, by go_num, Lib.hid (by rw [HR1.out, ← HK.out]), by rw [HR1.out]; exact Ho5.out, Hb5.out⟩
          case measure => simp [intOf]; omega)
    · have hkn : n = k := by omega
      subst hkn
      have Hor : Hid (wr.ownsRow w.heap.size 3 1 u6 (R n).length (ns (R n))) := Lib.hid (by have h := own_base hor hHw; rw [HK.out] at h; exact h)
      clear hor
      go_wp2_with fail
      go_ret2
      exact ⟨_, rfl, Hor.out, Hbw.out⟩
theorem specNC_any (w : World) (f : Int) (ao : Option Addr) (cap : Nat) (l : List Snd) (n : Nat) (Hn : Hid (n = l.length)) (hn : n ≤ 1048576) (hcap : n ≤ cap) (hc : SendsAt w ao l) :
    Calls Try.prog 33 #[.int .i64 f, .slice ao n cap] w fun e w' => ∃ v, e = .returned (.tuple #[v, .bool (clB f l)]) ∧ w'.ownsRow w.heap.size 3 1 v (ncR f l).length (ns (ncR f l)) ∧ Below w.heap.size w w' := by
  have HG := Lib.hid (liGood_any w f ao cap l n Hn hn hc)
  cases hcl : clB f l
  · have hr : ncR f l = [] := by unfold ncR; rw [hcl]; rfl
    rw [hr]
    rw [hcl] at HG
    clear hr hc hcl
    go_enter Try.func33, Try.ntmps33
    go_wp2_with fail
    refine HG.out.mono ?_
    rintro e w1 ⟨rfl, hb1⟩
    go_wp2_with fail
    go_ret2
    exact ⟨.slice none 0 0, rfl, World.ownsRow_nil _ _ _ _, hb1⟩
  · have hr : ncR f l = ndK f l n := by unfold ncR; rw [if_pos hcl, ← Hn.out]
    rw [hr]
    by_cases h0 : n = 0
    · subst h0
      have HX := Lib.hid (fun w1 hw => liAll_any w1 f ao cap l 0 Hn hn hcap (hc.kept hw) hcl)
      rw [hcl] at HG
      have hnd : ndK f l 0 = [] := rfl
      rw [hnd]
      clear hr hc hcl hnd
      go_enter Try.func33, Try.ntmps33
      go_wp2_with fail
      refine HG.out.mono ?_
      rintro e w0 ⟨rfl, hb0⟩
      have Hb0 := Lib.hid hb0
      clear hb0
      go_wp2_with fail
      refine (HX.out _ Hb0.out).mono ?_
      rintro e w1 ⟨ao0, M, cap0, HM, rfl, own1, hb1⟩
      have Hb1 := Lib.hid (Hb0.out.trans (hb1.mono Hb0.out.size))
      clear own1 hb1
      go_wp2_with fail
      go_rounds 1
      go_ret2
      exact ⟨.slice none 0 0, rfl, World.ownsRow_nil _ _ _ _, Hb1.out⟩
    · rcases hc with h | ⟨b, off, rfl, hc⟩
      · subst h; exact absurd Hn.out h0
      · exact specNC_pos w f b off cap l n Hn hn hcap hcl (.inr ⟨b, off, rfl, hc⟩) (Lib.hid (by rw [Hn.out]; exact hc))

end Go.Proofs.Ytaangjidkkpogaa
