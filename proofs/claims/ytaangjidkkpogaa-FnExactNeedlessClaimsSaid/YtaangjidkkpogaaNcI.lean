/- NeedlessClaims, the program's way. -/
import Derived.Test.YtaangjidkkpogaaCat
import Derived.Test.YtaangjidkkpogaaInts
namespace Go.Proofs.Ytaangjidkkpogaa
open Go.ChangeShapes Go.WideShapes Go.ChangeAt Go.RowKit
set_option linter.unusedVariables false


/-- One number more. -/
theorem push_num {P : Program} (w : World) {ops : Array Oper} {rest : List Oper} {o : Oper} {a : Act} {Q : Exit → Act → World → Prop} (hgd : o.guard = none) (s x : Operand) (t : TypeId)
    (ho : o.op = .call { callee := .builtin .append, args := #[s, x], argTypes := #[t, t] })
    (base : Nat) (i : TypeInfo) (ht : P.underlying t = some (.slice 3)) (hi : P.info? 3 = some i) (hz : i.zero = some (.int .i64 0))
    (hsize : i.size = 1) (hby : i.bytes = 8)
    (v : Value) (l : List Int) (k : Nat) (hs : a.eval s = v) (hown : w.ownsRow base 3 1 v k (ns l)) (hsml : k ≤ 1000000)
    (r : Int) (c : Nat) (ad : Nat) (hx : a.eval x = .slice (some ⟨ad, 0, none⟩) 1 c) (had : w.cell? ⟨ad, 0, none⟩ = some (.int .i64 r)) (hbase : base ≤ w.heap.size)
    (h : ∀ g cap w', w'.ownsRow base 3 1 (.slice (some ⟨g, 0, none⟩) (k + 1) cap) (k + 1) (ns (l ++ [r])) → w.grownBy w' v.ownBlock → (v.ownBlock = some g ∨ g = w.heap.size) → wpList P ops Q rest (a.put o.dst (.slice (some ⟨g, 0, none⟩) (k + 1) cap)) w') : wpList P ops Q (o :: rest) a w := by
  refine wpList_append_lies w hgd s x t ho base 3 i (.int .i64 0) 1 8 ht hi hz hsize hby rfl (by decide) v k (ns l) hs hown ⟨ad, 0, none⟩ 1 c [.int .i64 r] hx rfl ?_ ?_ (by omega) (by unfold maxLen; omega) (by omega) hbase w.heap.size rfl ?_
  · intro j u hu
    cases j with
    | zero => simp at hu; subst hu; exact had
    | succ j => simp at hu
  · intro u hu
    simp at hu
    subst hu
    rfl
  · intro g cap w' hown' hgr hat _
    exact h g cap w' (by rw [ns_append]; exact hown') hgr hat
def two (a b : Nat) : Nat → Nat
  | 0 => a
  | _ + 1 => b
theorem concat_less (w : World) (a b off off2 c1 c2 n k : Nat) (l : List Snd) (Hn : Hid (n = l.length)) (hk : k < n) (hn : n ≤ 20)
    (h0 : w.cell? ⟨a, 0, none⟩ = some (.slice (some ⟨b, off, none⟩) k c1)) (h1 : w.cell? ⟨a, 1, none⟩ = some (.slice (some ⟨b, off2, none⟩) (n - (k + 1)) c2))
    (hc : ∀ i, i < n → Sat3 w b off l i) (hoff : n - (k + 1) = 0 ∨ off2 = off + (k + 1) * 3) :
    Calls Try.prog 60 #[.slice (some ⟨a, 0, none⟩) 2 2] w fun e w' => ∃ a4 c4, e = .returned (.slice a4 (n - 1) c4) ∧ SendsAt w' a4 (less l k) ∧ Below w.heap.size w w' := by
  have hn2 := Hn.out
  refine (concat_any w a b 2 (l.take k) (l.drop (k + 1)) (two off off2) (two k (n - (k + 1))) (two c1 c2) (Nat.le_refl _) ?_ ?_ ?_).mono ?_
  · intro q hq
    obtain rfl | rfl : q = 0 ∨ q = 1 := by omega
    · exact ⟨by show k = (l.take k).length; rw [List.length_take]; omega, by show k ≤ 20; omega⟩
    · exact ⟨by show n - (k + 1) = (l.drop (k + 1)).length; rw [List.length_drop]; omega, by show n - (k + 1) ≤ 20; omega⟩
  · intro q hq
    obtain rfl | rfl : q = 0 ∨ q = 1 := by omega
    · exact h0
    · exact h1
  · intro q hq
    obtain rfl | rfl : q = 0 ∨ q = 1 := by omega
    · intro i hi
      have hi2 : i < (l.take k).length := hi
      rw [List.length_take] at hi2
      exact (hc i (by omega)).take (by omega)
    · exact tail_cells hn2 hoff hc
  · rintro e w' ⟨v, rfl, own, hb⟩
    have hl : (l.take k ++ l.drop (k + 1)).length = n - 1 := by rw [show l.take k ++ l.drop (k + 1) = less l k from rfl, less_len (by omega)]; omega
    rw [hl] at own
    obtain ⟨a4, c4, rfl, hat, _, _⟩ := sown_shape own hl.symm
    exact ⟨a4, c4, rfl, hat, hb⟩

set_option maxHeartbeats 3200000 in
set_option maxRecDepth 20000 in
theorem implNC_pos (w : World) (f : Int) (b off cap : Nat) (l : List Snd) (n : Nat) (Hn : Hid (n = l.length)) (hn : n ≤ 1048576) (hcap : n ≤ cap) (hcl : clB f l = true) (hc : SendsAt w (some ⟨b, off, none⟩) l) (hc3 : Hid (∀ i, i < n → Sat3 w b off l i)) :
    Calls Try.prog 34 #[.int .i64 f, .slice (some ⟨b, off, none⟩) n cap] w fun e w' => ∃ v, e = .returned (.tuple #[v, .bool true]) ∧ w'.ownsRow w.heap.size 3 1 v (ndK f l n).length (ns (ndK f l n)) ∧ Below w.heap.size w w' := by
  obtain ⟨i3, hi3, hz30, hz31, hz32⟩ := info_parts info3
  have HX := Lib.hid (implCF_any w f (some ⟨b, off, none⟩) cap l n Hn hn hc)
  rw [hcl] at HX
  have hn20 : n ≤ 20 := by rw [Hn.out]; exact (cl_parts hcl).2.1
  have Hcl := Lib.hid hcl
  have hlen8 := fitB_len f l
  obtain ⟨R, hR⟩ : ∃ R, ndK f l = R := ⟨_, rfl⟩
  have HR0 : Hid (R 0 = []) := Lib.hid (by rw [← hR]; rfl)
  have HRs : Hid (∀ k, R (k + 1) = if (fitB f (less l k)).length = (fitB f l).length then R k ++ [(k : Int)] else R k) := Lib.hid (fun k => by rw [← hR]; rfl)
  have HRl : Hid (∀ k, (R k).length ≤ k) := Lib.hid (fun k => by rw [← hR]; exact ndK_len f l k)
  rw [hR]
  clear hcl hc hR
  go_enter Try.func34, Try.ntmps34
  go_wp2_with fail
  refine HX.out.mono ?_
  rintro e w1 ⟨v0, M, HM, rfl, own1, hb1⟩
  obtain ⟨ao0, cap0, rfl, _, _, _⟩ := strs_shape own1 (by rw [tc_len]; exact HM.out)
  have Own1 := Lib.hid own1
  have Hb1 := Lib.hid hb1
  obtain ⟨H1, hH1⟩ : ∃ H1, w1.heap.size = H1 := ⟨_, rfl⟩
  have HH1 := Lib.hid hH1
  have hHw : w.heap.size ≤ H1 := by have := hb1.size; omega
  clear own1 hb1 hH1
  go_wp2_with fail
  go_loopw [8, 22] (fun v i wr => ∃ k K : Nat, k ≤ n ∧ i = .int .i64 k ∧ Hid (K = (R k).length) ∧ wr.ownsRow H1 3 1 v K (ns (R k)) ∧ Below H1 w1 wr) (fun _ i _ => n - (intOf i).toNat)
  case atStart => exact ⟨0, 0, Nat.zero_le _, rfl, Lib.hid (by rw [HR0.out]; rfl), by rw [HR0.out]; exact World.ownsRow_nil _ _ _ _, by rw [← HH1.out]; exact Below.refl _ _⟩
  case round =>
    obtain ⟨k, K, hk, rfl, HK, hor, hbel⟩ := hrel
    have hKk : K ≤ k := by rw [HK.out]; exact HRl.out k
    have Hbw := Lib.hid (Hb1.out.trans (hbel.mono hHw))
    by_cases hlt : k < n
    · have hkl : k < l.length := by rw [← Hn.out]; exact hlt
      have hsz : H1 ≤ wr.heap.size := by have := hbel.size; have := HH1.out; omega
      have hki : (k : Int) < n := by omega
      have hk0 : (0 : Int) ≤ k := by omega
      have hkc : (k : Int) ≤ (cap : Int) := by omega
      have hk3 : (0 : Int) ≤ (k : Int) + 1 := by omega
      have hk4 : (k : Int) + 1 ≤ (n : Int) := by omega
      have hk5 : (n : Int) ≤ (cap : Int) := by omega
      have hw1 : IntKind.i64.wrap ((k : Int) + 1) = (k : Int) + 1 := IntWalk.i64_in _ (by omega)
      have hw2 : ((k : Int) + 1).toNat = k + 1 := by omega
      obtain ⟨off2, hif, hoff⟩ := tail_at b off cap n k hcap hlt
      have h10 : (wr.alloc (.cells #[.slice (some ⟨b, off, none⟩) k cap, .slice (some ⟨b, off2, none⟩) (n - (k + 1)) (cap - (k + 1))] 25)).drew.cell? ⟨wr.heap.size, 0, none⟩ = some (.slice (some ⟨b, off, none⟩) k cap) := by
        show (wr.alloc _).cell? _ = _
        rw [cell_of_row _ _ _ _ _ _ (heap_alloc_new wr _)]; rfl
      have h11 : (wr.alloc (.cells #[.slice (some ⟨b, off, none⟩) k cap, .slice (some ⟨b, off2, none⟩) (n - (k + 1)) (cap - (k + 1))] 25)).drew.cell? ⟨wr.heap.size, 1, none⟩ = some (.slice (some ⟨b, off2, none⟩) (n - (k + 1)) (cap - (k + 1))) := by
        show (wr.alloc _).cell? _ = _
        rw [cell_of_row _ _ _ _ _ _ (heap_alloc_new wr _)]; rfl
      have bd : Below wr.heap.size wr (wr.alloc (.cells #[.slice (some ⟨b, off, none⟩) k cap, .slice (some ⟨b, off2, none⟩) (n - (k + 1)) (cap - (k + 1))] 25)).drew := ((Below.refl _ _).alloc (Nat.le_refl _) _).drew
      have HCC := Lib.hid (concat_less _ wr.heap.size b off off2 cap (cap - (k + 1)) n k l Hn hlt hn20 h10 h11 (fun i hi => ((hc3.out i hi).kept Hbw.out).kept bd) hoff)
      have Hba := Lib.hid (hbel.trans (bd.mono hsz))
      have Hora := Lib.hid (own_later hor bd)
      have hsa := Hba.out.size
      have HCF := Lib.hid (fun W a4 c4 (h : SendsAt W a4 (less l k)) => implCF_any W f a4 c4 (less l k) (n - 1) (Lib.hid (by rw [less_len hkl, ← Hn.out])) (by omega) h)
      rw [less_cl Hcl.out k] at HCF
      have HRk := Lib.hid (HRs.out k)
      have HSame := Lib.hid (less_same Hcl.out hkl)
      obtain ⟨G, hG⟩ : ∃ G, fitB f (less l k) = G := ⟨_, rfl⟩
      have hGl := fitB_len f (less l k)
      rw [hG] at HCF HRk HSame hGl
      have hsa2 : H1 ≤ ((wr.alloc (.cells #[.slice (some ⟨b, off, none⟩) k cap, .slice (some ⟨b, off2, none⟩) (n - (k + 1)) (cap - (k + 1))] 25)).drew).heap.size := by have := HH1.out; omega
      clear hor hbel h10 h11 bd hoff hG
      go_upto_region 8 with (fail)
      go_region_with (first
        | (go_at_call 60; refine HCC.out.mono ?_; rintro e w4 ⟨a4, c4, rfl, hw4, hb4⟩; have Hw4 := Lib.hid hw4; have Hb4 := Lib.hid (Hba.out.trans (hb4.mono hsa2)); have Ho4 := Lib.hid (own_later Hora.out hb4); have hs4 : H1 ≤ w4.heap.size := Nat.le_trans hsa2 hb4.size; clear hw4 hb4)
        | (go_at_call 46; refine (HCF.out w4 a4 c4 Hw4.out).mono ?_; rintro e w5 ⟨v5, M5, HM5, rfl, own5, hb5⟩; have Own5 := Lib.hid own5; have Hb5 := Lib.hid (Hb4.out.trans (hb5.mono hs4)); have Ho5 := Lib.hid (own_later Ho4.out hb5); have hs5 : H1 ≤ w5.heap.size := Nat.le_trans hs4 hb5.size; clear own5 hb5)
        | fail)
      all_goals (
        clear hw1 hw2 hif
        obtain ⟨ao5, cap5, rfl, _, _, _⟩ := strs_shape Own5.out (by rw [tc_len]; exact HM5.out)
        have Own0 : Hid (w5.ownsRow w.heap.size 60 1 (.slice ao0 M cap0) M (ts (tc (fitB f l)))) := Lib.hid (own_later Own1.out (Hb5.out.mono (by rw [HH1.out]; exact Nat.le_refl _)))
        by_cases he : G.length = (fitB f l).length
        · have HE := Lib.hid (HSame.out he)
          have hMM : M5 = M := by rw [HM5.out, HM.out]; exact he
          have hR := HRk.out
          rw [if_pos he] at hR
          have HR1 := Lib.hid hR
          have Own5b := Own5
          rw [HE.out, hMM] at Own5b
          have HEq := Lib.hid (eqC_same _ _ (tc (fitB f l)) M w5 (by rw [tc_len]; exact HM.out) (by have := HM.out; omega) Own5b.out Own0.out)
          rw [← hMM] at HEq
          have HEq2 : Hid (Calls Try.prog 61 #[.slice ao5 M5 cap5, .slice ao0 M cap0] w5 fun e w' => e = .returned (.bool true) ∧ Below w5.heap.size w5 w') := by rw [hMM] at HEq ⊢; exact HEq
          clear he hR hMM HEq
          go_wp2_with fail
          refine HEq2.out.mono ?_
          rintro e w6 ⟨rfl, hb6⟩
          have Ho6 := Lib.hid ((own_later Ho5.out hb6).alloc (.cells #[.int .i64 (k : Int)] 3))
          have hs6 : H1 ≤ w6.heap.size := Nat.le_trans hs5 hb6.size
          have Hb6 := Lib.hid ((Hb5.out.trans (hb6.mono hs5)).alloc hs6 (.cells #[.int .i64 (k : Int)] 3))
          have hszW : (w6.alloc (.cells #[.int .i64 (k : Int)] 3)).heap.size = w6.heap.size + 1 := by simp
          have Hck : Hid ((w6.alloc (.cells #[.int .i64 (k : Int)] 3)).cell? ⟨w6.heap.size, 0, none⟩ = some (.int .i64 (k : Int))) := Lib.hid (by rw [cell_of_row _ _ _ _ _ _ (heap_alloc_new w6 _)]; rfl)
          clear hb6
          go_wp2_with (at_builtin; refine push_num _ rfl _ _ 39 rfl H1 i3 Try.underlying39 hi3 hz30 hz31 hz32 _ (R k) K rfl Ho6.out (by omega) (k : Int) 1 w6.heap.size rfl Hck.out (by rw [hszW]; omega) ?_)
          intro g9 c9 w9 own9 hgr9 _
          have Ho9 : Hid (w9.ownsRow H1 3 1 (.slice (some ⟨g9, 0, none⟩) (K + 1) c9) (K + 1) (ns (R (k + 1)))) := Lib.hid (by rw [HR1.out]; exact own9)
          have Hb9 := Lib.hid (Hb6.out.grown hgr9 (by rw [hszW]; omega) (fun bb hb => (Ho6.out.lt bb hb).1))
          clear own9 hgr9
          go_wp2_with fail
          go_roundw
          case rel => exact ⟨k + 1, K + 1, by omega, by go_num, Lib.hid (by rw [HR1.out, List.length_append, ← HK.out]; rfl), Ho9.out, Hb9.out⟩
          case measure => simp [intOf]; omega
        · have hne : M5 ≠ M := by rw [HM5.out, HM.out]; exact he
          have hR := HRk.out
          rw [if_neg he] at hR
          have HR1 := Lib.hid hR
          have HEq := Lib.hid (eqC_len ao5 ao0 M5 M cap5 cap0 w5 hne)
          clear he hR hne
          go_wp2_with fail
          refine HEq.out.mono ?_
          rintro e w6 ⟨rfl, hb6⟩
          have Ho6 := Lib.hid (own_later Ho5.out hb6)
          have Hb6 := Lib.hid (Hb5.out.trans (hb6.mono hs5))
          clear hb6
          go_wp2_with fail
          go_roundw
          case rel => exact ⟨k + 1, K, by omega, by go_num, Lib.hid (by rw [HR1.out, ← HK.out]), by rw [HR1.out]; exact Ho6.out, Hb6.out⟩
          case measure => simp [intOf]; omega)
    · have hkn : n = k := by omega
      subst hkn
      have Hor : Hid (wr.ownsRow w.heap.size 3 1 u8 (R n).length (ns (R n))) := Lib.hid (by have h := own_base hor hHw; rw [HK.out] at h; exact h)
      clear hor
      go_wp2_with fail
      go_ret2
      exact ⟨_, rfl, Hor.out, Hbw.out⟩
theorem implNC_any (w : World) (f : Int) (ao : Option Addr) (cap : Nat) (l : List Snd) (n : Nat) (Hn : Hid (n = l.length)) (hn : n ≤ 1048576) (hcap : n ≤ cap) (hc : SendsAt w ao l) :
    Calls Try.prog 34 #[.int .i64 f, .slice ao n cap] w fun e w' => ∃ v, e = .returned (.tuple #[v, .bool (clB f l)]) ∧ w'.ownsRow w.heap.size 3 1 v (ncR f l).length (ns (ncR f l)) ∧ Below w.heap.size w w' := by
  have HX := Lib.hid (implCF_any w f ao cap l n Hn hn hc)
  cases hcl : clB f l
  · have hr : ncR f l = [] := by unfold ncR; rw [hcl]; rfl
    rw [hr]
    rw [hcl] at HX
    clear hr hc hcl
    go_enter Try.func34, Try.ntmps34
    go_wp2_with fail
    refine HX.out.mono ?_
    rintro e w1 ⟨v0, M, HM, rfl, own1, hb1⟩
    clear own1
    go_wp2_with fail
    go_ret2
    exact ⟨.slice none 0 0, rfl, World.ownsRow_nil _ _ _ _, hb1⟩
  · have hr : ncR f l = ndK f l n := by unfold ncR; rw [if_pos hcl, ← Hn.out]
    rw [hr]
    by_cases h0 : n = 0
    · subst h0
      rw [hcl] at HX
      have hnd : ndK f l 0 = [] := rfl
      rw [hnd]
      clear hr hc hcl hnd
      go_enter Try.func34, Try.ntmps34
      go_wp2_with fail
      refine HX.out.mono ?_
      rintro e w1 ⟨v0, M, HM, rfl, own1, hb1⟩
      clear own1
      go_wp2_with fail
      go_rounds 1
      go_ret2
      exact ⟨.slice none 0 0, rfl, World.ownsRow_nil _ _ _ _, hb1⟩
    · rcases hc with h | ⟨b, off, rfl, hc⟩
      · subst h; exact absurd Hn.out h0
      · exact implNC_pos w f b off cap l n Hn hn hcap hcl (.inr ⟨b, off, rfl, hc⟩) (Lib.hid (by rw [Hn.out]; exact hc))

end Go.Proofs.Ytaangjidkkpogaa
