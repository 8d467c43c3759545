/- All groupings: the program. -/
import Derived.Test.YtcedacneagpjcaaAl
namespace Go.Proofs.Ytcedacneagpjcaa
open Go.ChangeShapes Go.WideShapes Go.ChangeAt Go.RowKit
set_option linter.unusedVariables false


theorem groupsOf_zero (ao : Option Addr) (cap : Nat) (w : World) : Calls Try.prog 65 #[.slice ao 0 cap] w fun e w' => e = .returned (.slice none 0 0) ∧ w = w' := by
  go_enter Try.func65, Try.ntmps65
  go_wp2_with fail
  go_rounds 1
  go_ret
  exact ⟨rfl, rfl⟩

theorem good_of {l : List Int} (h : grTo l l.length = true) (h1 : 1 ≤ l.length) (h2 : l.length ≤ 12) : grB l = true := by
  unfold grB; rw [h]; simp; omega

/-- How many groups a list has, by the program. -/
theorem groupsOf_len (base : Nat) (v : Value) (l : List Int) (n : Nat) (w : World) (Hn : Hid (n = l.length)) (hl : n ≤ 12) (h : w.ownsRow base 3 1 v n (ns l)) (Hg : Hid (grTo l l.length = true)) :
    Calls Try.prog 65 #[v] w fun e w' => ∃ ao cap, e = .returned (.slice ao (ngN l) cap) ∧ Below w.heap.size w w' := by
  obtain ⟨ao, cap, rfl, hna⟩ := nums_shape h Hn.out
  by_cases h0 : n = 0
  · subst h0
    obtain rfl : l = [] := List.eq_nil_of_length_eq_zero Hn.out.symm
    refine (groupsOf_zero ao cap w).mono ?_
    rintro e w' ⟨rfl, rfl⟩
    exact ⟨none, 0, rfl, Below.refl _ _⟩
  · have hg := good_of Hg.out (by rw [← Hn.out]; omega) (by rw [← Hn.out]; exact hl)
    refine (groupsOf_any ao cap l n w Hn hg hna).mono ?_
    rintro e w' ⟨v, X, rfl, hO, hb⟩
    obtain ⟨a2, c2, rfl, _⟩ := hO.reads
    have h1 := gl_length l l.length (grB_to hg (Nat.le_refl _))
    rw [show (gl l n).length = ngN l by unfold ngN; rw [Hn.out]; omega]
    exact ⟨a2, c2, rfl, hb⟩

set_option maxHeartbeats 3200000 in
set_option maxRecDepth 20000 in
theorem withOneMore_pos (w : World) (base g0 cap0 : Nat) (XI : List Value) (L : List (List Int)) (N : Nat) (HN : Hid (N = L.length)) (hN : N ≤ 1000) (hg0 : base ≤ g0)
    (HI : Hid (OwnSS w base (.slice (some ⟨g0, 0, none⟩) N cap0) XI L)) (HL : Hid (∀ i, i < N → (row L i).length ≤ 11 ∧ grTo (row L i) (row L i).length = true)) :
    Calls Try.prog 59 #[.slice (some ⟨g0, 0, none⟩) N cap0] w fun e w' => ∃ v X, e = .returned v ∧ OwnSS w' w.heap.size v X (L.flatMap ext) ∧ Below w.heap.size w w' := by
  obtain ⟨i3, hi3, hz30, hz31, hz32⟩ := info_parts info3
  obtain ⟨i22, hi22, hz220, hz221, hz222⟩ := info_parts info22
  have Hfl := Lib.hid (fm_len L (fun i hi => by have := (HL.out i (by rw [HN.out]; exact hi)).1; omega))
  go_enter Try.func59, Try.ntmps59
  go_wp2_with fail
  go_loopw [3, 9] (fun v i wr => ∃ (k : Nat) (X : List Value), k ≤ N ∧ i = .int .i64 k ∧ OwnSS wr w.heap.size v X (fm L k) ∧ Below w.heap.size w wr) (fun _ i _ => N - (intOf i).toNat)
  case atStart => exact ⟨0, [], Nat.zero_le _, rfl, OwnSS.nil _ _, Below.refl _ _⟩
  case round =>
    obtain ⟨k, X, hk, rfl, hor, hbel⟩ := hrel
    by_cases hlt : k < N
    · obtain ⟨wa, hwa⟩ : ∃ q, q = wr := ⟨_, rfl⟩
      subst hwa
      have hsz := hbel.size
      have hkL : k < L.length := by rw [← HN.out]; exact hlt
      obtain ⟨a1, c1, hx1, hc0, own1⟩ := HI.out.cellOf HN.out k hkL
      have hc1 := cell_old hbel hc0
      have hgd := HL.out k hlt
      obtain ⟨l, hl⟩ : ∃ l, row L k = l := ⟨_, rfl⟩
      have Hfs := Lib.hid (fm_succ L k hkL)
      rw [hl] at hc1 own1 hgd Hfs
      obtain ⟨n, hn⟩ : ∃ n, l.length = n := ⟨_, rfl⟩
      rw [hn] at hc1 own1
      have Hn : Hid (n = l.length) := hn.symm
      have hn11 : n ≤ 11 := by have := hgd.1; omega
      have Hgd : Hid (grTo l l.length = true) := hgd.2
      have hng : ngN l ≤ 11 := by have := ngN_le l; omega
      have Own1 := Lib.hid own1
      have own1a := own_later own1 hbel
      have Hor := Lib.hid hor
      have Hbel := Lib.hid hbel
      have HG := Lib.hid (groupsOf_len base _ l n wa Hn (by omega) own1a Hgd)
      have hfl := Hfl.out k (by omega)
      clear hor hbel hx1 hc0 own1 own1a hl hn hgd
      go_wp2_with fail
      refine HG.out.mono ?_
      rintro e w2 ⟨ag, cg, rfl, hb2⟩
      have Hb2 := Lib.hid (Hbel.out.trans (hb2.mono hsz))
      have Hor2 := Lib.hid (Hor.out.later hb2)
      clear hb2 HG Hor
      obtain ⟨M, hM⟩ : ∃ M, ngN l + 1 = M := ⟨_, rfl⟩
      have hM2 : ((ngN l : Nat) : Int) + 1 = (M : Int) := by omega
      have hMw : IntKind.i64.wrap (((ngN l : Nat) : Int) + 1) = (M : Int) := by rw [hM2]; exact IntWalk.i64_in _ (by omega)
      have hM12 : M ≤ 12 := by omega
      have HM := Lib.hid hM
      clear hM
      go_wp2_with fail
      go_loopw [3, 17] (fun v i wr => ∃ (q : Nat) (X : List Value), q ≤ M ∧ i = .int .i64 q ∧ OwnSS wr w.heap.size v X (fm L k ++ exTo l q) ∧ Below w.heap.size w wr) (fun _ i _ => M - (intOf i).toNat)
      case atStart => exact ⟨0, X, Nat.zero_le _, rfl, by simpa [exTo] using Hor2.out, Hb2.out⟩
      case round =>
        obtain ⟨q, Xq, hq, rfl, hor, hbel⟩ := hrel
        by_cases hqM : q < M
        · have hszq := hbel.size
          obtain ⟨ao, cap, rfl, _⟩ := hor.reads
          obtain ⟨LU, hLU⟩ : ∃ LU, (fm L k ++ exTo l q).length = LU := ⟨_, rfl⟩
          have hLUb : LU ≤ 20000 := by rw [← hLU, List.length_append, exTo_len]; omega
          rw [hLU] at hor ⊢
          have HLU := Lib.hid hLU
          have Hcl := Lib.hid (clone_any base _ l n wr Hn (by omega) (own_later Own1.out hbel))
          have Hor := Lib.hid hor
          have Hbel := Lib.hid hbel
          have Hex : Hid (fm L k ++ exTo l q ++ [l ++ [(q : Int)]] = fm L k ++ exTo l (q + 1)) := by show _ = _; rw [exTo_succ, List.append_assoc]
          obtain ⟨LL, hLL⟩ : ∃ LL, fm L k ++ exTo l q = LL := ⟨_, rfl⟩
          rw [hLL] at Hor HLU Hex
          clear hor hbel hLU hLL
          go_wp2_with fail
          refine Hcl.out.mono ?_
          rintro e w3 ⟨v3, rfl, own3, hb3⟩
          obtain ⟨a3, c3, rfl, _⟩ := nums_shape own3 Hn.out
          have Hb3 := Lib.hid (Hbel.out.trans (hb3.mono hszq))
          have Hor3 := Lib.hid (Hor.out.later hb3)
          have hs3 := hb3.size
          have bd : Below w3.heap.size w3 (w3.alloc (.cells #[.int .i64 (q : Int)] 3)) := (Below.refl w3.heap.size w3).alloc (Nat.le_refl _) _
          have Hr7 := Lib.hid (own_later own3 bd)
          have Hor7 := Lib.hid (Hor3.out.later bd)
          have Hb7 := Lib.hid (Hb3.out.trans (bd.mono Hb3.out.size))
          have hszW : (w3.alloc (.cells #[.int .i64 (q : Int)] 3)).heap.size = w3.heap.size + 1 := by simp
          have hck : (w3.alloc (.cells #[.int .i64 (q : Int)] 3)).cell? ⟨w3.heap.size, 0, none⟩ = some (.int .i64 (q : Int)) := by rw [cell_of_row _ _ _ _ _ _ (heap_alloc_new w3 _)]; rfl
          have Hck := Lib.hid hck
          clear own3 hb3 bd hck Hcl Hor3 Hb3
          go_wp2_with (at_builtin; refine push_num _ rfl _ _ 22 rfl wr.heap.size i3 Try.underlying22 hi3 hz30 hz31 hz32 (.slice a3 n c3) l n rfl Hr7.out (by omega) (q : Int) 1 w3.heap.size rfl Hck.out (by rw [hszW]; omega) ?_)
          intro g9 cap9 w9 own9 hgr9 hat9
          have hgr9' : Below wr.heap.size (w3.alloc (.cells #[.int .i64 (q : Int)] 3)) w9 := (Below.refl _ _).grown hgr9 (by rw [hszW]; omega) (fun bb hb => (Hr7.out.lt bb hb).1)
          have hor9 : OwnSS w9 w.heap.size (.slice ao LU cap) Xq LL := Hor7.out.kept2 hgr9 Hor.out.lt (fun bb hb => (Hr7.out.lt bb hb).1)
          have hb9 := Hb7.out.grown hgr9 (by rw [hszW]; omega) (fun bb hb => by have := (Hr7.out.lt bb hb).1; omega)
          have hs9 := hgr9'.size
          have bd9 : Below w9.heap.size w9 (w9.alloc (.cells #[.slice (some ⟨g9, 0, none⟩) (n + 1) cap9] 22)) := (Below.refl w9.heap.size w9).alloc (Nat.le_refl _) _
          have hsw9 : wr.heap.size ≤ w9.heap.size := by rw [hszW] at hs9; omega
          have Hor10 := Lib.hid (hor9.later bd9)
          have Hb10 := Lib.hid (hb9.trans (bd9.mono hb9.size))
          have Hnew : Hid ((w9.alloc (.cells #[.slice (some ⟨g9, 0, none⟩) (n + 1) cap9] 22)).ownsRow w.heap.size 3 1 (.slice (some ⟨g9, 0, none⟩) (n + 1) cap9) (l ++ [(q : Int)]).length (ns (l ++ [(q : Int)]))) := by
            show World.ownsRow _ _ _ _ _ _ _
            rw [List.length_append, ← Hn.out]
            exact own_base hszq (own_later own9 bd9)
          have hgg : wr.heap.size ≤ g9 := (own9.lt g9 rfl).1
          have HpV : Hid (∀ bb, (Value.slice (some ⟨g9, 0, none⟩) (n + 1) cap9).ownBlock = some bb → (Value.slice ao LU cap).ownBlock ≠ some bb) := fun bb hb e => by
            have e1 : g9 = bb := by simpa [Value.ownBlock] using hb
            have h2 := (Hor.out.1.lt bb e).2; omega
          have HpX : Hid (∀ (i : Nat) (u : Value) (bb : Nat), Xq[i]? = some u → u.ownBlock = some bb → (Value.slice (some ⟨g9, 0, none⟩) (n + 1) cap9).ownBlock ≠ some bb) := fun i u bb hu hb e => by
            have e1 : g9 = bb := by simpa [Value.ownBlock] using e
            have hi := (List.getElem?_eq_some_iff.1 hu).1
            have h2 := ((Hor.out.2.2.1 i u _ hu (List.getElem?_eq_getElem (by rw [← Hor.out.2.1]; exact hi))).1.lt bb hb).2
            omega
          have hszW9 : (w9.alloc (.cells #[.slice (some ⟨g9, 0, none⟩) (n + 1) cap9] 22)).heap.size = w9.heap.size + 1 := by simp
          have hck9 : (w9.alloc (.cells #[.slice (some ⟨g9, 0, none⟩) (n + 1) cap9] 22)).cell? ⟨w9.heap.size, 0, none⟩ = some (.slice (some ⟨g9, 0, none⟩) (n + 1) cap9) := by rw [cell_of_row _ _ _ _ _ _ (heap_alloc_new w9 _)]; rfl
          have Hck9 := Lib.hid hck9
          clear own9 hgr9 hat9 hor9 hb9 bd9 hck9 hgr9' Hr7 Hor7 Hb7 Hck Hor Hbel
          go_wp2_with (at_builtin; refine push_row _ rfl _ _ 39 rfl w.heap.size i22 Try.underlying39 hi22 hz220 hz221 hz222 _ Xq LL LU HLU.out rfl Hor10.out (by omega) (.slice (some ⟨g9, 0, none⟩) (n + 1) cap9) (l ++ [(q : Int)]) Hnew.out HpV.out HpX.out 1 w9.heap.size rfl Hck9.out rfl (by rw [hszW9]; omega) ?_)
          intro v6 w6 own6 hgr6 hat6
          rw [Hex.out] at own6
          have Ho6 := Lib.hid own6
          have Hb6 := Lib.hid (Hb10.out.grown hgr6 (by rw [hszW9]; omega) (fun bb hb => (Hor10.out.1.lt bb hb).1))
          clear own6 hgr6 hat6 Hor10 Hb10
          go_wp2_with fail
          go_roundw
          case rel => exact ⟨q + 1, _, by omega, by go_num, Ho6.out, Hb6.out⟩
          case measure => simp [intOf]; omega
        · obtain rfl : q = M := by omega
          have hfe : fm L k ++ exTo l q = fm L (k + 1) := by rw [Hfs.out]; unfold ext; rw [HM.out]
          rw [hfe] at hor
          have Hor := Lib.hid hor
          clear hor hfe
          go_wp2_with fail
          go_roundw
          case rel => exact ⟨k + 1, Xq, by omega, by go_num, Hor.out, hbel⟩
          case measure => simp [intOf]; omega
    · obtain rfl : k = N := by omega
      have hfe : fm L k = L.flatMap ext := by rw [HN.out]; exact fm_all L
      rw [hfe] at hor
      have Hor := Lib.hid hor
      clear hor hfe
      go_wp2_with fail
      go_ret
      exact ⟨_, X, rfl, Hor.out, hbel⟩

theorem allG_row {n i : Nat} (h : i < (allG n).length) : (row (allG n) i).length = n ∧ grTo (row (allG n) i) (row (allG n) i).length = true := allG_good n _ (row_mem h)

set_option maxRecDepth 20000 in
theorem groupingsOf_any (w : World) (N : Nat) (hN : N ≤ 7) :
    Calls Try.prog 38 #[.int .i64 (N : Int)] w fun e w' => ∃ v X, e = .returned v ∧ OwnSS w' w.heap.size v X (allG N) ∧ Below w.heap.size w w' := by
  have hlit := World.ownsRow_lit (base := w.heap.size) (e := 22) (size := 1) w #[.slice none 0 0] 1 (Nat.le_refl _) (by unfold maxLen; omega) rfl
  have H0 : Hid (OwnSS (w.alloc (.cells #[.slice none 0 0] 22)) w.heap.size (.slice (some ⟨w.heap.size, 0, none⟩) 1 1) [.slice none 0 0] (allG 0)) := by
    refine ⟨hlit, rfl, fun i x l hx hl => ?_, fun i j x y b hij hx hy => ?_⟩
    · cases i with
      | zero =>
        simp at hx
        simp [allG] at hl
        subst hx; subst hl
        exact ⟨World.ownsRow_nil _ _ _ _, fun b h => by cases h⟩
      | succ i => simp at hx
    · have h1 := (List.getElem?_eq_some_iff.1 hx).1
      have h2 := (List.getElem?_eq_some_iff.1 hy).1
      simp at h1 h2; omega
  have HB0 := Lib.hid ((Below.refl w.heap.size w).alloc (Nat.le_refl _) (.cells #[.slice none 0 0] 22))
  obtain ⟨wl, hwl⟩ : ∃ wl, wl = w.alloc (.cells #[.slice none 0 0] 22) := ⟨_, rfl⟩
  rw [← hwl] at H0 HB0
  have Hwl := Lib.hid hwl
  clear hlit hwl
  go_enter Try.func38, Try.ntmps38
  go_upto_region 2 with (fail)
  rw [← Hwl.out]
  clear Hwl
  go_wp2_with fail
  go_loopw [3, 6] (fun v i wr => ∃ (k : Nat) (X : List Value), k ≤ N ∧ i = .int .i64 k ∧ OwnSS wr w.heap.size v X (allG k) ∧ Below w.heap.size w wr) (fun _ i _ => N - (intOf i).toNat)
  case atStart => exact ⟨0, _, Nat.zero_le _, rfl, H0.out, HB0.out⟩
  case round =>
    obtain ⟨k, X, hk, rfl, hor, hbel⟩ := hrel
    by_cases hlt : k < N
    · have hsz := hbel.size
      have hlen := allG_len ⟨k, by omega⟩
      simp only at hlen
      obtain ⟨g, cap, rfl, hg⟩ := hor.outer (by omega)
      obtain ⟨LN, hLN⟩ : ∃ LN, (allG k).length = LN := ⟨_, rfl⟩
      rw [hLN] at hor hlen ⊢
      have HW := Lib.hid (withOneMore_pos wr w.heap.size g cap X (allG k) LN hLN.symm hlen.1 hg hor (fun i hi => by have h := allG_row (n := k) (i := i) (by rw [hLN]; exact hi); exact ⟨by omega, h.2⟩))
      have Hbel := Lib.hid hbel
      clear hor hbel hlen hLN
      go_wp2_with fail
      refine HW.out.mono ?_
      rintro e w2 ⟨v2, X2, rfl, hO, hb2⟩
      have Ho2 : Hid (OwnSS w2 w.heap.size v2 X2 (allG (k + 1))) := hO.weaken hsz
      have Hb2 := Lib.hid (Hbel.out.trans (hb2.mono hsz))
      clear hO hb2
      go_wp2_with fail
      go_roundw
      case rel => exact ⟨k + 1, X2, by omega, by go_num, Ho2.out, Hb2.out⟩
      case measure => simp [intOf]; omega
    · obtain rfl : k = N := by omega
      have Hor := Lib.hid hor
      clear hor
      go_wp2_with fail
      go_ret
      exact ⟨_, X, rfl, Hor.out, hbel⟩

end Go.Proofs.Ytcedacneagpjcaa
