/- The lists of like wires are taken from the map: the program. -/
import Derived.Test.YtcedacneagpjcaaTk1
namespace Go.Proofs.Ytcedacneagpjcaa
open Go.ChangeShapes Go.WideShapes Go.ChangeAt Go.RowKit Go.Maps
set_option linter.unusedVariables false


set_option maxHeartbeats 1600000 in
set_option maxRecDepth 20000 in
theorem takeAlike_pos (w0 w : World) (B n : Nat) (hB : w0.heap.size ≤ B) (hn12 : n ≤ 12) (l m : List Int) (HR : Hid (∀ i, i < n → inR ((sz l i : Nat) : Int) ∧ inR ((sz m i : Nat) : Int))) (D0 : DataW Value) (V0 : Int → Int → Value) (H0 : Hid (TkI w0 B n l m w 0 (.slice none 0 0) [] D0 V0 (wz l m n))) :
    Calls Try.prog 54 #[.map (some B)] w fun e w' => ∃ v X, e = .returned v ∧ OwnSS w' w0.heap.size v X (lkL l m n n) ∧ Below w0.heap.size w0 w' := by
  obtain ⟨i22, hi22, hz220, hz221, hz222⟩ := info_parts info22
  go_enter Try.func54, Try.ntmps54
  go_wp2
  refine scope_jumps2 0 (fun a' w' => ∃ (j : Nat) (tv : Value) (X : List Value) (D : DataW Value) (V : Int → Int → Value) (Z : Int → Int → List Int) (u4 u5 u6 u7 u8 u9 u10 u11 u12 u13 u14 u15 u16 u17 u18 u19 u20 u21 u22 u23 u24 u25 u26 u27 u28 u29 u30 u31 u32 u33 u34 u35 u36 u37 u38 u39 u40 u41 u42 u43 u44 : Value), a' = { tmps := #[.map (some B), undef, .slice none 0 0, tv, u4, u5, u6, u7, u8, u9, u10, u11, u12, u13, u14, u15, u16, u17, u18, u19, u20, u21, u22, u23, u24, u25, u26, u27, u28, u29, u30, u31, u32, u33, u34, u35, u36, u37, u38, u39, u40, u41, u42, u43, u44], defers := [] } ∧ TkI w0 B n l m w' j tv X D V Z) (fun a' _ => n - sliceLen (a'.tmps.getD 3 undef)) rfl ?_ ?_
  · intro hp
    go_wp2
    go_step3
    rename_i hKK
    exact hKK _ _ (hp _ _ ⟨0, .slice none 0 0, [], D0, V0, wz l m n, _, _, _, _, _, _, _, _, _, _, _, _, _, _, _, _, _, _, _, _, _, _, _, _, _, _, _, _, _, _, _, _, _, _, _, _, _, _, _, _, _, rfl, H0.out⟩)
  · rintro a' w' ⟨j, tv, X, D, V, Z, u4, u5, u6, u7, u8, u9, u10, u11, u12, u13, u14, u15, u16, u17, u18, u19, u20, u21, u22, u23, u24, u25, u26, u27, u28, u29, u30, u31, u32, u33, u34, u35, u36, u37, u38, u39, u40, u41, u42, u43, u44, rfl, HI⟩
    obtain ⟨hj, hM, hG, hL, hT, hA, hb⟩ := HI
    have hBl := hM.lt
    obtain ⟨W1, hW1⟩ : ∃ W1, W1 = w'.alloc (.cells #[.int .i64 0, .int .i64 0] 60) := ⟨_, rfl⟩
    have HW1 := Lib.hid hW1
    have hMa : W1.ownsMap Try.prog 60 RV B n D := by rw [hW1]; exact hM.alloc _
    have hVl : VLt V w'.heap.size := fun x y hx hy b hb => ((hG.own x y hx hy).lt b hb).2
    have hXl : SSlt tv X w'.heap.size := hT.lt
    have hS0 : TkS w0 B tv X (lkL l m n j) D V Z w'.heap.size w' := ⟨hB, hBl, hVl, hXl, hA, hG, hT, hb⟩
    have hS1 : TkS w0 B tv X (lkL l m n j) D V Z w'.heap.size W1 := by rw [hW1]; exact hS0.kept (World.grownBy_alloc w' _ none) (fun b hb => by cases hb)
    have hp : W1.heap[w'.heap.size]? = some (.cells #[.int .i64 0, .int .i64 0] 60 (0, 0)) := by rw [hW1]; exact heap_alloc_new w' _
    obtain ⟨p4, hp4⟩ : ∃ p4, p4 = w'.heap.size := ⟨_, rfl⟩
    have HP4 := Lib.hid hp4
    rw [← hp4] at hS1 hp
    have hr1 : p4 < W1.heap.size := (Array.getElem?_eq_some_iff.1 hp).1
    have HMa := Lib.hid hMa
    have HL := Lib.hid hL
    have HS1 := Lib.hid hS1
    have Hp := Lib.hid hp
    clear hMa hM hG hL hT hA hb hVl hXl hS0 hS1 hp hp4 hW1 hBl
    go_upto_region 3 with (fail)
    rw [← HW1.out, ← HP4.out]
    go_wp2_with (at_range; refine wpList_range_own _ rfl _ 53 rfl 60 22 law_lb Try.underlying53 RV B n D rfl HMa.out ?_; intro w2 hrg0 hg0 hs0)
    go_frame
    obtain ⟨r, hr⟩ : ∃ r, r = W1.heap.size := ⟨_, rfl⟩
    rw [← hr] at hrg0 ⊢
    have hpr : p4 < r := by omega
    have hF0 : FirstOK false 0 0 Z (Maps.has D) := by
      refine ⟨fun h => (by cases h), fun _ x y hx hy hl hlen => ?_⟩
      have h2 := HS1.out.2.2.2.2.2.1.has x y hx hy
      cases hz : Z x y with
      | nil => rw [hz] at hlen; simp at hlen
      | cons a q => rw [hz, hl] at h2; simp at h2
    have HF0 := Lib.hid hF0
    have HS2 := Lib.hid (HS1.out.kept hg0 (fun b hb => by cases hb))
    have Hp2 : Hid (w2.heap[p4]? = some (.cells #[.int .i64 0, .int .i64 0] 60 (0, 0))) := (hg0.block p4 hr1 (by simp)).trans Hp.out
    have HRG := Lib.hid hrg0
    clear hrg0 hg0 hF0 hr Hp HS1
    go_loopw [5] (fun f wr => ∃ (F : Bool) (D : DataW Value) (V : Int → Int → Value) (Z : Int → Int → List Int) (left : Lit → Bool) (cnt : Nat) (fx fy : Int), f = .bool F ∧ Hid (wr.ranges Try.prog 60 RV B r n D left cnt) ∧ Hid (TkS w0 B tv X (lkL l m n j) D V Z p4 wr) ∧ Hid (Lv l m n j Z) ∧ Hid (FirstOK F fx fy Z left) ∧ Hid (wr.heap[p4]? = some (.cells #[.int .i64 fx, .int .i64 fy] 60 (0, 0)))) (fun _ wr => wr.rangeLeft B r)
    case atStart => exact ⟨false, D, V, Z, _, _, 0, 0, rfl, HRG, HS2, HL, HF0, Hp2⟩
    case round =>
      obtain ⟨F, D2, V2, Z2, left, cnt, fx, fy, rfl, HRr, HSr, HLr, HFr, HPr⟩ := hrel
      go_wp2_with (at_next; refine next_lb _ rfl _ rfl B r n D2 left cnt rfl HRr.out ?_ ?_)
      · intro hc0 hl0
        cases F with
        | false =>
          have hlkn := HLr.out.none hj (fun a b ha hb => HFr.out.2 rfl a b ha hb (hl0 _)) HR.out
          have hO2 := HSr.out.2.2.2.2.2.2.1.weaken (show w0.heap.size ≤ B + 1 by omega)
          rw [← hlkn] at hO2
          have HO := Lib.hid hO2
          have Hbf := Lib.hid HSr.out.2.2.2.2.2.2.2
          clear hlkn hO2
          go_wp2_with fail
          simp only [Exit.jump]
          go_ret
          exact ⟨_, _, rfl, HO.out, Hbf.out⟩
        | true =>
          obtain ⟨hfx, hfy, hfl, hfm⟩ := HFr.out.1 rfl
          obtain ⟨_, hs2, hs3, hs4, hs5, hs6, hs7, hs8⟩ := HSr.out
          have htk := HLr.out.taken hfx hfy hfl (fun a b ha hb hlen => hfm a b ha hb (hl0 _) hlen) HR.out
          have hM := HRr.out.owns
          have hlk := look_grp hM hs6 hfx hfy
          have hown := hs6.own fx fy hfx hfy
          have hrv := fun b h => (hs5 fx fy hfx hfy b h).1
          have hrX : ∀ (i : Nat) (y : Value) (b : Nat), X[i]? = some y → y.ownBlock = some b → (V2 fx fy).ownBlock ≠ some b := fun i y b h1 h2 h3 => (hs5 fx fy hfx hfy b h3).2 i y h1 h2
          have hapU := fun a b g ha hb hn h => hs6.apart fx fy a b g hfx hfy ha hb hn h
          obtain ⟨ZZ, hZZ⟩ : ∃ ZZ, Z2 fx fy = ZZ := ⟨_, rfl⟩
          rw [hZZ] at hown hfl htk
          obtain ⟨gf, capf, hUe, _⟩ := own_pos hown (by omega)
          obtain ⟨U, hU⟩ : ∃ U, V2 fx fy = U := ⟨_, rfl⟩
          rw [hU] at hlk hown hrv hrX hapU hUe
          obtain ⟨zl, hzl⟩ : ∃ zl, ZZ.length = zl := ⟨_, rfl⟩
          have Hzl := Lib.hid hzl
          rw [hzl] at hUe hfl
          subst hUe
          obtain ⟨kk, hkk⟩ : ∃ kk, (lkL l m n j).length = kk := ⟨_, rfl⟩
          have hkk12 : kk ≤ 12 := by have := lkL_len l m n j; omega
          have hkn : kk + 1 ≤ n := by
            have h2 := lkL_len l m n (hd ZZ + 1)
            rw [htk.1, List.length_append, hkk] at h2
            have h3 := htk.2.1
            simp at h2
            omega
          have hone : (Value.slice (some ⟨gf, 0, none⟩) zl capf).oneCell' = true := rfl
          have f0 := cell_of_row wr p4 0 _ _ _ HPr.out
          have f1 := cell_of_row wr p4 1 _ _ _ HPr.out
          have hgA : wr.grownBy (wr.alloc (.cells #[.slice (some ⟨gf, 0, none⟩) zl capf] 22)) none := World.grownBy_alloc wr _ none
          have hcA : (wr.alloc (.cells #[.slice (some ⟨gf, 0, none⟩) zl capf] 22)).cell? ⟨wr.heap.size, 0, none⟩ = some (.slice (some ⟨gf, 0, none⟩) zl capf) := by rw [cell_of_row _ _ _ _ _ _ (heap_alloc_new wr _)]; rfl
          have hpl : p4 < wr.heap.size := (Array.getElem?_eq_some_iff.1 HPr.out).1
          have hpA := (hgA.block p4 hpl (by simp)).trans HPr.out
          have hszA : (wr.alloc (.cells #[.slice (some ⟨gf, 0, none⟩) zl capf] 22)).heap.size = wr.heap.size + 1 := by simp
          have HMA := Lib.hid (hM.alloc (.cells #[.slice (some ⟨gf, 0, none⟩) zl capf] 22))
          have HOA := Lib.hid (hs7.alloc (.cells #[.slice (some ⟨gf, 0, none⟩) zl capf] 22))
          have HrA := Lib.hid (hown.kept hgA (.inr (by simp [Value.ownBlock])))
          have HrwA : Hid (∀ a b, inR a → inR b → (wr.alloc (.cells #[.slice (some ⟨gf, 0, none⟩) zl capf] 22)).ownsRow (B + 1) 3 1 (V2 a b) (Z2 a b).length (ns (Z2 a b))) := fun a b ha hb => (hs6.own a b ha hb).kept hgA (by cases hq : (V2 a b).ownBlock with
            | none => exact .inl rfl
            | some g => exact .inr (by simp))
          have HbA := Lib.hid (hs8.grown hgA hs8.size (fun b hb => by cases hb))
          have HpA := Lib.hid hpA
          have HcA := Lib.hid hcA
          have Hrv := Lib.hid hrv
          have HrX := Lib.hid hrX
          have HapU := Lib.hid hapU
          have Htk := Lib.hid htk
          have Hkey := Lib.hid (key_lb hfx hfy)
          have HG := Lib.hid hs6
          have HA5 := Lib.hid hs5
          have HXl := Lib.hid hs4
          have HO7 := Lib.hid hs7
          have HVl := Lib.hid hs3
          have HZZ := Lib.hid hZZ
          have HU := Lib.hid hU
          have Hfx := Lib.hid hfx
          have Hfy := Lib.hid hfy
          clear hfx hfy hfl hfm hs3 hs4 hs5 hs6 hs7 hs8 htk hM hown hrv hrX hapU hZZ hU hzl hgA hcA hpA
          go_wp2_with (at_builtin; refine push_row _ rfl _ _ 39 rfl (B + 1) i22 Try.underlying39 hi22 hz220 hz221 hz222 tv X (lkL l m n j) kk hkk rfl HOA.out (by omega) (.slice (some ⟨gf, 0, none⟩) zl capf) ZZ HrA.out Hrv.out HrX.out 1 wr.heap.size rfl HcA.out hone (by rw [hszA]; omega) ?_)
          intro v5 w5 own5 hg5 hat5
          have hBt : some B ≠ tv.ownBlock := fun e => by
            have := (HO7.out.1.lt B e.symm).1
            omega
          have hpt : some p4 ≠ tv.ownBlock := fun e => by
            have := HXl.out p4 (.inl e.symm)
            omega
          have HM5 := Lib.hid (HMA.out.kept hg5 hBt)
          have hp5 := (hg5.block p4 (by omega) hpt).trans HpA.out
          have f50 := cell_of_row w5 p4 0 _ _ _ hp5
          have f51 := cell_of_row w5 p4 1 _ _ _ hp5
          have hrows5 : ∀ a b, inR a → inR b → w5.ownsRow (B + 1) 3 1 (V2 a b) (Z2 a b).length (ns (Z2 a b)) := fun a b ha hb => (HrwA.out a b ha hb).kept hg5 (by
            cases hq : (V2 a b).ownBlock with
            | none => exact .inl rfl
            | some g => exact .inr (fun e => (HA5.out a b ha hb g hq).1 e.symm))
          have hb5 := HbA.out.grown hg5 HbA.out.size (fun b hb => by have := (HO7.out.1.lt b hb).1; omega)
          have hs5 := hg5.size
          have Hrows5 := Lib.hid hrows5
          have Hb5 := Lib.hid hb5
          have Hown5 := Lib.hid own5
          have Hat5 := Lib.hid hat5
          clear hp5 hrows5 hb5 own5 hat5 hg5 hBt hpt HMA HOA HrA HrwA HbA HpA HcA Hrv HrX
          go_wp2_with (at_delete; refine wpList_delete_own _ rfl _ _ 53 60 rfl 22 law_lb Try.underlying53 RV B n D2 rfl HM5.out _ (kx fx fy) rfl Hkey.out ?_)
          intro w6 hM6 hmt6
          have hg6 := hmt6.grown
          have hrows6 : ∀ a b, inR a → inR b → w6.ownsRow (B + 1) 3 1 (V2 a b) (Z2 a b).length (ns (Z2 a b)) := fun a b ha hb => (Hrows5.out a b ha hb).kept hg6 (by
            cases hq : (V2 a b).ownBlock with
            | none => exact .inl rfl
            | some g =>
              right
              intro e
              injection e with e
              have := ((HG.out.own a b ha hb).lt g hq).1
              omega)
          have hG6 := (HG.out.stay hrows6).del Hfx.out Hfy.out
          have hO6 := Hown5.out.kept hg6 (fun b hb => by cases hb; omega)
          rw [← Htk.out.1] at hO6
          have hb6 := Hb5.out.grown hg6 (by have := Hb5.out.size; omega) (fun b hb => by cases hb; omega)
          have hA6 : TkA (fun a b => if a = fx ∧ b = fy then nlV else V2 a b) v5 (X ++ [.slice (some ⟨gf, 0, none⟩) zl capf]) := fun a b ha hb g hg => by
            by_cases e : a = fx ∧ b = fy
            · simp only [if_pos e] at hg; cases hg
            · simp only [if_neg e] at hg
              refine ⟨?_, fun i u hu => ?_⟩
              · rcases Hat5.out with h2 | h2
                · rw [h2]; exact (HA5.out a b ha hb g hg).1
                · rw [h2]
                  intro e2
                  injection e2 with e2
                  have := HVl.out a b ha hb g hg
                  omega
              · by_cases hi : i < X.length
                · rw [List.getElem?_append_left hi] at hu
                  exact (HA5.out a b ha hb g hg).2 i u hu
                · rw [List.getElem?_append_right (by omega)] at hu
                  cases hd0 : i - X.length with
                  | zero =>
                    rw [hd0] at hu
                    simp at hu
                    subst hu
                    intro e2
                    exact HapU.out a b g ha hb e e2 hg
                  | succ q => rw [hd0] at hu; simp at hu
          have hL6 := Htk.out.2.2
          have hj6 : hd ZZ + 1 ≤ n := by have := Htk.out.2.1; omega
          obtain ⟨_, c6, hv5, _⟩ := hO6.reads
          obtain ⟨_, c7, htv, _⟩ := HO7.out.reads
          have hlen5 : sliceLen v5 = kk + 1 := by rw [hv5, Htk.out.1, List.length_append, hkk]; rfl
          have hlen7 : sliceLen tv = kk := by rw [htv, hkk]; rfl
          have HI6 : Hid (TkI w0 B n l m w6 (hd ZZ + 1) v5 (X ++ [.slice (some ⟨gf, 0, none⟩) zl capf]) (D2.del (kx fx fy)) (fun a b => if a = fx ∧ b = fy then nlV else V2 a b) (fun a b => if a = fx ∧ b = fy then [] else Z2 a b)) := ⟨hj6, hM6, hG6, hL6, hO6, hA6, hb6⟩
          have Hl5 := Lib.hid hlen5
          have Hl7 := Lib.hid hlen7
          clear hM6 hmt6 hg6 hrows6 hG6 hO6 hb6 hA6 hL6 hj6 hv5 htv hlen5 hlen7 HM5 Hrows5 Hb5 Hown5 Hat5
          go_wp2_with fail
          go_step3
          refine ⟨rfl, ⟨hd ZZ + 1, v5, _, _, _, _, _, _, _, _, _, _, _, _, _, _, _, _, _, _, _, _, _, _, _, _, _, _, _, _, _, _, _, _, _, _, _, _, _, _, _, _, _, _, _, _, _, rfl, HI6.out⟩, ?_⟩
          show n - sliceLen v5 < n - sliceLen tv
          rw [Hl5.out, Hl7.out]
          omega
      · intro key v kl w3 cnt3 hkey hlk hat hrg3 hlt3 hg3 hs3 hen
        obtain ⟨x, y, hx, hy, rfl, rfl, hv, hne⟩ := key_label HSr.out.2.2.2.2.2.1 hkey hat
        subst hv
        have hB4 : B < p4 := HSr.out.2.1
        have hpl : p4 < wr.heap.size := (Array.getElem?_eq_some_iff.1 HPr.out).1
        have hS3 := HSr.out.kept hg3 (fun b hb => by cases hb; right; omega)
        have hp3 := (hg3.block p4 hpl (by intro e; injection e; omega)).trans HPr.out
        have hown := hS3.2.2.2.2.2.1.own x y hx hy
        obtain ⟨q, hq⟩ : ∃ q, (Z2 x y).length = q := ⟨_, rfl⟩
        have hq0 : 0 < q := by rw [← hq]; exact List.length_pos_iff.2 hne
        rw [hq] at hown
        obtain ⟨g, cap, hVe, hgB⟩ := own_pos hown hq0
        rw [hVe] at hen hown
        have hgr4 : w3.grownBy (w3.alloc (.cells #[.int .i64 x, .int .i64 y] 60)) none := World.grownBy_alloc w3 _ none
        have HS4 := Lib.hid (hS3.kept hgr4 (fun b hb => by cases hb))
        have HRG4 := Lib.hid (hrg3.alloc (.cells #[.int .i64 x, .int .i64 y] 60))
        have HP4b := Lib.hid ((hgr4.block p4 (by omega) (by simp)).trans hp3)
        have Hown := Lib.hid (hown.kept hgr4 (.inr (by simp [Value.ownBlock])))
        have e0 : (w3.alloc (.cells #[.int .i64 x, .int .i64 y] 60)).cell? ⟨w3.heap.size, 0, none⟩ = some (.int .i64 x) := by rw [cell_of_row _ _ _ _ _ _ (heap_alloc_new w3 _)]; rfl
        have e1 : (w3.alloc (.cells #[.int .i64 x, .int .i64 y] 60)).cell? ⟨w3.heap.size, 1, none⟩ = some (.int .i64 y) := by rw [cell_of_row _ _ _ _ _ _ (heap_alloc_new w3 _)]; rfl
        have Hkey := Lib.hid (key_lb hx hy)
        have Hx := Lib.hid hx
        have Hy := Lib.hid hy
        have Hq := Lib.hid hq
        have Hne := Lib.hid hne
        have Hmle : Hid (cnt3 < wr.rangeLeft B r) := by show _ < _; rw [HRr.out.left_eq]; exact hlt3
        have HVe := Lib.hid hVe
        clear hkey hlk hat hrg3 hlt3 hg3 hS3 hp3 hown hgr4 hx hy hq hne hVe
        by_cases h1 : q = 1
        · have hte : ((q : Int) == 1) = true := by simp; omega
          have HFd := Lib.hid (HFr.out.drop Hx.out Hy.out (by rw [Hq.out]; omega))
          have HLd := Lib.hid (HLr.out.drop Hx.out Hy.out Hne.out (by rw [Hq.out]; omega))
          clear h1
          go_wp2_with (at_delete; refine wpList_delete_ranges _ rfl _ _ 53 60 rfl 22 law_lb Try.underlying53 RV B r n D2 _ cnt3 rfl HRG4.out _ (kx x y) rfl Hkey.out ?_)
          intro w5 cnt5 hrg5 hle5 hmt5
          have hg5 := hmt5.grown
          have HS5 := Lib.hid ((HS4.out.kept hg5 (fun b hb => by cases hb; exact .inl rfl)).del Hx.out Hy.out)
          have HP5 := Lib.hid ((hg5.block p4 (Array.getElem?_eq_some_iff.1 HP4b.out).1 (by intro e; injection e; omega)).trans HP4b.out)
          have HRG5 := Lib.hid hrg5
          clear hrg5 hmt5 hg5
          go_wp2_with fail
          go_roundw
          case rel => exact ⟨F, _, _, _, _, _, fx, fy, rfl, HRG5, HS5, HLd, HFd, HP5⟩
          case measure => rw [HRG5.out.left_eq]; have := Hmle.out; omega
        · have hte : ((q : Int) == 1) = false := by simp; omega
          have hlen1 : 1 < (Z2 x y).length := by rw [Hq.out]; omega
          have Hlen1 := Lib.hid hlen1
          clear h1 hlen1
          cases F with
          | false =>
            have HFn := Lib.hid (HFr.out.new Hx.out Hy.out Hlen1.out (fun h => by cases h))
            go_wp2_with fail
            go_quiet (fail)
            have hgN : World.grownBy (w3.alloc (.cells #[.int .i64 x, .int .i64 y] 60)) ((w3.alloc (.cells #[.int .i64 x, .int .i64 y] 60)).drewN nq) none := ⟨rfl, rfl, rfl, Nat.le_refl _, fun _ _ _ => rfl⟩
            have HSn := Lib.hid (HS4.out.kept hgN (fun b hb => by cases hb))
            have HRn := Lib.hid (HRG4.out.kept hgN (by simp) (by simp))
            have hpn : ((w3.alloc (.cells #[.int .i64 x, .int .i64 y] 60)).drewN nq).heap[p4]? = _ := HP4b.out
            have en0 : ((w3.alloc (.cells #[.int .i64 x, .int .i64 y] 60)).drewN nq).cell? ⟨wr.heap.size, 0, none⟩ = some (.int .i64 x) := by rw [← hs3]; exact e0
            have en1 : ((w3.alloc (.cells #[.int .i64 x, .int .i64 y] 60)).drewN nq).cell? ⟨wr.heap.size, 1, none⟩ = some (.int .i64 y) := by rw [← hs3]; exact e1
            clear e0 e1 HS4 HRG4 HP4b Hown hgN
            generalize (w3.alloc (.cells #[.int .i64 x, .int .i64 y] 60)).drewN nq = wn at *
            have f0 := cell_of_row wn p4 0 _ _ _ hpn
            have f1 := cell_of_row wn p4 1 _ _ _ hpn
            have z0 := frozen_of_row wn p4 0 _ _ hpn
            have z1 := frozen_of_row wn p4 1 _ _ hpn
            have Hpn := Lib.hid hpn
            clear hpn
            go_wp2_with fail
            have hfs := first_set (x := x) (y := y) Hpn.out
            have HS9 := Lib.hid (HSn.out.kept hfs.2 (fun b hb => by cases hb; exact .inr (Nat.le_refl _)))
            have HR9 := Lib.hid (HRn.out.kept hfs.2 (by intro e; injection e; omega) (by intro e; injection e; omega))
            refine ⟨⟨true, D2, V2, Z2, _, cnt3, x, y, rfl, HR9, HS9, HLr, HFn, hfs.1⟩, ?_⟩
            rw [HR9.out.left_eq]
            exact Hmle.out
          | true =>
            obtain ⟨hfx, hfy, hfl, hfm⟩ := HFr.out.1 rfl
            have hGf := HS4.out.2.2.2.2.2.1
            have hownf := hGf.own fx fy hfx hfy
            obtain ⟨gf, capf, hVf, _⟩ := own_pos hownf (by omega)
            rw [hVf] at hownf
            have hzx : Z2 x y = wz l m n x y := (HLr.out x y Hx.out Hy.out).1.resolve_right Hne.out
            have hzf : Z2 fx fy = wz l m n fx fy := (HLr.out fx fy hfx hfy).1.resolve_right (fun e => by rw [e] at hfl; simp at hfl)
            have c0 := own_num Hown.out Hq.out.symm 0 (by omega)
            have c1 := own_num hownf rfl 0 (by omega)
            rw [hzx, (wz_hd (by rw [← hzx]; exact Hne.out)).2.2.2, ← hzx] at c0
            rw [hzf, (wz_hd (fun e => by rw [← hzf] at e; rw [e] at hfl; simp at hfl)).2.2.2, ← hzf] at c1
            obtain ⟨hX, hhX⟩ : ∃ hX, hd (Z2 x y) = hX := ⟨_, rfl⟩
            obtain ⟨hF, hhF⟩ : ∃ hF, hd (Z2 fx fy) = hF := ⟨_, rfl⟩
            rw [hhX] at c0
            rw [hhF] at c1
            obtain ⟨qf, hqf⟩ : ∃ qf, (Z2 fx fy).length = qf := ⟨_, rfl⟩
            rw [hqf] at hVf hfl
            have hlk := fun N => look_grp (HRG4.out.kept (w' := (w3.alloc (.cells #[.int .i64 x, .int .i64 y] 60)).drewN N) (row := none) ⟨rfl, rfl, rfl, Nat.le_refl _, fun _ _ _ => rfl⟩ (by simp) (by simp)).owns (HS4.out.kept (w' := (w3.alloc (.cells #[.int .i64 x, .int .i64 y] 60)).drewN N) (row := none) ⟨rfl, rfl, rfl, Nat.le_refl _, fun _ _ _ => rfl⟩ (fun b hb => by cases hb)).2.2.2.2.2.1 hfx hfy
            rw [hVf] at hlk
            have hlk0 := look_grp HRG4.out.owns hGf hfx hfy
            rw [hVf] at hlk0
            have f0 := cell_of_row _ p4 0 _ _ _ HP4b.out
            have f1 := cell_of_row _ p4 1 _ _ _ HP4b.out
            have hq1 : (0 : Int) < (q : Int) := by omega
            have hqf1 : (0 : Int) < (qf : Int) := by omega
            have Hfx := Lib.hid hfx
            have Hfy := Lib.hid hfy
            have HhX := Lib.hid hhX
            have HhF := Lib.hid hhF
            clear hfx hfy hfm hGf hownf hzx hzf hhX hhF hqf
            by_cases hc : hX < hF
            · have hdc : decide ((hX : Int) < (hF : Int)) = true := decide_eq_true (by omega)
              have HFn := Lib.hid (HFr.out.new Hx.out Hy.out Hlen1.out (fun _ => by rw [HhX.out, HhF.out]; omega))
              have hdn : decide (hX < hF) = true := decide_eq_true hc
              go_wp2_with fail
              go_quiet (fail)
              have hgN : World.grownBy (w3.alloc (.cells #[.int .i64 x, .int .i64 y] 60)) ((w3.alloc (.cells #[.int .i64 x, .int .i64 y] 60)).drewN nq) none := ⟨rfl, rfl, rfl, Nat.le_refl _, fun _ _ _ => rfl⟩
              have HSn := Lib.hid (HS4.out.kept hgN (fun b hb => by cases hb))
              have HRn := Lib.hid (HRG4.out.kept hgN (by simp) (by simp))
              have hpn : ((w3.alloc (.cells #[.int .i64 x, .int .i64 y] 60)).drewN nq).heap[p4]? = _ := HP4b.out
              have en0 : ((w3.alloc (.cells #[.int .i64 x, .int .i64 y] 60)).drewN nq).cell? ⟨wr.heap.size, 0, none⟩ = some (.int .i64 x) := by rw [← hs3]; exact e0
              have en1 : ((w3.alloc (.cells #[.int .i64 x, .int .i64 y] 60)).drewN nq).cell? ⟨wr.heap.size, 1, none⟩ = some (.int .i64 y) := by rw [← hs3]; exact e1
              clear e0 e1 HS4 HRG4 HP4b Hown hgN hlk hlk0 f0 f1 c0 c1
              generalize (w3.alloc (.cells #[.int .i64 x, .int .i64 y] 60)).drewN nq = wn at *
              have f0 := cell_of_row wn p4 0 _ _ _ hpn
              have f1 := cell_of_row wn p4 1 _ _ _ hpn
              have z0 := frozen_of_row wn p4 0 _ _ hpn
              have z1 := frozen_of_row wn p4 1 _ _ hpn
              have Hpn := Lib.hid hpn
              clear hpn
              go_wp2_with fail
              have hfs := first_set (x := x) (y := y) Hpn.out
              have HS9 := Lib.hid (HSn.out.kept hfs.2 (fun b hb => by cases hb; exact .inr (Nat.le_refl _)))
              have HR9 := Lib.hid (HRn.out.kept hfs.2 (by intro e; injection e; omega) (by intro e; injection e; omega))
              refine ⟨⟨true, D2, V2, Z2, _, cnt3, x, y, rfl, HR9, HS9, HLr, HFn, hfs.1⟩, ?_⟩
              rw [HR9.out.left_eq]
              exact Hmle.out
            · have hdc : decide ((hX : Int) < (hF : Int)) = false := decide_eq_false (by omega)
              have HFn := Lib.hid (HFr.out.stay Hx.out Hy.out (by rw [HhX.out, HhF.out]; omega))
              have hdn : decide (hX < hF) = false := decide_eq_false hc
              go_wp2_with fail
              go_quiet (fail)
              have hgN : World.grownBy (w3.alloc (.cells #[.int .i64 x, .int .i64 y] 60)) ((w3.alloc (.cells #[.int .i64 x, .int .i64 y] 60)).drewN nq) none := ⟨rfl, rfl, rfl, Nat.le_refl _, fun _ _ _ => rfl⟩
              have HSn := Lib.hid (HS4.out.kept hgN (fun b hb => by cases hb))
              have HRn := Lib.hid (HRG4.out.kept hgN (by simp) (by simp))
              have hpn : ((w3.alloc (.cells #[.int .i64 x, .int .i64 y] 60)).drewN nq).heap[p4]? = _ := HP4b.out
              have en0 : ((w3.alloc (.cells #[.int .i64 x, .int .i64 y] 60)).drewN nq).cell? ⟨wr.heap.size, 0, none⟩ = some (.int .i64 x) := by rw [← hs3]; exact e0
              have en1 : ((w3.alloc (.cells #[.int .i64 x, .int .i64 y] 60)).drewN nq).cell? ⟨wr.heap.size, 1, none⟩ = some (.int .i64 y) := by rw [← hs3]; exact e1
              clear e0 e1 HS4 HRG4 HP4b Hown hgN hlk hlk0 f0 f1 c0 c1
              generalize (w3.alloc (.cells #[.int .i64 x, .int .i64 y] 60)).drewN nq = wn at *
              have Hpn := Lib.hid hpn
              clear hpn
              go_wp2_with fail
              refine ⟨⟨true, D2, V2, Z2, _, cnt3, fx, fy, rfl, HRn, HSn, HLr, HFn, Hpn⟩, ?_⟩
              rw [HRn.out.left_eq]
              exact Hmle.out

end Go.Proofs.Ytcedacneagpjcaa
