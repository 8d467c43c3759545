/- Searches by halves: the model. -/
import Derived.Test.YtejmlhhblckddaaHs
namespace Go.Proofs.Ytejmlhhblckddaa
open Go.ChangeShapes Go.WideShapes Go.ChangeAt Go.RowKit
set_option linter.unusedVariables false


set_option maxHeartbeats 3200000 in
set_option maxRecDepth 20000 in
theorem specHs_any (w : World) (f b : Int) :
    Calls Try.prog 32 #[.int .i64 f, .int .i64 b] w fun e w' => ∃ v X, e = .returned (.tuple #[v, .bool (hsB f b)]) ∧ OwnSS w' w.heap.size v X (hsR f b) ∧ Below w.heap.size w w' := by
  obtain ⟨i22, hi22, hz220, hz221, hz222⟩ := info_parts info27
  cases hw : wfB f
  · have hB : hsB f b = false := by simp [hsB, hw]
    have hR : hsR f b = [] := by simp [hsR, hB]
    rw [hR, hB]
    have Hw := Lib.hid hw
    go_enter Try.func32, Try.ntmps32
    go_wp2_with fail
    refine (wiWires_any f w).mono ?_
    rintro e w' ⟨rfl, rfl⟩
    rw [Hw.out]
    go_wp2_with fail
    go_ret2
    exact ⟨_, [], rfl, OwnSS.nil _ _, Below.refl _ _⟩
  · have hf := wf_parts hw
    have Hw := Lib.hid hw
    have hw1 : IntKind.i64.wrap (f - 1) = f - 1 := IntWalk.i64_in _ (by omega)
    cases hc : decide (-1 ≤ b ∧ b ≤ f - 1)
    · have hB : hsB f b = false := by simp only [hsB, hc, Bool.and_false]
      have hR : hsR f b = [] := by simp [hsR, hB]
      rw [hR, hB]
      have Hc := Lib.hid hc
      clear hc
      go_enter Try.func32, Try.ntmps32
      go_wp2_with fail
      refine (wiWires_any f w).mono ?_
      rintro e w' ⟨rfl, rfl⟩
      rw [Hw.out]
      go_wp2_with fail
      refine (l1In_any b (-1) (f - 1) w).mono ?_
      rintro e w' ⟨rfl, rfl⟩
      rw [Hc.out]
      go_wp2_with fail
      go_ret2
      exact ⟨_, [], rfl, OwnSS.nil _ _, Below.refl _ _⟩
    · have hB : hsB f b = true := by simp only [hsB, hc, hw, Bool.and_self]
      have hR : hsR f b = hsF f b := by simp [hsR, hB]
      rw [hR, hB]
      have HC := Lib.hid hc
      simp only [decide_eq_true_eq] at hc
      obtain ⟨n, rfl⟩ := Int.eq_ofNat_of_zero_le (a := f) (by omega)
      have hn1 : 1 ≤ n := by omega
      have hn10 : n ≤ 10 := by omega
      have Hc := Lib.hid hc
      have hF : hsF (n : Int) b = iot 0 n :: (if b = -1 then [] else hv b n 0 n) := rfl
      rw [hF]
      obtain ⟨R, hR0⟩ : ∃ q, (iot 0 n :: (if b = -1 then [] else hv b n 0 n)) = q := ⟨_, rfl⟩
      rw [hR0]
      have HRF := Lib.hid hR0
      have Hlx := Lib.hid (lx_full n hn10)
      clear hR hB hF hf hw hc hR0
      go_enter Try.func32, Try.ntmps32
      go_wp2_with fail
      refine (wiWires_any (n : Int) w).mono ?_
      rintro e w' ⟨rfl, rfl⟩
      rw [Hw.out]
      go_wp2_with fail
      refine (l1In_any b (-1) ((n : Int) - 1) w).mono ?_
      rintro e w' ⟨rfl, rfl⟩
      rw [HC.out]
      go_wp2_with fail
      refine (wiLists_nil w n n hn10 hn10).mono ?_
      rintro e w1 ⟨vL, XL, rfl, oL, _, hb1⟩
      rw [Hlx.out] at oL
      obtain ⟨gO, cO, rfl, _⟩ := oL.outer (by simp)
      obtain ⟨aL, cL, hxL, hcL, hoL⟩ := oL.cellOf rfl 0 (by simp)
      have hrow0 : row [iot 0 n] 0 = iot 0 n := rfl
      rw [hrow0] at hxL hcL hoL
      have hil : (iot 0 n).length = n := by rw [iot_length]; omega
      rw [hil] at hxL hcL hoL
      obtain ⟨gL, haL⟩ : ∃ gL, aL = some ⟨gL, 0, none⟩ := by
        obtain ⟨g, c, hv⟩ := own_pos hoL (by omega)
        simp only [Value.slice.injEq] at hv
        exact ⟨g, hv.1.1⟩
      subst haL
      have hcap := own_cap hoL
      have hcells : ∀ i, i < n → w1.cell? ⟨gL, i, none⟩ = some (.int .i64 (i : Int)) := fun i hi => by
        have e := own_num hoL (by rw [hil]) i hi
        rw [e, iot_get 0 n i (by omega)]; simp
      have Hcells := Lib.hid hcells
      have Hb1 := Lib.hid hb1
      have hs1 := hb1.size
      have hone : [iot 0 n].length = 1 := rfl
      rw [hone]
      have HcO := Lib.hid hcL
      have hcL0 : w1.cell? ⟨gO, 0, none⟩ = some (.slice (some ⟨gL, 0, none⟩) n cL) := hcL
      clear hcL hxL hoL oL hb1 hcells hrow0 hone
      go_wp2_with fail
      refine (l1Own_pos gL 0 cL n (iot 0 n) w1 (Lib.hid hil.symm) (by omega) (by omega) (fun i hi => by rw [Nat.zero_add, iot_get 0 n i (by omega), Nat.zero_add]; exact Hcells.out i hi)).mono ?_
      rintro e w2 ⟨g2, c2, rfl, own2, hb2⟩
      have hs2 := hb2.size
      have hlit := World.ownsRow_lit (base := w1.heap.size) (e := 27) (size := 1) w2 #[.slice (some ⟨g2, 0, none⟩) n c2] 1 hs2 (by unfold maxLen; omega) rfl
      have bd : Below w2.heap.size w2 (w2.alloc (.cells #[.slice (some ⟨g2, 0, none⟩) n c2] 27)) := (Below.refl _ _).alloc (Nat.le_refl _) _
      have H0 : Hid (OwnSS (w2.alloc (.cells #[.slice (some ⟨g2, 0, none⟩) n c2] 27)) w1.heap.size (.slice (some ⟨w2.heap.size, 0, none⟩) 1 1) [.slice (some ⟨g2, 0, none⟩) n c2] [iot 0 n]) := by
        refine ⟨hlit, rfl, fun i x m hx hl => ?_, fun i j x y b hij hx hy => ?_⟩
        · cases i with
          | zero =>
            simp at hx
            simp at hl
            subst hx; subst hl
            refine ⟨by rw [hil]; exact own_later own2 bd, fun b hb e => ?_⟩
            have h2 := (own2.lt b hb).2
            have e2 : w2.heap.size = b := by simpa [Value.ownBlock] using e
            omega
          | succ i => simp at hx
        · have h1 := (List.getElem?_eq_some_iff.1 hx).1
          have h2 := (List.getElem?_eq_some_iff.1 hy).1
          simp at h1 h2; omega
      have Hb := Lib.hid (hb2.trans (bd.mono hs2))
      clear hlit bd own2 hb2 hcL0 HcO
      by_cases hm1 : b = -1
      · have hR1 : R = [iot 0 n] := by rw [← HRF.out, if_pos hm1]
        rw [← hR1] at H0
        have hbe : decide (b ≥ 0) = false := by simp; omega
        have hbe2 : ¬ b ≥ 0 := by omega
        have Hbf := Lib.hid (Hb1.out.trans (Hb.out.mono hs1))
        have Hof := Lib.hid (H0.out.weaken hs1)
        clear hm1 hR1
        go_wp2_with fail
        go_rounds 1
        go_ret2
        exact ⟨_, _, rfl, Hof.out, Hbf.out⟩
      · have hR : iot 0 n :: hv b n 0 n = R := by rw [← HRF.out, if_neg hm1]
        have hb0 : b ≥ 0 := by have := Hc.out; omega
        have hbd0 : decide (b ≥ 0) = true := by simpa using hb0
        have hbn : b < n := by have := Hc.out; omega
        have hRl : R.length ≤ 11 := by rw [← hR, List.length_cons]; have := hv_len b n 0 n; omega
        have HR0 : Hid ([iot 0 n] ++ hv b n 0 (0 + n) = R) := by show _ = _; rw [Nat.zero_add]; exact hR
        clear hR hm1 Hc HRF
        go_wp2_with fail
        go_loopw [6, 7] (fun u v wr => ∃ (lo d K cq : Nat) (D : List (List Int)) (X : List Value), u = .slice (some ⟨gL, lo, none⟩) d cq ∧ d ≤ cq ∧ 0 < d ∧ lo + d ≤ n ∧ d ≤ K ∧ (lo : Int) ≤ b ∧ b < ((lo + d : Nat) : Int) ∧ Hid (D ++ hv b K lo (lo + d) = R) ∧ OwnSS wr w1.heap.size v X D ∧ Below w1.heap.size w1 wr) (fun u v _ => slen u)
        case atStart => exact ⟨0, n, n, cL, [iot 0 n], _, rfl, hcap, by omega, by omega, by omega, by omega, by omega, HR0, H0.out, Hb.out⟩
        case round =>
          obtain ⟨lo, d, K, cq, D, X, rfl, hdc, hd0, hdn, hK, hlb, hbh, HR, hor, hbel⟩ := hrel
          clear H0 Hb HR0
          by_cases hgo : 1 < d
          · have hgt : (d : Int) > 1 := by omega
            obtain ⟨k, hk⟩ : ∃ k, d / 2 = k := ⟨_, rfl⟩
            have hki : (d : Int).tdiv 2 = (k : Int) := by rw [show (d : Int).tdiv 2 = ((d / 2 : Nat) : Int) by rfl, hk]
            have hkw : IntKind.i64.wrap ((d : Int).tdiv 2) = (k : Int) := by rw [hki]; exact IntWalk.i64_in _ (by omega)
            have hk0 : 0 < k := by omega
            have hkd : k < d := by omega
            have hki0 : (0 : Int) ≤ k := by omega
            have hki1 : (k : Int) ≤ cq := by omega
            have hki2 : (k : Int) ≤ d := by omega
            have hki3 : (d : Int) ≤ cq := by omega
            have hkc : ¬ cq = k := by omega
            have hkc2 : ¬ k = cq := by omega
            obtain ⟨ao, cap, rfl, _⟩ := hor.reads
            have Hor := Lib.hid hor
            have Hbel := Lib.hid hbel
            have hsz := hbel.size
            obtain ⟨K1, rfl⟩ : ∃ K1, K = K1 + 1 := ⟨K - 1, by omega⟩
            have hDl : D.length ≤ 11 := by have h := congrArg List.length HR.out; rw [List.length_append] at h; omega
            have hlo := hv_low b K1 lo (lo + d) (by omega)
            have hhi := hv_high b K1 lo (lo + d) (by omega)
            rw [Nat.add_sub_cancel_left, hk] at hlo hhi
            have Hlo := Lib.hid hlo
            have Hhi := Lib.hid hhi
            obtain ⟨DL, hDL⟩ : ∃ q, D.length = q := ⟨_, rfl⟩
            have HDL := Lib.hid hDL
            rw [hDL] at hDl Hor ⊢
            have hil2 : (iot lo (lo + k)).length = k := by rw [iot_length]; omega
            have Hil2 := Lib.hid hil2.symm
            have Hcl : Hid (∀ i, i < k → w1.cell? ⟨gL, lo + i, none⟩ = some (.int .i64 (na (iot lo (lo + k)) i))) := fun i hi => by
              rw [iot_get lo (lo + k) i (by omega)]; exact Hcells.out (lo + i) (by omega)
            have Hseen : Hid (seen (iot lo (lo + k)) k b = decide (b < ((lo + k : Nat) : Int))) := by
              have h := iot_seen lo (lo + k) b hlb
              rw [Nat.add_sub_cancel_left] at h
              exact h
            clear hor hbel hk hDL hlo hhi hil2
            go_wp2_with fail
            refine (l1Own_pos gL lo cq k (iot lo (lo + k)) wr Hil2 hk0 (by omega) (fun i hi => cell_old Hbel.out (Hcl.out i hi))).mono ?_
            rintro e w3 ⟨g3, c3, rfl, own3, hb3⟩
            have hil3 : (iot lo (lo + k)).length = k := Hil2.out.symm
            have HP := Lib.hid (newRow (l := iot lo (lo + k)) Hor.out hsz hb3 (by rw [hil3]; exact own3))
            have hs3 := hb3.size
            have Hb5 := Lib.hid ((Hbel.out.trans (hb3.mono hsz)).alloc (by omega) (.cells #[.slice (some ⟨g3, 0, none⟩) k c3] 27))
            have hs5 : (w3.alloc (.cells #[.slice (some ⟨g3, 0, none⟩) k c3] 27)).heap.size = w3.heap.size + 1 := by simp
            clear own3 hb3 hil3
            go_wp2_with (at_builtin; refine push_row _ rfl _ _ 22 rfl w1.heap.size i22 Try.underlying22 hi22 hz220 hz221 hz222 _ X D DL HDL.out rfl HP.out.own (by omega) (.slice (some ⟨g3, 0, none⟩) k c3) (iot lo (lo + k)) HP.out.new HP.out.hv HP.out.hX 1 w3.heap.size rfl HP.out.cell rfl HP.out.size ?_)
            intro v6 w6 own6 hgr6 hat6
            have Ho6 := Lib.hid own6
            have Hb6 := Lib.hid (Hb5.out.grown hgr6 (by rw [hs5]; omega) (fun bb hb => (HP.out.own.1.lt bb hb).1))
            clear own6 hgr6 hat6 Hb5
            go_wp2_with fail
            refine (l1Has_pos gL lo cq (iot lo (lo + k)) k b w6 (by omega) (fun i hi => cell_old Hb6.out (Hcl.out i hi))).mono ?_
            rintro e w' ⟨rfl, rfl⟩
            rw [Hseen.out]
            by_cases hbm : b < ((lo + k : Nat) : Int)
            · have HR6 : Hid (D ++ [iot lo (lo + k)] ++ hv b K1 lo (lo + k) = R) := by
                show _ = _
                rw [← HR.out, Hlo.out hbm]; simp
              have hbt : decide (b < ((lo + k : Nat) : Int)) = true := by simpa only [decide_eq_true_eq] using hbm
              rw [hbt]
              clear hbt
              go_wp2_with fail
              go_roundw
              case rel => exact ⟨lo, k, K1, cq, D ++ [iot lo (lo + k)], _, rfl, by omega, hk0, by omega, by omega, hlb, hbm, HR6, Ho6.out, Hb6.out⟩
              case measure => simp [slen]; omega
            · have hsum : lo + k + (d - k) = lo + d := by omega
              have HR6 : Hid (D ++ [iot lo (lo + k)] ++ hv b K1 (lo + k) (lo + k + (d - k)) = R) := by
                show _ = _
                rw [hsum, ← HR.out, Hhi.out (by omega)]; simp
              have hbt : decide (b < ((lo + k : Nat) : Int)) = false := by simpa only [decide_eq_false_iff_not] using hbm
              have hge : (((lo + k : Nat) : Nat) : Int) ≤ b := by omega
              rw [hbt]
              have Hsum := Lib.hid hsum
              clear hbt hsum
              go_wp2_with fail
              go_roundw
              case rel => exact ⟨lo + k, d - k, K1, cq - k, D ++ [iot lo (lo + k)], _, rfl, by omega, by omega, by omega, by omega, hge, by rw [Hsum.out]; exact hbh, HR6, Ho6.out, Hb6.out⟩
              case measure => simp [slen]; omega
          · have hgt : ¬ (d : Int) > 1 := by omega
            have hD : D = R := by have h := HR.out; rw [hv_stop b K lo (lo + d) (by omega), List.append_nil] at h; exact h
            rw [hD] at hor
            have Hor := Lib.hid (hor.weaken hs1)
            have Hbf := Lib.hid (Hb1.out.trans (hbel.mono hs1))
            clear hor hD
            go_wp2_with fail
            go_ret2
            first | exact ⟨_, X, rfl, Hor.out, Hbf.out⟩ | exact ⟨_, rfl, ⟨X, Hor.out⟩, Hbf.out⟩

end Go.Proofs.Ytejmlhhblckddaa
