/- Searches by halves: the program. -/
import Derived.Test.YtejmlhhblckddaaHs
namespace Go.Proofs.Ytejmlhhblckddaa
open Go.ChangeShapes Go.WideShapes Go.ChangeAt Go.RowKit
set_option linter.unusedVariables false


set_option maxRecDepth 20000 in
theorem wiresFrom_any (w : World) (a b : Nat) (hab : a ≤ b) (hb : b ≤ 10) :
    Calls Try.prog 51 #[.int .i64 (a : Int), .int .i64 (b : Int)] w fun e w' => ∃ v, e = .returned v ∧ w'.ownsRow w.heap.size 3 1 v (b - a) (ns (iot a b)) ∧ Below w.heap.size w w' := by
  obtain ⟨i3, hi3, hz30, hz31, hz32⟩ := info_parts info3
  go_enter Try.func51, Try.ntmps51
  go_wp2_with fail
  go_loopw [5, 6] (fun v i wr => ∃ k : Nat, k ≤ b - a ∧ i = .int .i64 ((a + k : Nat) : Int) ∧ wr.ownsRow w.heap.size 3 1 v k (ns (iot a (a + k))) ∧ Below w.heap.size w wr) (fun _ i _ => b - (intOf i).toNat)
  case atStart => exact ⟨0, Nat.zero_le _, rfl, by rw [show iot a (a + 0) = [] by simp [iot]]; exact World.ownsRow_nil _ _ _ _, Below.refl _ _⟩
  case round =>
    obtain ⟨k, hk, rfl, hor, hbel⟩ := hrel
    obtain ⟨x, hx⟩ : ∃ x, a + k = x := ⟨_, rfl⟩
    have Hx := Lib.hid hx
    rw [hx] at hor ⊢
    by_cases hlt : x < b
    · have hxi : (x : Int) < b := by omega
      have Hs := Lib.hid (iot_succ a x (by omega))
      have hsz := hbel.size
      have bd : Below wr.heap.size wr (wr.alloc (.cells #[.int .i64 (x : Int)] 3)) := (Below.refl wr.heap.size wr).alloc (Nat.le_refl _) _
      have Hrow7 := Lib.hid (own_later hor bd)
      have Hb7 := Lib.hid (hbel.trans (bd.mono hsz))
      have hszW : (wr.alloc (.cells #[.int .i64 (x : Int)] 3)).heap.size = wr.heap.size + 1 := by simp
      have hck : (wr.alloc (.cells #[.int .i64 (x : Int)] 3)).cell? ⟨wr.heap.size, 0, none⟩ = some (.int .i64 (x : Int)) := by rw [cell_of_row _ _ _ _ _ _ (heap_alloc_new wr _)]; rfl
      have Hck := Lib.hid hck
      have hk10 : k ≤ 10 := by omega
      have hxs : a + (k + 1) = x + 1 := by omega
      clear hor hbel bd hck hx
      go_wp2_with (at_builtin; refine push_num _ rfl _ _ 27 rfl w.heap.size i3 Try.underlying27 hi3 hz30 hz31 hz32 _ (iot a x) k rfl Hrow7.out (by omega) (x : Int) 1 wr.heap.size rfl Hck.out (by rw [hszW]; omega) ?_)
      intro g9 c9 w9 own9 hgr9 hat9
      rw [← Hs.out] at own9
      have Ho9 := Lib.hid own9
      have Hb9 := Lib.hid (Hb7.out.grown hgr9 (by rw [hszW]; omega) (fun bb hb => (Hrow7.out.lt bb hb).1))
      have Hxs := Lib.hid hxs
      clear own9 hgr9 hat9 Hb7 hxs
      go_wp2_with fail
      go_roundw
      case rel => exact ⟨k + 1, by have := Hx.out; omega, by rw [Hxs.out]; go_num, by rw [Hxs.out]; exact Ho9.out, Hb9.out⟩
      case measure => simp [intOf]; omega
    · obtain rfl : x = b := by omega
      have hxi : ¬ (x : Int) < x := by omega
      have hkb : k = x - a := by omega
      rw [hkb] at hor
      have Hor := Lib.hid hor
      clear hor hkb hx
      go_wp2_with fail
      go_ret
      exact ⟨_, rfl, Hor.out, hbel⟩

set_option maxHeartbeats 1600000 in
set_option maxRecDepth 20000 in
theorem implHs_any (w : World) (f b : Int) :
    Calls Try.prog 33 #[.int .i64 f, .int .i64 b] w fun e w' => ∃ v X, e = .returned (.tuple #[v, .bool (hsB f b)]) ∧ OwnSS w' w.heap.size v X (hsR f b) ∧ Below w.heap.size w w' := by
  obtain ⟨i22, hi22, hz220, hz221, hz222⟩ := info_parts info27
  cases hw : wfB f
  · have hB : hsB f b = false := by simp [hsB, hw]
    have hR : hsR f b = [] := by simp [hsR, hB]
    rw [hR, hB]
    have Hw := Lib.hid hw
    go_enter Try.func33, Try.ntmps33
    go_wp2_with fail
    refine (canBeTested_any f w).mono ?_
    rintro e w' ⟨rfl, rfl⟩
    rw [Hw.out]
    go_wp2_with fail
    go_ret2
    exact ⟨_, [], rfl, OwnSS.nil _ _, Below.refl _ _⟩
  · have hf := wf_parts hw
    have Hw := Lib.hid hw
    cases hc : decide (-1 ≤ b ∧ b ≤ f - 1)
    · have hB : hsB f b = false := by simp only [hsB, hc, Bool.and_false]
      have hR : hsR f b = [] := by simp [hsR, hB]
      rw [hR, hB]
      simp only [decide_eq_false_iff_not] at hc
      by_cases h1 : b < -1
      · go_enter Try.func33, Try.ntmps33
        go_wp2_with fail
        refine (canBeTested_any f w).mono ?_
        rintro e w' ⟨rfl, rfl⟩
        rw [Hw.out]
        go_wp2_with fail
        go_ret2
        exact ⟨_, [], rfl, OwnSS.nil _ _, Below.refl _ _⟩
      · have h2 : b ≥ f := by omega
        have h2d : decide (b ≥ f) = true := by simpa using h2
        have h1d : decide (b < -1) = false := by simpa using h1
        clear hc h1 hf
        go_enter Try.func33, Try.ntmps33
        go_wp2_with fail
        refine (canBeTested_any f w).mono ?_
        rintro e w' ⟨rfl, rfl⟩
        rw [Hw.out]
        go_wp2_with fail
        go_ret2
        exact ⟨_, [], rfl, OwnSS.nil _ _, Below.refl _ _⟩
    · have hB : hsB f b = true := by simp only [hsB, hc, hw, Bool.and_self]
      have hR : hsR f b = hsF f b := by simp [hsR, hB]
      rw [hR, hB]
      simp only [decide_eq_true_eq] at hc
      obtain ⟨n, rfl⟩ := Int.eq_ofNat_of_zero_le (a := f) (by omega)
      have hn1 : 1 ≤ n := by omega
      have hn10 : n ≤ 10 := by omega
      have h1d : decide (b < -1) = false := by simp; omega
      have h2d : decide (b ≥ (n : Int)) = false := by simp; omega
      have Hc := Lib.hid hc
      have hF : hsF (n : Int) b = iot 0 n :: (if b = -1 then [] else hv b n 0 n) := rfl
      rw [hF]
      obtain ⟨R, hR0⟩ : ∃ q, (iot 0 n :: (if b = -1 then [] else hv b n 0 n)) = q := ⟨_, rfl⟩
      rw [hR0]
      have HRF := Lib.hid hR0
      clear hR hB hF hf hw hc hR0
      go_enter Try.func33, Try.ntmps33
      go_wp2_with fail
      refine (canBeTested_any (n : Int) w).mono ?_
      rintro e w' ⟨rfl, rfl⟩
      rw [Hw.out]
      go_wp2_with fail
      refine (wiresFrom_any w 0 n (by omega) hn10).mono ?_
      rintro e w1 ⟨v1, rfl, own1, hb1⟩
      rw [Nat.sub_zero] at own1
      obtain ⟨a1, c1, rfl, _⟩ := nums_shape own1 (by rw [iot_length]; omega)
      have hs1 := hb1.size
      have hlit := World.ownsRow_lit (base := w.heap.size) (e := 27) (size := 1) w1 #[.slice a1 n c1] 1 hs1 (by unfold maxLen; omega) rfl
      have bd : Below w1.heap.size w1 (w1.alloc (.cells #[.slice a1 n c1] 27)) := (Below.refl _ _).alloc (Nat.le_refl _) _
      have H0 : Hid (OwnSS (w1.alloc (.cells #[.slice a1 n c1] 27)) w.heap.size (.slice (some ⟨w1.heap.size, 0, none⟩) 1 1) [.slice a1 n c1] [iot 0 n]) := by
        refine ⟨hlit, rfl, fun i x m hx hl => ?_, fun i j x y b hij hx hy => ?_⟩
        · cases i with
          | zero =>
            simp at hx
            simp at hl
            subst hx; subst hl
            refine ⟨by rw [iot_length]; exact own_later own1 bd, fun b hb e => ?_⟩
            have h2 := (own1.lt b hb).2
            have e2 : w1.heap.size = b := by simpa [Value.ownBlock] using e
            omega
          | succ i => simp at hx
        · have h1 := (List.getElem?_eq_some_iff.1 hx).1
          have h2 := (List.getElem?_eq_some_iff.1 hy).1
          simp at h1 h2; omega
      have Hb := Lib.hid (hb1.trans (bd.mono hs1))
      clear hlit bd own1 hb1
      by_cases hm1 : b = -1
      · have hR1 : R = [iot 0 n] := by rw [← HRF.out, if_pos hm1]
        rw [← hR1] at H0
        have hbe : (b == -1) = true := by simpa using hm1
        clear hm1 hR1
        go_wp2_with fail
        go_ret2
        exact ⟨_, _, rfl, H0.out, Hb.out⟩
      · have hR : iot 0 n :: hv b n 0 n = R := by rw [← HRF.out, if_neg hm1]
        have hbe : (b == -1) = false := by simpa using hm1
        have hb0 : 0 ≤ b := by have := Hc.out; omega
        have hbn : b < n := by have := Hc.out; omega
        have hRl : R.length ≤ 11 := by rw [← hR, List.length_cons]; have := hv_len b n 0 n; omega
        have HR0 : Hid ([iot 0 n] ++ hv b n 0 n = R) := hR
        clear hR hm1 Hc HRF
        go_wp2_with fail
        go_loopw [6, 7, 8] (fun v i j wr => ∃ (lo hi K : Nat) (D : List (List Int)) (X : List Value), i = .int .i64 lo ∧ j = .int .i64 hi ∧ lo < hi ∧ hi ≤ n ∧ hi - lo ≤ K ∧ (lo : Int) ≤ b ∧ b < (hi : Int) ∧ Hid (D ++ hv b K lo hi = R) ∧ OwnSS wr w.heap.size v X D ∧ Below w.heap.size w wr) (fun v i j _ => difI i j)
        case atStart => exact ⟨0, n, n, [iot 0 n], _, rfl, rfl, by omega, by omega, by omega, by omega, by omega, HR0, H0.out, Hb.out⟩
        case round =>
          obtain ⟨lo, hi, K, D, X, rfl, rfl, hlh, hhn, hK, hlb, hbh, HR, hor, hbel⟩ := hrel
          clear H0 Hb HR0
          by_cases hgo : 1 < hi - lo
          · have hw1 : IntKind.i64.wrap ((hi : Int) - (lo : Int)) = (hi : Int) - (lo : Int) := IntWalk.i64_in _ (by omega)
            have hgt : (hi : Int) - (lo : Int) > 1 := by omega
            obtain ⟨m, hm⟩ : ∃ m, lo + (hi - lo) / 2 = m := ⟨_, rfl⟩
            have hmi : (lo : Int) + ((hi : Int) - (lo : Int)).tdiv 2 = (m : Int) := by
              rw [← hm, show (hi : Int) - (lo : Int) = ((hi - lo : Nat) : Int) by omega]
              rw [show ((hi - lo : Nat) : Int).tdiv 2 = (((hi - lo) / 2 : Nat) : Int) by rfl]
              omega
            obtain ⟨ao, cap, rfl, _⟩ := hor.reads
            have Hor := Lib.hid hor
            have Hbel := Lib.hid hbel
            have hsz := hbel.size
            have hlm : lo ≤ m := by omega
            have hmh : m < hi := by omega
            have hlm2 : lo < m := by omega
            obtain ⟨K1, rfl⟩ : ∃ K1, K = K1 + 1 := ⟨K - 1, by omega⟩
            have hDl : D.length ≤ 11 := by have h := congrArg List.length HR.out; rw [List.length_append] at h; omega
            have hlo := hv_low b K1 lo hi hgo
            have hhi := hv_high b K1 lo hi hgo
            rw [hm] at hlo hhi
            have Hlo := Lib.hid hlo
            have Hhi := Lib.hid hhi
            obtain ⟨DL, hDL⟩ : ∃ q, D.length = q := ⟨_, rfl⟩
            have HDL := Lib.hid hDL
            rw [hDL] at hDl Hor ⊢
            have hw2 : IntKind.i64.wrap (((hi : Int) - (lo : Int)).tdiv 2) = ((hi : Int) - (lo : Int)).tdiv 2 := IntWalk.i64_in _ (by omega)
            have hw3 : IntKind.i64.wrap ((lo : Int) + ((hi : Int) - (lo : Int)).tdiv 2) = (m : Int) := by rw [hmi]; exact IntWalk.i64_in _ (by omega)
            clear hor hbel hm hDL hlo hhi
            go_wp2_with fail
            refine (wiresFrom_any wr lo m hlm (by omega)).mono ?_
            rintro e w3 ⟨v3, rfl, own3, hb3⟩
            have hil := iot_length lo m
            rw [← hil] at own3
            obtain ⟨a3, c3, rfl, _⟩ := nums_shape own3 rfl
            rw [hil] at own3
            have HP := Lib.hid (newRow (l := iot lo m) Hor.out hsz hb3 (by rw [hil]; exact own3))
            have hs3 := hb3.size
            have Hb5 := Lib.hid ((Hbel.out.trans (hb3.mono hsz)).alloc (by omega) (.cells #[.slice a3 (m - lo) c3] 27))
            have hs5 : (w3.alloc (.cells #[.slice a3 (m - lo) c3] 27)).heap.size = w3.heap.size + 1 := by simp
            rw [hil]
            clear own3 hb3 hil
            go_wp2_with (at_builtin; refine push_row _ rfl _ _ 22 rfl w.heap.size i22 Try.underlying22 hi22 hz220 hz221 hz222 _ X D DL HDL.out rfl HP.out.own (by omega) (.slice a3 (m - lo) c3) (iot lo m) HP.out.new HP.out.hv HP.out.hX 1 w3.heap.size rfl HP.out.cell rfl HP.out.size ?_)
            intro v6 w6 own6 hgr6 hat6
            have Ho6 := Lib.hid own6
            have Hb6 := Lib.hid (Hb5.out.grown hgr6 (by rw [hs5]; omega) (fun bb hb => (HP.out.own.1.lt bb hb).1))
            clear own6 hgr6 hat6 Hb5
            by_cases hbm : b < (m : Int)
            · have HR6 : Hid (D ++ [iot lo m] ++ hv b K1 lo m = R) := by
                show _ = _
                rw [← HR.out, Hlo.out hbm]; simp
              have hbd : decide (b < (m : Int)) = true := by simpa using hbm
              go_wp2_with fail
              go_roundw
              case rel => exact ⟨lo, m, K1, D ++ [iot lo m], _, rfl, rfl, hlm2, by omega, by omega, hlb, hbm, HR6, Ho6.out, Hb6.out⟩
              case measure => simp [difI]; omega
            · have HR6 : Hid (D ++ [iot lo m] ++ hv b K1 m hi = R) := by
                show _ = _
                rw [← HR.out, Hhi.out (by omega)]; simp
              have hbd : decide (b < (m : Int)) = false := by simpa using hbm
              go_wp2_with fail
              go_roundw
              case rel => exact ⟨m, hi, K1, D ++ [iot lo m], _, rfl, rfl, hmh, hhn, by omega, by omega, hbh, HR6, Ho6.out, Hb6.out⟩
              case measure => simp [difI]; omega
          · have hgt : ¬ (hi : Int) - (lo : Int) > 1 := by omega
            have hw1 : IntKind.i64.wrap ((hi : Int) - (lo : Int)) = (hi : Int) - (lo : Int) := IntWalk.i64_in _ (by omega)
            have hD : D = R := by have h := HR.out; rw [hv_stop b K lo hi hgo, List.append_nil] at h; exact h
            rw [hD] at hor
            have Hor := Lib.hid hor
            clear hor hD
            go_wp2_with fail
            go_ret2
            first | exact ⟨_, X, rfl, Hor.out, hbel⟩ | exact ⟨_, rfl, ⟨X, Hor.out⟩, hbel⟩

end Go.Proofs.Ytejmlhhblckddaa
