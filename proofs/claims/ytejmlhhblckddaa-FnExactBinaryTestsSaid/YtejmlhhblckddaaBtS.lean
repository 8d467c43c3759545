/- Tests for the binary digits: the model. -/
import Derived.Test.YtejmlhhblckddaaBt0
namespace Go.Proofs.Ytejmlhhblckddaa
open Go.ChangeShapes Go.WideShapes Go.ChangeAt Go.RowKit
set_option linter.unusedVariables false


set_option maxHeartbeats 1600000 in
set_option maxRecDepth 20000 in
theorem specBt_any (w : World) (f : Int) :
    Calls Try.prog 24 #[.int .i64 f] w fun e w' => ∃ v X, e = .returned (.tuple #[v, .bool (wfB f)]) ∧ OwnSS w' w.heap.size v X (btR f) ∧ Below w.heap.size w w' := by
  obtain ⟨i0, hi, hz0, hz1, hz2⟩ := info_parts info27
  obtain ⟨i3, hi3, hz30, hz31, hz32⟩ := info_parts info3
  cases hw : wfB f
  · have hR : btR f = [] := by simp [btR, hw]
    rw [hR]
    have Hw := Lib.hid hw
    go_enter Try.func24, Try.ntmps24
    go_wp2_with fail
    refine (wiWires_any f w).mono ?_
    rintro e w1 ⟨rfl, rfl⟩
    rw [Hw.out]
    go_wp2_with fail
    go_ret2
    exact ⟨_, [], rfl, OwnSS.nil _ _, Below.refl _ _⟩
  · have hf := wf_parts hw
    obtain ⟨n, rfl⟩ := Int.eq_ofNat_of_zero_le (a := f) (by omega)
    have hn1 : 1 ≤ n := by omega
    have hn10 : n ≤ 10 := by omega
    obtain ⟨D, hD, hD1, hD4, hDd⟩ := blN n hn1 hn10
    have hR : btR (n : Int) = bts n D := by simp [btR, hw, hD]
    rw [hR]
    have Hw := Lib.hid hw
    have HD := Lib.hid hDd
    clear hf hw hR hD hDd
    go_enter Try.func24, Try.ntmps24
    go_wp2_with fail
    refine (wiWires_any (n : Int) w).mono ?_
    rintro e w1 ⟨rfl, rfl⟩
    rw [Hw.out]
    go_wp2_with fail
    go_loopw [4, 5] (fun v i wr => ∃ (d : Nat) (X : List Value), d ≤ D ∧ i = .int .i64 ((2 ^ d : Nat) : Int) ∧ OwnSS wr w.heap.size v X (bts n d) ∧ Below w.heap.size w wr) (fun _ i _ => 17 - (intOf i).toNat)
    case atStart => exact ⟨0, [], Nat.zero_le _, rfl, OwnSS.nil _ _, Below.refl _ _⟩
    case round =>
      obtain ⟨d, X, hd, rfl, hor, hbel⟩ := hrel
      have hDd := HD.out d (by omega)
      obtain ⟨P, hP⟩ : ∃ P, P = 2 ^ d := ⟨_, rfl⟩
      have HP2 := Lib.hid hP
      by_cases hlt : d < D
      · have hle : P ≤ n := by rw [hP]; exact hDd.2 hlt
        rw [← hP]
        obtain ⟨ao, cap, rfl, _⟩ := hor.reads
        rw [bts_length] at hor ⊢
        have Hor := Lib.hid hor
        have Hbel := Lib.hid hbel
        have hsz := hbel.size
        have HL : Hid ((bts n d).length = d) := bts_length n d
        obtain ⟨wa, hwa⟩ : ∃ q, q = wr := ⟨_, rfl⟩
        subst hwa
        clear hor hbel hDd hP
        go_wp2_with fail
        go_loopw [6, 7] (fun v i wr => ∃ (k : Nat), k ≤ n ∧ i = .int .i64 k ∧ wr.ownsRow wa.heap.size 3 1 v (bin d k).length (ns (bin d k)) ∧ Below wa.heap.size wa wr) (fun _ i _ => n - (intOf i).toNat)
        case atStart => exact ⟨0, Nat.zero_le _, rfl, World.ownsRow_nil _ _ _ _, Below.refl _ _⟩
        case round =>
          obtain ⟨k, hk, rfl, hrow, hbel⟩ := hrel
          by_cases hlt2 : k < n
          · have hw1 : IntKind.i64.wrap ((k : Int) + 1) = ((k + 1 : Nat) : Int) := by rw [IntWalk.i64_in _ (by omega)]; omega
            have ht0 : (bits BinOp.and IntKind.i64 ((k : Int) + 1) (P : Int) != 0) = (k + 1).testBit d := by have h := bit_test (k + 1) d (by omega) (by omega); rw [← HP2.out] at h; exact h
            cases hb : (k + 1).testBit d
            · have Hno : Hid (bin d (k + 1) = bin d k) := by show _ = _; simp only [bin]; rw [if_neg (by rw [hb]; decide)]
              have Hrow := Lib.hid hrow
              rw [hb] at ht0
              clear hrow hb
              go_wp2_with fail
              go_roundw
              case rel => exact ⟨k + 1, by omega, by go_num, by rw [Hno.out]; exact Hrow.out, hbel⟩
              case measure => simp [intOf]; omega
            · have Hyes : Hid (bin d (k + 1) = bin d k ++ [(k : Int)]) := by show _ = _; simp only [bin]; rw [if_pos hb]
              rw [hb] at ht0
              obtain ⟨m, hm⟩ : ∃ m, m = (bin d k).length := ⟨_, rfl⟩
              rw [← hm] at hrow
              have Hm := Lib.hid hm
              have hm10 : m ≤ 10 := by rw [hm]; have := bin_length d k; omega
              have hs6 := hbel.size
              have bd : Below wr.heap.size wr (wr.alloc (.cells #[.int .i64 (k : Int)] 3)) := (Below.refl wr.heap.size wr).alloc (Nat.le_refl _) _
              have Hrow7 := Lib.hid (own_later hrow bd)
              have Hb7 := Lib.hid (hbel.trans (bd.mono hs6))
              have hszW : (wr.alloc (.cells #[.int .i64 (k : Int)] 3)).heap.size = wr.heap.size + 1 := by simp
              have hck : (wr.alloc (.cells #[.int .i64 (k : Int)] 3)).cell? ⟨wr.heap.size, 0, none⟩ = some (.int .i64 (k : Int)) := by rw [cell_of_row _ _ _ _ _ _ (heap_alloc_new wr _)]; rfl
              have Hck := Lib.hid hck
              clear hrow hbel bd hck hm hb
              go_wp2_with (at_builtin; refine push_num _ rfl _ _ 27 rfl wa.heap.size i3 Try.underlying27 hi3 hz30 hz31 hz32 _ (bin d k) m rfl Hrow7.out (by omega) (k : Int) 1 wr.heap.size rfl Hck.out (by rw [hszW]; omega) ?_)
              intro g9 c9 w9 own9 hgr9 hat9
              have Ho9 : Hid (w9.ownsRow wa.heap.size 3 1 (.slice (some ⟨g9, 0, none⟩) (m + 1) c9) (bin d (k + 1)).length (ns (bin d (k + 1)))) := by
                show World.ownsRow _ _ _ _ _ _ _
                rw [Hyes.out, List.length_append, ← Hm.out]; exact own9
              have Hb9 := Lib.hid (Hb7.out.grown hgr9 (by rw [hszW]; omega) (fun bb hb => (Hrow7.out.lt bb hb).1))
              clear own9 hgr9 hat9 Hb7
              go_wp2_with fail
              go_roundw
              case rel => exact ⟨k + 1, by omega, by go_num, Ho9.out, Hb9.out⟩
              case measure => simp [intOf]; omega
          · obtain rfl : k = n := by omega
            obtain ⟨aq, cq, rfl, _⟩ := nums_shape hrow rfl
            have hs6 := hbel.size
            have HP := Lib.hid (newRow Hor.out hsz hbel hrow)
            have Hb5 := Lib.hid ((Hbel.out.trans (hbel.mono hsz)).alloc (by omega) (.cells #[.slice aq (bin d k).length cq] 27))
            have hs5 : (wr.alloc (.cells #[.slice aq (bin d k).length cq] 27)).heap.size = wr.heap.size + 1 := by simp
            have Hnext : Hid (bts k d ++ [bin d k] = bts k (d + 1)) := rfl
            have Hpow : Hid (((2 ^ (d + 1) : Nat) : Int) = (P : Int) * 2) := by show _ = _; rw [Nat.pow_succ, ← HP2.out]; omega
            have HPd := HP2.out
            have hw2 : IntKind.i64.wrap ((P : Int) * 2) = (P : Int) * 2 := IntWalk.i64_in _ (by omega)
            have hP1 : 1 ≤ P := by rw [HPd]; exact Nat.two_pow_pos d
            obtain ⟨m, hm⟩ : ∃ m, m = (bin d k).length := ⟨_, rfl⟩
            rw [← hm] at HP Hb5 hs5
            rw [← hm]
            clear hrow hbel HPd hm
            go_wp2_with (at_builtin; refine push_row _ rfl _ _ 22 rfl w.heap.size i0 Try.underlying22 hi hz0 hz1 hz2 _ X (bts k d) d HL.out rfl HP.out.own (by omega) (.slice aq m cq) (bin d k) HP.out.new HP.out.hv HP.out.hX 1 wr.heap.size rfl HP.out.cell rfl HP.out.size ?_)
            intro v6 w6 own6 hgr6 hat6
            rw [Hnext.out] at own6
            have Ho6 := Lib.hid own6
            have Hb6 := Lib.hid (Hb5.out.grown hgr6 (by rw [hs5]; omega) (fun bb hb => (HP.out.own.1.lt bb hb).1))
            clear own6 hgr6 hat6 Hb5
            go_wp2_with fail
            go_roundw
            case rel => exact ⟨d + 1, _, by omega, by rw [Hpow.out], Ho6.out, Hb6.out⟩
            case measure => simp [intOf]; omega
      · obtain rfl : d = D := by omega
        have hgt : ¬ P ≤ n := by rw [hP]; intro h; exact hlt (hDd.1 h)
        have hdn : decide ((P : Int) ≤ n) = false := by simp; omega
        rw [← hP]
        have Hor := Lib.hid hor
        clear hor hDd hP
        go_wp2_with fail
        go_ret2
        exact ⟨_, X, rfl, Hor.out, hbel⟩

end Go.Proofs.Ytejmlhhblckddaa
