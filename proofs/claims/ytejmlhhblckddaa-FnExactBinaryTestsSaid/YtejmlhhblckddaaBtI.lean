/- Tests for the binary digits: the program. -/
import Derived.Test.YtejmlhhblckddaaBt0
namespace Go.Proofs.Ytejmlhhblckddaa
open Go.ChangeShapes Go.WideShapes Go.ChangeAt Go.RowKit
set_option linter.unusedVariables false


set_option maxHeartbeats 1600000 in
set_option maxRecDepth 20000 in
theorem implBt_any (w : World) (f : Int) :
    Calls Try.prog 25 #[.int .i64 f] w fun e w' => ∃ v X, e = .returned (.tuple #[v, .bool (wfB f)]) ∧ OwnSS w' w.heap.size v X (btR f) ∧ Below w.heap.size w w' := by
  obtain ⟨i0, hi, hz0, hz1, hz2⟩ := info_parts info27
  obtain ⟨i3, hi3, hz30, hz31, hz32⟩ := info_parts info3
  cases hw : wfB f
  · have hR : btR f = [] := by simp [btR, hw]
    rw [hR]
    have Hw := Lib.hid hw
    go_enter Try.func25, Try.ntmps25
    go_wp2_with fail
    refine (implFew_any w f).mono ?_
    rintro e w1 ⟨rfl, hb1⟩
    rw [Hw.out]
    go_wp2_with fail
    go_ret2
    exact ⟨_, [], rfl, OwnSS.nil _ _, hb1⟩
  · have hf := wf_parts hw
    obtain ⟨n, rfl⟩ := Int.eq_ofNat_of_zero_le (a := f) (by omega)
    have hn1 : 1 ≤ n := by omega
    have hn10 : n ≤ 10 := by omega
    obtain ⟨D, hD, hD1, hD4, _⟩ := blN n hn1 hn10
    have hR : btR (n : Int) = bts n D := by simp [btR, hw, hD]
    have hF : fwR (n : Int) = D := by simp [fwR, hw, hD]
    rw [hR]
    have Hw := Lib.hid hw
    have HF := Lib.hid hF
    have Hz := Lib.hid (And.intro hz0 (And.intro hz1 hz2))
    clear hf hw hR hF hD hz0 hz1 hz2
    go_enter Try.func25, Try.ntmps25
    go_wp2_with fail
    refine (implFew_any w (n : Int)).mono ?_
    rintro e w1 ⟨rfl, hb1⟩
    rw [Hw.out, HF.out]
    have Hb1 := Lib.hid hb1
    clear hb1
    go_wp2_with (refine wpList_make_full _ rfl _ _ 22 rfl w.heap.size 27 i0 (.slice none 0 0) 1 Try.underlying22 hi Hz.out.1 Hz.out.2.1 .i64 .i64 _ _ D rfl rfl rfl rfl ?_ ?_ ?_ ?_)
    · rw [Hz.out.2.2]; omega
    · unfold maxLen; omega
    · exact Hb1.out.size
    intro w4 hown hgr
    have hown2 : w4.ownsRow w.heap.size 27 1 (.slice (some ⟨w1.heap.size, 0, none⟩) D D) D (List.replicate D (.slice none 0 0)) := by rw [← zero_slices]; simpa using hown
    have H0 := Lib.hid (OwnSS.fresh hown2)
    have Hb4 := Lib.hid (Hb1.out.grown hgr (Hb1.out.size) (fun _ h => by cases h))
    have hgw : w.heap.size ≤ w1.heap.size := Hb1.out.size
    obtain ⟨g, hg⟩ : ∃ g, w1.heap.size = g := ⟨_, rfl⟩
    rw [hg] at H0 hgw
    rw [hg]
    clear hown hgr hown2 hg Hb1
    have Hk0 : Hid (bts n 0 ++ List.replicate (D - 0) [] = List.replicate D []) := rfl
    go_wp2_with fail
    go_loopw [20] (fun i wr => ∃ (d : Nat) (X : List Value), d ≤ D ∧ i = .int .i64 d ∧ OwnSS wr w.heap.size (.slice (some ⟨g, 0, none⟩) D D) X (bts n d ++ List.replicate (D - d) []) ∧ Below w.heap.size w wr) (fun i _ => D - (intOf i).toNat)
    case atStart => exact ⟨0, _, Nat.zero_le _, rfl, by rw [Hk0.out]; exact H0.out, Hb4.out⟩
    case round =>
      obtain ⟨d, X, hd, rfl, hor, hbel⟩ := hrel
      by_cases hlt : d < D
      · rw [← btp_zero n D d hlt] at hor
        have Hor := Lib.hid hor
        have Hbel := Lib.hid hbel
        have Hlast := Lib.hid (btp_last n D d)
        obtain ⟨wa, hwa⟩ : ∃ q, q = wr := ⟨_, rfl⟩
        subst hwa
        clear hor hbel H0 Hb4 Hk0
        go_wp2_with fail
        go_loopw [24] (fun i wr => ∃ (k : Nat) (X : List Value), k ≤ n ∧ i = .int .i64 k ∧ OwnSS wr w.heap.size (.slice (some ⟨g, 0, none⟩) D D) X (btp n D d k) ∧ Below w.heap.size w wr) (fun i _ => n - (intOf i).toNat)
        case atStart => exact ⟨0, X, Nat.zero_le _, rfl, Hor.out, Hbel.out⟩
        case round =>
          obtain ⟨k, X6, hk, rfl, hor, hbel⟩ := hrel
          clear Hor Hbel
          by_cases hlt2 : k < n
          · have hw1 : IntKind.i64.wrap ((k : Int) + 1) = ((k + 1 : Nat) : Int) := by rw [IntWalk.i64_in _ (by omega)]; omega
            have Ht : Hid ((bits BinOp.and IntKind.i64 (((k : Int) + 1) / 2 ^ d) 1 == 1) = (k + 1).testBit d) := digit_test (k + 1) d (by omega)
            cases hb : (k + 1).testBit d
            · have Hno := Lib.hid (btp_no n D d k hb)
              have Hor := Lib.hid hor
              rw [hb] at Ht
              have ht := Ht.out
              clear hor
              go_wp2_with fail
              go_roundw
              case rel => exact ⟨k + 1, X6, by omega, by go_num, by rw [Hno.out]; exact Hor.out, hbel⟩
              case measure => simp [intOf]; omega
            · have Hyes := Lib.hid (btp_yes n D d k hb)
              rw [hb] at Ht
              have ht := Ht.out
              obtain ⟨a7, c7, hX7, hc7, own7⟩ := hor.cellOf (btp_length n D d k hlt).symm d (by rw [btp_length n D d k hlt]; exact hlt)
              obtain ⟨m, hm⟩ : ∃ m, m = (row (btp n D d k) d).length := ⟨_, rfl⟩
              have hmr : m = (bin d k).length := by rw [hm, btp_row]
              have hm10 : m ≤ 10 := by rw [hmr]; have := bin_length d k; omega
              rw [← hm] at hX7 hc7 own7
              rw [btp_row] at own7
              have hne7 : (Value.slice a7 m c7).ownBlock ≠ some g := fun h => (hor.2.2.1 d _ _ hX7 (List.getElem?_eq_getElem (by rw [btp_length n D d k hlt]; exact hlt))).2 g h rfl
              have Hm := Lib.hid hmr
              have hlt2' : g < wr.heap.size := (hor.1.lt g rfl).2
              have bd : Below wr.heap.size wr (wr.alloc (.cells #[.int .i64 (k : Int)] 3)) := (Below.refl wr.heap.size wr).alloc (Nat.le_refl _) _
              have Hrow7 := Lib.hid (own_later own7 bd)
              have Hor7 := Lib.hid (hor.later bd)
              have hrw7 := Hor7.out.1
              rw [btp_length n D d k hlt] at hrw7
              have Hrw7 := Lib.hid hrw7
              have HC7 := Lib.hid (cell_old bd hc7)
              have hs6 := hbel.size
              have Hb7 := Lib.hid (hbel.trans (bd.mono hs6))
              have hszW : (wr.alloc (.cells #[.int .i64 (k : Int)] 3)).heap.size = wr.heap.size + 1 := by simp
              have hck : (wr.alloc (.cells #[.int .i64 (k : Int)] 3)).cell? ⟨wr.heap.size, 0, none⟩ = some (.int .i64 (k : Int)) := by rw [cell_of_row _ _ _ _ _ _ (heap_alloc_new wr _)]; rfl
              have Hck := Lib.hid hck
              have hP0 : (0 : Int) ≤ (d : Int) := by omega
              have hP1 : (d : Int) < (D : Int) := by omega
              have HX7 := Lib.hid hX7
              clear hm own7 bd hX7 hck hmr hor hbel hrw7 hb
              go_wp2_with (at_builtin; refine push_num _ rfl _ _ 27 rfl w.heap.size i3 Try.underlying27 hi3 hz30 hz31 hz32 (.slice a7 m c7) (bin d k) m rfl Hrow7.out (by omega) (k : Int) 1 wr.heap.size rfl Hck.out (by rw [hszW]; omega) ?_)
              intro g9 c9 w9 own9 hgr9 hat9
              have hle9 : (bin d k ++ [(k : Int)]).length = m + 1 := by rw [List.length_append, ← Hm.out]; rfl
              have z1 := (World.cell?_of_block (a := ⟨g, d, none⟩) (hgr9.block g (by rw [hszW]; omega) (fun h => hne7 h.symm))).trans HC7.out
              have z3 := (Hrw7.out.kept hgr9 (.inr (fun h => hne7 h.symm))).frozenAt d
              have hst := OwnSS.replace (w9 := w9) (H := wr.heap.size + 1) Hor7.out (btp_length n D d k hlt).symm d (by rw [btp_length n D d k hlt]; exact hlt) (.slice a7 m c7) (.slice (some ⟨g9, 0, none⟩) (m + 1) c9) (bin d k ++ [(k : Int)]) HX7.out hgr9 (by rw [hle9]; exact own9) (by rcases hat9 with e | e; exact .inl e.symm; exact .inr (by rw [e]; first | rfl | (rw [hszW]; rfl))) (by rw [hszW]; exact Nat.le_refl _)
              rw [Hyes.out] at hst
              have Hst := Lib.hid hst
              have Hbs : Hid (Below w.heap.size w (w9.setCell ⟨g, d, none⟩ (.slice (some ⟨g9, 0, none⟩) (m + 1) c9))) := (Hb7.out.grown hgr9 (by rw [hszW]; omega) (fun b hb => (Hrow7.out.lt b hb).1)).setCell (p := ⟨g, d, none⟩) hgw _
              clear own9 hgr9 hat9 hst hle9 Hrow7 Hrw7 Hor7 HC7 Hb7
              go_wp2_with fail
              go_roundw
              case rel => exact ⟨k + 1, _, by omega, by go_num, Hst.out, Hbs.out⟩
              case measure => simp [intOf]; omega
          · obtain rfl : k = n := by omega
            have Hor := Lib.hid hor
            clear hor
            go_wp2_with fail
            go_roundw
            case rel => exact ⟨d + 1, X6, by omega, by go_num, by rw [← Hlast.out]; exact Hor.out, hbel⟩
            case measure => simp [intOf]; omega
      · obtain rfl : d = D := by omega
        have hp : bts n d ++ List.replicate (d - d) ([] : List Int) = bts n d := by simp
        rw [hp] at hor
        have Hor := Lib.hid hor
        clear hor hp
        go_wp2_with fail
        go_ret2
        exact ⟨_, X, rfl, Hor.out, hbel⟩

end Go.Proofs.Ytejmlhhblckddaa
