/- The walk of the law FnExactRenameCalls: it answers true and turns nothing that was there. -/
import Derived.Test.YtafmpphdpaifbaaRename
import Derived.Test.YtafmpphdpaifbaaOpen
namespace Go.Proofs.Ytafmpphdpaifbaa
open Go.ChangeShapes Go.WideShapes Go.ChangeAt Go.RowKit
set_option linter.unusedVariables false

theorem toIntS_pos (b off cap : Nat) (l : List Int) (n : Nat) (w : World) (Hn : Hid (n = l.length)) (hl : n ≤ 1048576) (hl0 : 0 < n)
    (Hc : Hid (∀ i, i < n → w.cell? ⟨b, off + i, none⟩ = some (.int .i64 (na l i)))) :
    Calls Try.prog 7 #[.slice (some ⟨b, off, none⟩) n cap] w fun e w' => ∃ cap', e = .returned (.slice (some ⟨w.heap.size, 0, none⟩) n cap') ∧ w'.ownsRow w.heap.size 3 1 (.slice (some ⟨w.heap.size, 0, none⟩) n cap') n (ns l) ∧ Below w.heap.size w w' := by
  obtain ⟨i0, hi, hz0, hz1, hz2⟩ := info_parts info3
  have Hz := Lib.hid (And.intro hz0 (And.intro hz1 hz2))
  have hb : b < w.heap.size := World.block_lt_of_cell? w _ (Hc.out 0 hl0)
  clear hz0 hz1 hz2
  go_enter Try.func7, Try.ntmps7
  go_wp2_with (refine wpList_make_full _ rfl _ _ 23 rfl w.heap.size 3 i0 (.int .i64 0) 1 Try.underlying23 hi Hz.out.1 Hz.out.2.1 .i64 .i64 _ _ n rfl rfl rfl rfl ?_ ?_ ?_ ?_)
  · rw [Hz.out.2.2]; omega
  · unfold maxLen; omega
  · exact Nat.le_refl _
  intro w1 hown hgr
  have hown2 : w1.ownsRow w.heap.size 3 1 (.slice (some ⟨w.heap.size, 0, none⟩) n n) n (ns (List.replicate n 0)) := by rw [← zero_nums, Nat.mul_one]; simpa using hown
  have Hown0 := Lib.hid hown2
  have Hgr := Lib.hid hgr
  clear hown hgr hown2
  go_wp2_with fail
  go_loopw [4] (fun i wr => ∃ k : Nat, k ≤ n ∧ i = .int .i64 k ∧ wr.ownsRow w.heap.size 3 1 (.slice (some ⟨w.heap.size, 0, none⟩) n n) n (ns (npart l k)) ∧ Below w.heap.size w wr) (fun i _ => n - (intOf i).toNat)
  case atStart => exact ⟨0, Nat.zero_le _, rfl, by rw [npart_zero, ← Hn.out]; exact Hown0.out, (Below.refl _ _).grown Hgr.out (Nat.le_refl _) (fun _ h => by cases h)⟩
  case round =>
    obtain ⟨k, hk, rfl, hor, hbel⟩ := hrel
    by_cases hlt : k < n
    · have h0 := hbel.cell (p := ⟨b, off + k, none⟩) hb
      rw [Hc.out k hlt] at h0
      obtain ⟨u0, z0⟩ := own_some hor k (by omega)
      have zf0 := hor.frozenAt k
      have hor3 := (hor.stored k (.int .i64 (na l k))).1
      rw [ns_set, npart_set l k (by rw [← Hn.out]; exact hlt)] at hor3
      have Hor3 := Lib.hid hor3
      clear hor3 hor
      go_wp2_with fail
      go_roundw
      case rel => exact ⟨k + 1, by omega, by go_num, Hor3.out, hbel.setCell (Nat.le_refl _) _⟩
      case measure => simp [intOf]; omega
    · have hk' : k = n := by omega
      have hp : npart l k = l := by rw [hk', Hn.out, npart_all]
      rw [hp] at hor
      have Hor := Lib.hid hor
      clear hor hp hk'
      go_wp2
      go_ret
      exact ⟨n, rfl, Hor.out, hbel⟩

theorem toIntS_zero (ao : Option Addr) (cap : Nat) (w : World) :
    Calls Try.prog 7 #[.slice ao 0 cap] w fun e w' => ∃ cap', e = .returned (.slice (some ⟨w.heap.size, 0, none⟩) 0 cap') ∧ w'.ownsRow w.heap.size 3 1 (.slice (some ⟨w.heap.size, 0, none⟩) 0 cap') 0 (ns []) ∧ Below w.heap.size w w' := by
  obtain ⟨i0, hi, hz0, hz1, hz2⟩ := info_parts info3
  have Hz := Lib.hid (And.intro hz0 (And.intro hz1 hz2))
  clear hz0 hz1 hz2
  go_enter Try.func7, Try.ntmps7
  go_wp2_with (refine wpList_make_full _ rfl _ _ 23 rfl w.heap.size 3 i0 (.int .i64 0) 1 Try.underlying23 hi Hz.out.1 Hz.out.2.1 .i64 .i64 _ _ 0 rfl rfl rfl rfl ?_ ?_ ?_ ?_)
  · omega
  · unfold maxLen; omega
  · exact Nat.le_refl _
  intro w1 hown hgr
  have zc := zero_nums 0
  rw [Nat.zero_mul] at zc
  rw [zc] at hown
  have Hown := Lib.hid hown
  have Hbel := Lib.hid ((Below.refl w.heap.size w).grown hgr (Nat.le_refl _) (fun _ h => by cases h))
  clear hown hgr zc
  go_wp2_with fail
  go_rounds 1
  go_ret
  exact ⟨0, rfl, Hown.out, Hbel.out⟩

theorem toIntS_any (ao : Option Addr) (cap : Nat) (l : List Int) (n : Nat) (w : World) (Hn : Hid (n = l.length)) (hl : n ≤ 1048576) (Hc : Hid (NumsAt w ao l)) :
    Calls Try.prog 7 #[.slice ao n cap] w fun e w' => ∃ cap', e = .returned (.slice (some ⟨w.heap.size, 0, none⟩) n cap') ∧ w'.ownsRow w.heap.size 3 1 (.slice (some ⟨w.heap.size, 0, none⟩) n cap') n (ns l) ∧ Below w.heap.size w w' := by
  by_cases h0 : n = 0
  · subst h0
    have : l = [] := List.eq_nil_of_length_eq_zero Hn.out.symm
    subst this
    exact toIntS_zero ao cap w
  · rcases Hc.out with h | ⟨b, off, rfl, hc⟩
    · subst h; exact absurd Hn.out h0
    · exact toIntS_pos b off cap l n w Hn hl (by omega) (by rw [Hn.out]; exact hc)

theorem own_cap {w : World} {base : Nat} {e : TypeId} {size g n m cap : Nat} {xs : List Value} (h : w.ownsRow base e size (.slice (some ⟨g, 0, none⟩) n cap) m xs) : n ≤ cap := by
  rcases h.2 with ⟨h', _⟩ | ⟨g', cap', cur, h', _, _, hnc, _⟩
  · simp at h'
  · simp only [Value.slice.injEq] at h'
    obtain ⟨_, h2, h3⟩ := h'
    omega

set_option maxRecDepth 20000 in
theorem walkRename (W : World) (a0 : Int) (_w0 : (Lit.int .i64 a0).wf = true) (o1 : Option Addr) (n1 c1 : Nat) (l1 : List (Int × Int)) (q1n : n1 = l1.length) (q1m : n1 ≤ 9223372036854775807) (q1c : CallsAt W o1 l1) (o2 : Option Addr) (n2 c2 : Nat) (l2 : List (Int)) (q2n : n2 = l2.length) (q2m : n2 ≤ 9223372036854775807) (q2c : NumsAt W o2 l2) :
    Calls Try.prog 3 #[.int .i64 a0, .slice o1 n1 c1, .slice o2 n2 c2] W fun e w' => e = .returned (.bool true) ∧ Below W.heap.size W w' := by
  have Hn1 := Lib.hid q1n
  have Hc1 := Lib.hid q1c
  clear q1n q1c
  have Hn2 := Lib.hid q2n
  have Hc2 := Lib.hid q2c
  clear q2n q2c
  by_cases hs2 : n2 ≤ 1048576
  · by_cases hs1 : n1 ≤ 1048576
    · go_enter Try.func3, Try.ntmps3
      go_wp2_with fail
      refine (szCallS_small o1 n1 c1 W hs1).mono ?_
      rintro e w' ⟨rfl, rfl⟩
      go_wp2_with fail
      refine (toCallS_any o1 c1 l1 n1 W Hn1 hs1 Hc1).mono ?_
      rintro e w1 ⟨capy1, rfl, owny1, bel1⟩
      have b1 : Below W.heap.size W w1 := bel1
      clear bel1
      have Hy1 : W.heap.size ≤ W.heap.size := Nat.le_refl _
      have Oy1 := Lib.hid owny1
      clear owny1
      have OOy1 := Oy1
      go_wp2_with fail
      refine (toIntS_any o2 c2 l2 n2 w1 Hn2 hs2 (Hc2.out.kept b1)).mono ?_
      rintro e w2 ⟨capy2, rfl, owny2, bel2⟩
      have b2 : Below W.heap.size W w2 := b1.trans (bel2.mono b1.size)
      have Oy1 := Lib.hid (own_later Oy1.out bel2)
      clear bel2
      have Hy2 : W.heap.size ≤ w1.heap.size := b1.size
      have Oy2 := Lib.hid owny2
      clear owny2
      have Ay1y2 := Lib.hid (apart_of OOy1.out Oy2.out)
      have Ay2y1 := Lib.hid (apart_of' OOy1.out Oy2.out)
      have OOy1 := Oy1
      have OOy2 := Oy2
      go_wp2_with fail
      refine (specRename_any w2 a0 _ capy1 l1 n1 Hn1 hs1 (own_at Oy1.out Hn1.out) (own_cap Oy1.out) _ capy2 l2 n2 Hn2 hs2 (nums_at Oy2.out Hn2.out) (own_cap Oy2.out)).mono ?_
      rintro e w3 ⟨vw, rfl, ownvw, bel3⟩
      have b3 : Below W.heap.size W w3 := b2.trans (bel3.mono b2.size)
      have Oy1 := Lib.hid (own_later Oy1.out bel3)
      have Oy2 := Lib.hid (own_later Oy2.out bel3)
      clear bel3
      have Hvw : W.heap.size ≤ w2.heap.size := b2.size
      have Ovw := Lib.hid ownvw
      clear ownvw
      have Ay1vw := Lib.hid (apart_of OOy1.out Ovw.out)
      have Avwy1 := Lib.hid (apart_of' OOy1.out Ovw.out)
      have Ay2vw := Lib.hid (apart_of OOy2.out Ovw.out)
      have Avwy2 := Lib.hid (apart_of' OOy2.out Ovw.out)
      have OOvw := Ovw
      go_wp2_with fail
      refine (toCallS_any o1 c1 l1 n1 w3 Hn1 hs1 (Hc1.out.kept b3)).mono ?_
      rintro e w4 ⟨capx1, rfl, ownx1, bel4⟩
      have b4 : Below W.heap.size W w4 := b3.trans (bel4.mono b3.size)
      have Ovw := Lib.hid (own_later Ovw.out bel4)
      clear bel4
      have Hx1 : W.heap.size ≤ w3.heap.size := b3.size
      have Ox1 := Lib.hid ownx1
      clear ownx1
      have Avwx1 := Lib.hid (apart_of OOvw.out Ox1.out)
      have Ax1vw := Lib.hid (apart_of' OOvw.out Ox1.out)
      have OOvw := Ovw
      have OOx1 := Ox1
      go_wp2_with fail
      refine (toIntS_any o2 c2 l2 n2 w4 Hn2 hs2 (Hc2.out.kept b4)).mono ?_
      rintro e w5 ⟨capx2, rfl, ownx2, bel5⟩
      have b5 : Below W.heap.size W w5 := b4.trans (bel5.mono b4.size)
      have Ovw := Lib.hid (own_later Ovw.out bel5)
      have Ox1 := Lib.hid (own_later Ox1.out bel5)
      clear bel5
      have Hx2 : W.heap.size ≤ w4.heap.size := b4.size
      have Ox2 := Lib.hid ownx2
      clear ownx2
      have Avwx2 := Lib.hid (apart_of OOvw.out Ox2.out)
      have Ax2vw := Lib.hid (apart_of' OOvw.out Ox2.out)
      have Ax1x2 := Lib.hid (apart_of OOx1.out Ox2.out)
      have Ax2x1 := Lib.hid (apart_of' OOx1.out Ox2.out)
      have hok : ((renB a0 l1 l2) != (renB a0 l1 l2)) = false := by simp
      have OOvw := Ovw
      have OOx1 := Ox1
      have OOx2 := Ox2
      go_wp2_with fail
      refine (implRename_any w5 a0 _ capx1 l1 n1 Hn1 hs1 (own_at Ox1.out Hn1.out) (own_cap Ox1.out) _ capx2 l2 n2 Hn2 hs2 (nums_at Ox2.out Hn2.out) (own_cap Ox2.out)).mono ?_
      rintro e w6 ⟨vg, rfl, ownvg, bel6⟩
      have b6 : Below W.heap.size W w6 := b5.trans (bel6.mono b5.size)
      have Ovw := Lib.hid (own_later Ovw.out bel6)
      have Ox1 := Lib.hid (own_later Ox1.out bel6)
      have Ox2 := Lib.hid (own_later Ox2.out bel6)
      clear bel6
      have Hvg : W.heap.size ≤ w5.heap.size := b5.size
      have Ovg := Lib.hid ownvg
      clear ownvg
      have Avwvg := Lib.hid (apart_of OOvw.out Ovg.out)
      have Avgvw := Lib.hid (apart_of' OOvw.out Ovg.out)
      have Ax1vg := Lib.hid (apart_of OOx1.out Ovg.out)
      have Avgx1 := Lib.hid (apart_of' OOx1.out Ovg.out)
      have Ax2vg := Lib.hid (apart_of OOx2.out Ovg.out)
      have Avgx2 := Lib.hid (apart_of' OOx2.out Ovg.out)
      have hlen := renL_len a0 l1 l2
      go_wp2_with fail
      refine (eqCallS_own _ _ (renL a0 l1 l2) (renL a0 l1 l2).length (renL a0 l1 l2).length w6 rfl rfl (by omega) Ovg.out Ovw.out).mono ?_
      rintro e w7 ⟨rfl, bel7⟩
      have b7 : Below W.heap.size W w7 := b6.trans (bel7.mono b6.size)
      have Ovw := Lib.hid (own_later Ovw.out bel7)
      have Ox1 := Lib.hid (own_later Ox1.out bel7)
      have Ox2 := Lib.hid (own_later Ox2.out bel7)
      have Ovg := Lib.hid (own_later Ovg.out bel7)
      clear bel7
      have OOvw := Ovw
      have OOx1 := Ox1
      have OOx2 := Ox2
      have OOvg := Ovg
      go_wp2_with fail
      refine (toCallS_any o1 c1 l1 n1 w7 Hn1 hs1 (Hc1.out.kept b7)).mono ?_
      rintro e w8 ⟨capz1, rfl, ownz1, bel8⟩
      have b8 : Below W.heap.size W w8 := b7.trans (bel8.mono b7.size)
      have Ovw := Lib.hid (own_later Ovw.out bel8)
      have Ox1 := Lib.hid (own_later Ox1.out bel8)
      have Ox2 := Lib.hid (own_later Ox2.out bel8)
      have Ovg := Lib.hid (own_later Ovg.out bel8)
      clear bel8
      have Hz1 : W.heap.size ≤ w7.heap.size := b7.size
      have Oz1 := Lib.hid ownz1
      clear ownz1
      have Avwz1 := Lib.hid (apart_of OOvw.out Oz1.out)
      have Az1vw := Lib.hid (apart_of' OOvw.out Oz1.out)
      have Ax1z1 := Lib.hid (apart_of OOx1.out Oz1.out)
      have Az1x1 := Lib.hid (apart_of' OOx1.out Oz1.out)
      have Ax2z1 := Lib.hid (apart_of OOx2.out Oz1.out)
      have Az1x2 := Lib.hid (apart_of' OOx2.out Oz1.out)
      have Avgz1 := Lib.hid (apart_of OOvg.out Oz1.out)
      have Az1vg := Lib.hid (apart_of' OOvg.out Oz1.out)
      go_wp2_with fail
      refine (eqCallS_own _ _ l1 n1 n1 w8 Hn1.out Hn1.out (by omega) Ox1.out Oz1.out).mono ?_
      rintro e w9 ⟨rfl, bel9⟩
      have b9 : Below W.heap.size W w9 := b8.trans (bel9.mono b8.size)
      have Ovw := Lib.hid (own_later Ovw.out bel9)
      have Ox1 := Lib.hid (own_later Ox1.out bel9)
      have Ox2 := Lib.hid (own_later Ox2.out bel9)
      have Ovg := Lib.hid (own_later Ovg.out bel9)
      have Oz1 := Lib.hid (own_later Oz1.out bel9)
      clear bel9
      have OOvw := Ovw
      have OOx1 := Ox1
      have OOx2 := Ox2
      have OOvg := Ovg
      go_wp2_with fail
      refine (toIntS_any o2 c2 l2 n2 w9 Hn2 hs2 (Hc2.out.kept b9)).mono ?_
      rintro e w10 ⟨capz2, rfl, ownz2, bel10⟩
      have b10 : Below W.heap.size W w10 := b9.trans (bel10.mono b9.size)
      have Ovw := Lib.hid (own_later Ovw.out bel10)
      have Ox1 := Lib.hid (own_later Ox1.out bel10)
      have Ox2 := Lib.hid (own_later Ox2.out bel10)
      have Ovg := Lib.hid (own_later Ovg.out bel10)
      clear bel10
      have Hz2 : W.heap.size ≤ w9.heap.size := b9.size
      have Oz2 := Lib.hid ownz2
      clear ownz2
      have Avwz2 := Lib.hid (apart_of OOvw.out Oz2.out)
      have Az2vw := Lib.hid (apart_of' OOvw.out Oz2.out)
      have Ax1z2 := Lib.hid (apart_of OOx1.out Oz2.out)
      have Az2x1 := Lib.hid (apart_of' OOx1.out Oz2.out)
      have Ax2z2 := Lib.hid (apart_of OOx2.out Oz2.out)
      have Az2x2 := Lib.hid (apart_of' OOx2.out Oz2.out)
      have Avgz2 := Lib.hid (apart_of OOvg.out Oz2.out)
      have Az2vg := Lib.hid (apart_of' OOvg.out Oz2.out)
      go_wp2_with fail
      refine (eqIntS_own _ _ l2 n2 n2 w10 Hn2.out Hn2.out (by omega) Ox2.out Oz2.out).mono ?_
      rintro e w11 ⟨rfl, bel11⟩
      have b11 : Below W.heap.size W w11 := b10.trans (bel11.mono b10.size)
      have Ovw := Lib.hid (own_later Ovw.out bel11)
      have Ox1 := Lib.hid (own_later Ox1.out bel11)
      have Ox2 := Lib.hid (own_later Ox2.out bel11)
      have Ovg := Lib.hid (own_later Ovg.out bel11)
      have Oz2 := Lib.hid (own_later Oz2.out bel11)
      clear bel11
      go_wp2_with fail
      refine (markCallS_any _ _ l1 n1 w11  Hn1.out (by omega) Ox1.out).mono ?_
      rintro e w12 ⟨rfl, ownx1, gr12⟩
      have b12 : Below W.heap.size W w12 := b11.grown gr12 b11.size (fun k hk => Nat.le_trans Hx1 (Ox1.out.lt k hk).1)
      have Ovw := Lib.hid (Ovw.out.kept gr12 Avwx1.out)
      have Ox2 := Lib.hid (Ox2.out.kept gr12 Ax2x1.out)
      have Ovg := Lib.hid (Ovg.out.kept gr12 Avgx1.out)
      have Ox1 := Lib.hid ownx1
      clear ownx1 gr12
      go_wp2_with fail
      refine (markIntS_any _ _ l2 n2 w12 (1 + 2 * (n1 : Int)) (by omega) (by omega) Hn2.out (by omega) Ox2.out).mono ?_
      rintro e w13 ⟨rfl, ownx2, gr13⟩
      have b13 : Below W.heap.size W w13 := b12.grown gr13 b12.size (fun k hk => Nat.le_trans Hx2 (Ox2.out.lt k hk).1)
      have Ovw := Lib.hid (Ovw.out.kept gr13 Avwx2.out)
      have Ox1 := Lib.hid (Ox1.out.kept gr13 Ax1x2.out)
      have Ovg := Lib.hid (Ovg.out.kept gr13 Avgx2.out)
      have Ox2 := Lib.hid ownx2
      clear ownx2 gr13
      go_wp2_with fail
      refine (eqCallS_own _ _ (renL a0 l1 l2) (renL a0 l1 l2).length (renL a0 l1 l2).length w13 rfl rfl (by omega) Ovg.out Ovw.out).mono ?_
      rintro e w14 ⟨rfl, bel14⟩
      have b14 : Below W.heap.size W w14 := b13.trans (bel14.mono b13.size)
      have Ovw := Lib.hid (own_later Ovw.out bel14)
      have Ox1 := Lib.hid (own_later Ox1.out bel14)
      have Ox2 := Lib.hid (own_later Ox2.out bel14)
      have Ovg := Lib.hid (own_later Ovg.out bel14)
      clear bel14
      go_wp2_with fail
      refine (markCallS_any _ _ (renL a0 l1 l2) (renL a0 l1 l2).length w14 rfl (by omega) Ovg.out).mono ?_
      rintro e w15 ⟨rfl, ownvg, gr15⟩
      have b15 : Below W.heap.size W w15 := b14.grown gr15 b14.size (fun k hk => Nat.le_trans Hvg (Ovg.out.lt k hk).1)
      have Ovw := Lib.hid (Ovw.out.kept gr15 Avwvg.out)
      have Ovg := Lib.hid ownvg
      clear ownvg gr15
      have hmm : ((1 + 2 * ((renL a0 l1 l2).length : Int)) != (1 + 2 * ((renL a0 l1 l2).length : Int))) = false := by simp
      go_wp2_with fail
      refine (heldCallS_any _ _ (renL a0 l1 l2) (renL a0 l1 l2).length w15 rfl (by omega) Ovg.out).mono ?_
      rintro e w' ⟨rfl, rfl⟩
      have OOvw := Ovw
      have OOvg := Ovg
      go_wp2_with fail
      refine (toCallS_any o1 c1 l1 n1 w15 Hn1 hs1 (Hc1.out.kept b15)).mono ?_
      rintro e w16 ⟨capu1, rfl, ownu1, bel16⟩
      have b16 : Below W.heap.size W w16 := b15.trans (bel16.mono b15.size)
      have Ovw := Lib.hid (own_later Ovw.out bel16)
      have Ovg := Lib.hid (own_later Ovg.out bel16)
      clear bel16
      have Hu1 : W.heap.size ≤ w15.heap.size := b15.size
      have Ou1 := Lib.hid ownu1
      clear ownu1
      have Avwu1 := Lib.hid (apart_of OOvw.out Ou1.out)
      have Au1vw := Lib.hid (apart_of' OOvw.out Ou1.out)
      have Avgu1 := Lib.hid (apart_of OOvg.out Ou1.out)
      have Au1vg := Lib.hid (apart_of' OOvg.out Ou1.out)
      have OOvw := Ovw
      have OOvg := Ovg
      have OOu1 := Ou1
      go_wp2_with fail
      refine (toIntS_any o2 c2 l2 n2 w16 Hn2 hs2 (Hc2.out.kept b16)).mono ?_
      rintro e w17 ⟨capu2, rfl, ownu2, bel17⟩
      have b17 : Below W.heap.size W w17 := b16.trans (bel17.mono b16.size)
      have Ovw := Lib.hid (own_later Ovw.out bel17)
      have Ovg := Lib.hid (own_later Ovg.out bel17)
      have Ou1 := Lib.hid (own_later Ou1.out bel17)
      clear bel17
      have Hu2 : W.heap.size ≤ w16.heap.size := b16.size
      have Ou2 := Lib.hid ownu2
      clear ownu2
      have Avwu2 := Lib.hid (apart_of OOvw.out Ou2.out)
      have Au2vw := Lib.hid (apart_of' OOvw.out Ou2.out)
      have Avgu2 := Lib.hid (apart_of OOvg.out Ou2.out)
      have Au2vg := Lib.hid (apart_of' OOvg.out Ou2.out)
      have Au1u2 := Lib.hid (apart_of OOu1.out Ou2.out)
      have Au2u1 := Lib.hid (apart_of' OOu1.out Ou2.out)
      have OOvw := Ovw
      have OOvg := Ovg
      have OOu1 := Ou1
      have OOu2 := Ou2
      go_wp2_with fail
      refine (implRename_any w17 a0 _ capu1 l1 n1 Hn1 hs1 (own_at Ou1.out Hn1.out) (own_cap Ou1.out) _ capu2 l2 n2 Hn2 hs2 (nums_at Ou2.out Hn2.out) (own_cap Ou2.out)).mono ?_
      rintro e w18 ⟨vh, rfl, ownvh, bel18⟩
      have b18 : Below W.heap.size W w18 := b17.trans (bel18.mono b17.size)
      have Ovw := Lib.hid (own_later Ovw.out bel18)
      have Ovg := Lib.hid (own_later Ovg.out bel18)
      have Ou1 := Lib.hid (own_later Ou1.out bel18)
      have Ou2 := Lib.hid (own_later Ou2.out bel18)
      clear bel18
      have Hvh : W.heap.size ≤ w17.heap.size := b17.size
      have Ovh := Lib.hid ownvh
      clear ownvh
      have Avwvh := Lib.hid (apart_of OOvw.out Ovh.out)
      have Avhvw := Lib.hid (apart_of' OOvw.out Ovh.out)
      have Avgvh := Lib.hid (apart_of OOvg.out Ovh.out)
      have Avhvg := Lib.hid (apart_of' OOvg.out Ovh.out)
      have Au1vh := Lib.hid (apart_of OOu1.out Ovh.out)
      have Avhu1 := Lib.hid (apart_of' OOu1.out Ovh.out)
      have Au2vh := Lib.hid (apart_of OOu2.out Ovh.out)
      have Avhu2 := Lib.hid (apart_of' OOu2.out Ovh.out)
      go_wp2_with fail
      refine (eqCallS_own _ _ (renL a0 l1 l2) (renL a0 l1 l2).length (renL a0 l1 l2).length w18 rfl rfl (by omega) Ovh.out Ovw.out).mono ?_
      rintro e w19 ⟨rfl, bel19⟩
      have b19 : Below W.heap.size W w19 := b18.trans (bel19.mono b18.size)
      have Ovw := Lib.hid (own_later Ovw.out bel19)
      have Ovg := Lib.hid (own_later Ovg.out bel19)
      have Ovh := Lib.hid (own_later Ovh.out bel19)
      clear bel19
      go_wp2_with fail
      refine (heldCallS_any _ _ (renL a0 l1 l2) (renL a0 l1 l2).length w19 rfl (by omega) Ovg.out).mono ?_
      rintro e w' ⟨rfl, rfl⟩
      go_wp2_with fail
      go_ret
      exact ⟨rfl, b19⟩
    · go_enter Try.func3, Try.ntmps3
      go_wp2_with fail
      refine (szCallS_great o1 n1 c1 W (by omega) q1m).mono ?_
      rintro e w' ⟨rfl, rfl⟩
      go_wp2_with fail
      go_ret
      exact ⟨rfl, Below.refl _ _⟩
  · go_enter Try.func3, Try.ntmps3
    go_wp2_with fail
    go_ret
    exact ⟨rfl, Below.refl _ _⟩
end Go.Proofs.Ytafmpphdpaifbaa
