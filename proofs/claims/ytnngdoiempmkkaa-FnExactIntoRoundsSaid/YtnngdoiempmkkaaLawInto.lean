/- The walk of the law FnExactIntoRounds: it answers true and turns nothing that was there. -/
import Derived.Test.YtnngdoiempmkkaaIntoI
import Derived.Test.YtnngdoiempmkkaaMarkUp
namespace Go.Proofs.Ytnngdoiempmkkaa
open Go.ChangeShapes Go.WideShapes Go.ChangeAt Go.RowKit
set_option linter.unusedVariables false


theorem szCallS_small (ao : Option Addr) (n cap : Nat) (w : World) (h : n ≤ 1048576) :
    Calls Try.prog 18 #[.slice ao n cap, .int .i64 1048576] w fun e w' => e = .returned (.int .i64 (1048576 - n)) ∧ w = w' := by
  go_enter Try.func18, Try.ntmps18
  go_wp2
  go_ret
  exact ⟨rfl, rfl⟩
theorem szCallS_great (ao : Option Addr) (n cap : Nat) (w : World) (h : 1048576 < n) (hm : n ≤ 9223372036854775807) :
    Calls Try.prog 18 #[.slice ao n cap, .int .i64 1048576] w fun e w' => e = .returned (.int .i64 (-1)) ∧ w = w' := by
  go_enter Try.func18, Try.ntmps18
  go_wp2
  go_ret
  exact ⟨rfl, rfl⟩
theorem intoL_len (f : Int) (l : List (Int × Int)) : (intoL f l).length ≤ 20 := by
  unfold intoL
  cases h : intoB f l
  · simp
  · have h2 : okR l = true := by simp only [intoB, Bool.and_eq_true] at h; exact h.2
    rw [if_pos rfl, List.length_map]
    have := len20 l l.length (Nat.le_refl _) ((okR_iff l).1 h2)
    rwa [List.take_length] at this
theorem intoL_rows (f : Int) (l : List (Int × Int)) : ∀ i, (crow (intoL f l) i).length ≤ 1048576 := by
  intro i
  unfold intoL
  cases h : intoB f l
  · simp [crow]
  · have h2 : gdB f l = true := by simp only [intoB, Bool.and_eq_true] at h; exact h.1
    rw [if_pos rfl, crow_map, srt_length]
    have := (rinv l l.length (Nat.le_refl _)).rows i
    rw [List.take_length] at this
    have h3 := gd_len' h2
    omega

theorem specInto_any (w : World) (f : Int) (ao : Option Addr) (cap : Nat) (l : List (Int × Int)) (n : Nat) (Hn : Hid (n = l.length)) (hs : n ≤ 1048576) (Hc : CallsAt w ao l) :
    Calls Try.prog 19 #[.int .i64 f, .slice ao n cap] w fun e w' => ∃ v X, e = .returned (.tuple #[v, .bool (intoB f l)]) ∧ OwnCS w' w.heap.size v X (intoL f l) ∧ Below w.heap.size w w' := by
  have HHc := Lib.hid Hc
  clear Hc
  cases hg : gdB f l
  · rw [show intoL f l = [] by simp [intoL, intoB, hg], show intoB f l = false by simp [intoB, hg]]
    have Hg := Lib.hid hg
    clear hg
    go_enter Try.func19, Try.ntmps19
    go_wp2_with fail
    refine (caGood_any f ao cap l n w Hn.out (by omega) HHc.out).mono ?_
    rintro e w1 ⟨rfl, hb⟩
    rw [Hg.out]
    go_wp2_with fail
    go_ret2
    first | exact ⟨_, [], rfl, OwnCS.nil _ _, hb⟩ | exact ⟨_, rfl, ⟨[], OwnCS.nil _ _⟩, hb⟩
  · have hff := gd_fr hg
    obtain ⟨F, rfl⟩ := Int.eq_ofNat_of_zero_le (show 0 ≤ f by omega)
    rw [show intoB F l = okR l by simp [intoB, hg], show intoL F l = (if okR l then (inR l).2.map srt else []) by simp [intoL, intoB, hg]]
    exact specInto_yes w F ao cap l n Hn (by rw [Hn.out]; exact gd_len' hg) HHc hg hff (okR l) _ rfl rfl

theorem implInto_any (w : World) (f : Int) (ao : Option Addr) (cap : Nat) (l : List (Int × Int)) (n : Nat) (Hn : Hid (n = l.length)) (hs : n ≤ 1048576) (Hc : CallsAt w ao l) :
    Calls Try.prog 21 #[.int .i64 f, .slice ao n cap] w fun e w' => ∃ v X, e = .returned (.tuple #[v, .bool (intoB f l)]) ∧ OwnCS w' w.heap.size v X (intoL f l) ∧ Below w.heap.size w w' := by
  have HHc := Lib.hid Hc
  clear Hc
  cases hg : gdB f l
  · rw [show intoL f l = [] by simp [intoL, intoB, hg], show intoB f l = false by simp [intoB, hg]]
    have Hg := Lib.hid hg
    clear hg
    go_enter Try.func21, Try.ntmps21
    go_wp2_with fail
    refine (areCalls_any f ao cap l n w Hn.out (by omega) HHc.out).mono ?_
    rintro e w1 ⟨rfl, hb⟩
    rw [Hg.out]
    go_wp2_with fail
    go_ret2
    first | exact ⟨_, [], rfl, OwnCS.nil _ _, hb⟩ | exact ⟨_, rfl, ⟨[], OwnCS.nil _ _⟩, hb⟩
  · have hff := gd_fr hg
    obtain ⟨F, rfl⟩ := Int.eq_ofNat_of_zero_le (show 0 ≤ f by omega)
    rw [show intoB F l = okR l by simp [intoB, hg], show intoL F l = (if okR l then (inR l).2.map srt else []) by simp [intoL, intoB, hg]]
    exact implInto_yes w F ao cap l n Hn (by rw [Hn.out]; exact gd_len' hg) HHc hg hff (okR l) _ rfl rfl
set_option maxHeartbeats 800000 in
set_option maxRecDepth 20000 in
theorem walkInto (W : World) (a0 : Int) (_w0 : (Lit.int .i64 a0).wf = true) (o1 : Option Addr) (n1 c1 : Nat) (l1 : List (Int × Int)) (q1n : n1 = l1.length) (q1m : n1 ≤ 9223372036854775807) (q1c : CallsAt W o1 l1) :
    Calls Try.prog 5 #[.int .i64 a0, .slice o1 n1 c1] W fun e w' => e = .returned (.bool true) ∧ Below W.heap.size W w' := by
  have Hn1 := Lib.hid q1n
  have Hc1 := Lib.hid q1c
  clear q1n q1c
  by_cases hs1 : n1 ≤ 1048576
  · have hRl := intoL_len a0 l1
    have HRr := Lib.hid (intoL_rows a0 l1)
    have hR20 : (intoL a0 l1).length ≤ 1048576 := by omega
    have HRr2 : Hid (∀ i, i < (intoL a0 l1).length → (crow (intoL a0 l1) i).length ≤ 1048576) := fun i _ => HRr.out i
    have hok : (intoB a0 l1 != intoB a0 l1) = false := by simp
    go_enter Try.func5, Try.ntmps5
    go_wp2_with fail
    refine (szCallS_small o1 n1 c1 W hs1).mono ?_
    rintro e w' ⟨rfl, rfl⟩
    go_wp2_with fail
    refine (toCallS_any o1 c1 l1 n1 W Hn1 hs1 Hc1).mono ?_
    rintro e w1 ⟨capy, rfl, owny, bel1⟩
    have b1 : Below W.heap.size W w1 := bel1
    have Oy := Lib.hid owny
    clear owny bel1
    go_wp2_with fail
    refine (specInto_any w1 a0 _ capy l1 n1 Hn1 hs1 (own_at Oy.out Hn1.out)).mono ?_
    rintro e w2 ⟨vw, Xw, rfl, ow, bel2⟩
    have b2 : Below W.heap.size W w2 := b1.trans (bel2.mono b1.size)
    have Ow := Lib.hid ow
    have hW2 := b2.size
    clear ow bel2 b1
    go_wp2_with fail
    refine (toCallS_any o1 c1 l1 n1 w2 Hn1 hs1 (Hc1.out.kept b2)).mono ?_
    rintro e w3 ⟨capx, rfl, ownx, bel3⟩
    have d3 : Below w2.heap.size w2 w3 := bel3
    have Ox := Lib.hid ownx
    have hs3 := d3.size
    clear ownx bel3
    go_wp2_with fail
    refine (implInto_any w3 a0 _ capx l1 n1 Hn1 hs1 (own_at Ox.out Hn1.out)).mono ?_
    rintro e w4 ⟨vg, Xg, rfl, og, bel4⟩
    have d4 : Below w2.heap.size w2 w4 := d3.trans (bel4.mono hs3)
    have Og := Lib.hid og
    have Ox4 := Lib.hid (own_later Ox.out bel4)
    have Ow4 := Lib.hid (Ow.out.later d4)
    have hs4 := bel4.size
    clear og bel4 d3
    go_wp2_with fail
    refine (eqCallSS_own vg vw Xg Xw (intoL a0 l1) w4 (by omega) HRr2.out Og.out Ow4.out).mono ?_
    rintro e w5 ⟨rfl, bel5⟩
    have d5 : Below w2.heap.size w2 w5 := d4.trans (bel5.mono d4.size)
    have Og5 := Lib.hid (Og.out.later bel5)
    have Ox5 := Lib.hid (own_later Ox4.out bel5)
    clear bel5 d4 Ow4
    go_wp2_with fail
    refine (toCallS_any o1 c1 l1 n1 w5 Hn1 hs1 (Hc1.out.kept (b2.trans (d5.mono hW2)))).mono ?_
    rintro e w6 ⟨capz, rfl, ownz, bel6⟩
    have d6 : Below w2.heap.size w2 w6 := d5.trans (bel6.mono d5.size)
    have Oz := Lib.hid ownz
    have Og6 := Lib.hid (Og5.out.later bel6)
    have Ox6 := Lib.hid (own_later Ox5.out bel6)
    clear ownz bel6 d5
    go_wp2_with fail
    refine (eqCallS_own _ _ l1 n1 n1 w6 Hn1.out Hn1.out (by omega) Ox6.out Oz.out).mono ?_
    rintro e w7 ⟨rfl, bel7⟩
    have d7 : Below w2.heap.size w2 w7 := d6.trans (bel7.mono d6.size)
    have Og7 := Lib.hid (Og6.out.later bel7)
    have Ox7 := Lib.hid (own_later Ox6.out bel7)
    clear bel7 d6 Oz
    go_wp2_with fail
    refine (markCallS_any _ _ l1 n1 w7 1 (by omega) (by omega) Hn1.out (by omega) Ox7.out).mono ?_
    rintro e w8 ⟨rfl, ownm, gr8⟩
    have d8 : Below w2.heap.size w2 w8 := d7.grown gr8 d7.size (fun k hk => (Ox7.out.lt k hk).1)
    have Og8 := Lib.hid (Og7.out.kept gr8 (fun b hb => (Ox.out.lt b hb).2))
    have Ow8 := Lib.hid (Ow.out.later d8)
    clear ownm gr8 d7 Ox7
    go_wp2_with fail
    refine (eqCallSS_own vg vw Xg Xw (intoL a0 l1) w8 (by omega) HRr2.out Og8.out Ow8.out).mono ?_
    rintro e w9 ⟨rfl, bel9⟩
    have d9 : Below w2.heap.size w2 w9 := d8.trans (bel9.mono d8.size)
    have Og9 := Lib.hid (Og8.out.later bel9)
    clear bel9 d8 Ow8
    go_wp2_with fail
    refine (markCallSS_any _ vg Xg (intoL a0 l1) w9 hR20 HRr.out Og9.out).mono ?_
    rintro e w10 ⟨rfl, om, bel10⟩
    have d10 : Below w2.heap.size w2 w10 := d9.trans (bel10.mono hs3)
    have Om := Lib.hid om
    have hct := cctot_le HRr.out (intoL a0 l1).length
    have hcq : (cctot (intoL a0 l1) (intoL a0 l1).length : Int) ≤ 2097152 * 20 := by omega
    clear hct
    have hmm : ((1 + (cctot (intoL a0 l1) (intoL a0 l1).length : Int)) != (1 + (cctot (intoL a0 l1) (intoL a0 l1).length : Int))) = false := by simp
    clear om bel10 d9
    go_wp2_with fail
    refine (heldCallSS_any _ vg Xg (intoL a0 l1) w10 hR20 HRr.out Om.out).mono ?_
    rintro e w' ⟨rfl, rfl⟩
    go_wp2_with fail
    refine (toCallS_any o1 c1 l1 n1 w10 Hn1 hs1 (Hc1.out.kept (b2.trans (d10.mono hW2)))).mono ?_
    rintro e w11 ⟨capu, rfl, ownu, bel11⟩
    have d11 : Below w2.heap.size w2 w11 := d10.trans (bel11.mono d10.size)
    have Ou := Lib.hid ownu
    have Om11 := Lib.hid (Om.out.later bel11)
    clear ownu bel11 d10
    go_wp2_with fail
    refine (implInto_any w11 a0 _ capu l1 n1 Hn1 hs1 (own_at Ou.out Hn1.out)).mono ?_
    rintro e w12 ⟨vh, Xh, rfl, oh, bel12⟩
    have d12 : Below w2.heap.size w2 w12 := d11.trans (bel12.mono d11.size)
    have Oh := Lib.hid oh
    have Om12 := Lib.hid (Om11.out.later bel12)
    have Ow12 := Lib.hid (Ow.out.later d12)
    clear oh bel12 d11
    go_wp2_with fail
    refine (eqCallSS_own vh vw Xh Xw (intoL a0 l1) w12 (by omega) HRr2.out Oh.out Ow12.out).mono ?_
    rintro e w13 ⟨rfl, bel13⟩
    have d13 : Below w2.heap.size w2 w13 := d12.trans (bel13.mono d12.size)
    have Om13 := Lib.hid (Om12.out.later bel13)
    clear bel13 d12
    go_wp2_with fail
    refine (heldCallSS_any _ vg Xg (intoL a0 l1) w13 hR20 HRr.out Om13.out).mono ?_
    rintro e w' ⟨rfl, rfl⟩
    go_wp2_with fail
    go_ret
    exact ⟨rfl, b2.trans (d13.mono hW2)⟩
  · go_enter Try.func5, Try.ntmps5
    go_wp2_with fail
    refine (szCallS_great o1 n1 c1 W (by omega) q1m).mono ?_
    rintro e w' ⟨rfl, rfl⟩
    go_wp2_with fail
    go_ret
    exact ⟨rfl, Below.refl _ _⟩

end Go.Proofs.Ytnngdoiempmkkaa
