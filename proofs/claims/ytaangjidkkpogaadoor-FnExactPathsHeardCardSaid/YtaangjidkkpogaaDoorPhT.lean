/- PathsHeard, both sides. -/
import Derived.Test.YtaangjidkkpogaaDoorPhI
import Derived.Test.YtaangjidkkpogaaDoorPhS
import Derived.Test.YtaangjidkkpogaaDoorAk
namespace Go.Proofs.YtaangjidkkpogaaDoor
open Go.ChangeShapes Go.WideShapes Go.ChangeAt Go.RowKit
set_option linter.unusedVariables false


theorem own_base2 {w : World} {base base' : Nat} {e : TypeId} {size : Nat} {v : Value} {n : Nat} {xs : List Value} (h : w.ownsRow base e size v n xs) (hb : base' ≤ base) : w.ownsRow base' e size v n xs := by
  refine ⟨h.1, ?_⟩
  rcases h.2 with h2 | ⟨g, cap, cur, h1, h3, h4⟩
  · exact .inl h2
  · exact .inr ⟨g, cap, cur, h1, Nat.le_trans hb h3, h4⟩
def phB (s : ByteArray) (x y : Int) : Bool := castB s && (inF s.size x && (inF s.size y && !(x == y)))
def phV (s : ByteArray) (x y : Int) (b : Bool) : Nat := ph (cOf s) y.toNat 9 b x.toNat (clr (2 ^ s.size - 1) (2 ^ x.toNat))
def phR (s : ByteArray) (x y : Int) : List Int := if phB s x y then [(phV s x y false : Int), (phV s x y true : Int)] else []
theorem phR_len (s : ByteArray) (x y : Int) : (phR s x y).length ≤ 2 := by unfold phR; split <;> simp
theorem phR_len2 (s : ByteArray) (x y : Int) : (phR s x y).length ≤ 1000 := Nat.le_trans (phR_len s x y) (by decide)
theorem ph_no {s : ByteArray} {x y : Int} (h : phB s x y = false) : phR s x y = [] := by unfold phR; rw [h]; rfl
theorem ph_yes {s : ByteArray} {x y : Int} (h : phB s x y = true) : phR s x y = [(phV s x y false : Int), (phV s x y true : Int)] := by unfold phR; rw [h]; rfl
theorem w_full : ∀ k : Nat, k < 10 → IntKind.u16.wrap (IntKind.u16.wrap ((2 : Int) ^ k) - 1) = ((2 ^ k - 1 : Nat) : Int) := by decide
theorem pc_full : ∀ k : Nat, k < 9 → pc (2 ^ k - 1) = k := by decide +kernel
theorem full_lt (n : Nat) : 2 ^ n - 1 < 2 ^ n := by have := Nat.two_pow_pos n; omega
theorem full_bit {n a : Nat} (h : a < n) : (2 ^ n - 1).testBit a = true := by rw [Nat.testBit_two_pow_sub_one]; simpa using h
theorem full_pc {n a : Nat} (h : a < n) (hn : n ≤ 8) : pc (clr (2 ^ n - 1) (2 ^ a)) ≤ 8 := by
  have h2 := two8 hn
  have h1 := pc_clr ⟨2 ^ n - 1, by omega⟩ ⟨a, by omega⟩ (full_bit h)
  have h3 := pc_full n (by omega)
  simp only at h1
  omega
theorem full_sv (n : Nat) : List.replicate n (Value.bool false) = sv (2 ^ n - 1) n := by
  apply List.ext_getElem?
  intro i
  by_cases hi : i < n
  · rw [sv_get _ _ _ hi, full_bit hi]; simp [hi]
  · rw [List.getElem?_eq_none (by simp; omega), List.getElem?_eq_none (by rw [sv_len]; omega)]
theorem info4 : (Tryd.prog.info? 4).map (fun i => (i.zero, i.size, i.bytes)) = some (some (.bool false), 1, 1) := by kernel_rfl

set_option maxHeartbeats 400000 in
set_option maxRecDepth 20000 in
theorem implPH_any (w : World) (s : ByteArray) (hs : s.size ≤ 1048576) (x y : Int) :
    Calls Tryd.prog 22 #[.string s, .int .i64 x, .int .i64 y] w fun e w' => ∃ v, e = .returned (.tuple #[v, .bool (phB s x y)]) ∧ w'.ownsRow w.heap.size 3 1 v (phR s x y).length (ns (phR s x y)) ∧ Below w.heap.size w w' := by
  have HC := Lib.hid (fun w => isCast_any s w hs)
  have Hnil := Lib.hid (fun w' => World.ownsRow_nil w' w.heap.size 3 1)
  cases hca : castB s
  · have hb : phB s x y = false := by simp [phB, hca]
    rw [ph_no hb, hb]
    rw [hca] at HC
    clear hb hca
    go_enter Tryd.func22, Tryd.ntmps22
    go_wp2_with fail
    refine (HC.out _).mono ?_
    rintro e w1 ⟨rfl, hb1⟩
    go_wp2_with fail
    go_ret2
    exact ⟨_, rfl, Hnil.out _, hb1⟩
  · rw [hca] at HC
    have HI := Lib.hid (fun w => isF_any (s.size : Int) x w)
    have HJ := Lib.hid (fun w => isF_any (s.size : Int) y w)
    obtain ⟨hsc, hlen, hz1, hz8⟩ := cast_of hca
    obtain ⟨z, hz⟩ : ∃ z, s.size = z := ⟨_, rfl⟩
    rw [hz] at HI HJ hlen hz8 hz1
    cases hx : inF (z : Int) x
    · have hb : phB s x y = false := by simp only [phB, hz, hx, Bool.false_and, Bool.and_false]
      rw [ph_no hb, hb]
      rw [hx] at HI
      clear hb hca hx hsc hlen
      go_enter Tryd.func22, Tryd.ntmps22
      go_wp2_with fail
      refine (HC.out _).mono ?_
      rintro e w1 ⟨rfl, hb1⟩
      go_wp2_with fail
      refine (HI.out _).mono ?_
      rintro e w' ⟨rfl, rfl⟩
      go_wp2_with fail
      go_ret2
      exact ⟨_, rfl, Hnil.out _, hb1⟩
    · rw [hx] at HI
      cases hy : inF (z : Int) y
      · have hb : phB s x y = false := by simp only [phB, hz, hy, Bool.false_and, Bool.and_false]
        rw [ph_no hb, hb]
        rw [hy] at HJ
        clear hb hca hx hy hsc hlen
        go_enter Tryd.func22, Tryd.ntmps22
        go_wp2_with fail
        refine (HC.out _).mono ?_
        rintro e w1 ⟨rfl, hb1⟩
        go_wp2_with fail
        refine (HI.out _).mono ?_
        rintro e w' ⟨rfl, rfl⟩
        go_wp2_with fail
        refine (HJ.out _).mono ?_
        rintro e w' ⟨rfl, rfl⟩
        go_wp2_with fail
        go_ret2
        exact ⟨_, rfl, Hnil.out _, hb1⟩
      · rw [hy] at HJ
        by_cases hxy : x = y
        · have hb : phB s x y = false := by simp [phB, hxy]
          rw [ph_no hb, hb]
          subst hxy
          clear hb hca hx hy hsc hlen
          go_enter Tryd.func22, Tryd.ntmps22
          go_wp2_with fail
          refine (HC.out _).mono ?_
          rintro e w1 ⟨rfl, hb1⟩
          go_wp2_with fail
          refine (HI.out _).mono ?_
          rintro e w' ⟨rfl, rfl⟩
          go_wp2_with fail
          refine (HJ.out _).mono ?_
          rintro e w' ⟨rfl, rfl⟩
          go_wp2_with fail
          go_ret2
          exact ⟨_, rfl, Hnil.out _, hb1⟩
        · have hb : phB s x y = true := by simp [phB, hca, hz, hx, hy, hxy]
          rw [ph_yes hb, hb]
          have hxe : (x == y) = false := by rw [beq_eq_false_iff_ne]; exact hxy
          have hx' : 0 ≤ x ∧ x < (z : Int) := by simpa [inF] using hx
          have hy' : 0 ≤ y ∧ y < (z : Int) := by simpa [inF] using hy
          obtain ⟨a, rfl⟩ := Int.eq_ofNat_of_zero_le hx'.1
          obtain ⟨t, rfl⟩ := Int.eq_ofNat_of_zero_le hy'.1
          unfold phV
          rw [Int.toNat_natCast, Int.toNat_natCast, hz]
          have haz : a < z := by omega
          have Hn : Hid (z = (cOf s).length) := Lib.hid hlen.symm
          have HP := Lib.hid (fun w => ph_any (cOf s) t z Hn hz8 8 (Nat.le_refl _) a (clr (2 ^ z - 1) (2 ^ a)) w haz (Nat.lt_of_le_of_lt (clr_le _ _) (full_lt z)) (full_pc haz hz8))
          rw [← hsc] at HP
          have hW : IntKind.u16.wrap (IntKind.u16.wrap ((2 : Int) ^ z) - 1) = ((2 ^ z - 1 : Nat) : Int) := w_full z (by omega)
          have hB : bits BinOp.andNot IntKind.u16 ((2 ^ z - 1 : Nat) : Int) (IntKind.u16.wrap (2 ^ a)) = ((clr (2 ^ z - 1) (2 ^ a) : Nat) : Int) := by
            have := two8 hz8
            rw [wrap_pow a (by omega), bits_clr _ _ (by omega) (pow_small a (by omega))]
          obtain ⟨r0, hr0⟩ : ∃ r, ph (cOf s) t (8 + 1) false a (clr (2 ^ z - 1) (2 ^ a)) = r := ⟨_, rfl⟩
          obtain ⟨r1, hr1⟩ : ∃ r, ph (cOf s) t (8 + 1) true a (clr (2 ^ z - 1) (2 ^ a)) = r := ⟨_, rfl⟩
          rw [hr0, hr1] at HP
          rw [show (9 : Nat) = 8 + 1 from rfl, hr0, hr1]
          obtain ⟨M, hM⟩ : ∃ M, (2 ^ z - 1 : Nat) = M := ⟨_, rfl⟩
          rw [hM] at hW hB HP
          obtain ⟨Q, hQ⟩ : ∃ Q, clr M (2 ^ a) = Q := ⟨_, rfl⟩
          rw [hQ] at hB HP
          clear hb hca hx hy hsc hlen hr0 hr1 hM hQ Hn
          go_enter Tryd.func22, Tryd.ntmps22
          go_wp2_with fail
          refine (HC.out _).mono ?_
          rintro e w1 ⟨rfl, hb1⟩
          go_wp2_with fail
          refine (HI.out _).mono ?_
          rintro e w' ⟨rfl, rfl⟩
          go_wp2_with fail
          refine (HJ.out _).mono ?_
          rintro e w' ⟨rfl, rfl⟩
          have Hb1 := Lib.hid hb1
          clear hb1
          go_wp2_with fail
          refine (HP.out _).mono ?_
          rintro e w3 ⟨rfl, hb3⟩
          have hbe := Hb1.out.trans (hb3.mono Hb1.out.size)
          have Hbe := Lib.hid (hbe.alloc hbe.size (.cells #[.int .i64 (r0 : Int), .int .i64 (r1 : Int)] 3))
          have Hlit := Lib.hid (World.ownsRow_lit (e := 3) (size := 1) w3 #[.int .i64 (r0 : Int), .int .i64 (r1 : Int)] 2 hbe.size (by unfold maxLen; omega) rfl)
          clear hb3 hbe
          go_wp2_with fail
          go_ret2
          exact ⟨_, rfl, Hlit.out, Hbe.out⟩

set_option maxHeartbeats 400000 in
set_option maxRecDepth 20000 in
theorem specPH_any (w : World) (s : ByteArray) (hs : s.size ≤ 1048576) (x y : Int) :
    Calls Tryd.prog 21 #[.string s, .int .i64 x, .int .i64 y] w fun e w' => ∃ v, e = .returned (.tuple #[v, .bool (phB s x y)]) ∧ w'.ownsRow w.heap.size 3 1 v (phR s x y).length (ns (phR s x y)) ∧ Below w.heap.size w w' := by
  have HC := Lib.hid (fun w => liCast_any s w hs)
  have Hnil := Lib.hid (fun w' => World.ownsRow_nil w' w.heap.size 3 1)
  cases hca : castB s
  · have hb : phB s x y = false := by simp [phB, hca]
    rw [ph_no hb, hb]
    rw [hca] at HC
    clear hb hca
    go_enter Tryd.func21, Tryd.ntmps21
    go_wp2_with fail
    refine (HC.out _).mono ?_
    rintro e w1 ⟨rfl, hb1⟩
    go_wp2_with fail
    go_ret2
    exact ⟨_, rfl, Hnil.out _, hb1⟩
  · rw [hca] at HC
    have HI := Lib.hid (fun w => l1F_any (s.size : Int) x w)
    have HJ := Lib.hid (fun w => l1F_any (s.size : Int) y w)
    obtain ⟨hsc, hlen, hz1, hz8⟩ := cast_of hca
    obtain ⟨z, hz⟩ : ∃ z, s.size = z := ⟨_, rfl⟩
    rw [hz] at HI HJ hlen hz8 hz1
    cases hx : inF (z : Int) x
    · have hb : phB s x y = false := by simp only [phB, hz, hx, Bool.false_and, Bool.and_false]
      rw [ph_no hb, hb]
      rw [hx] at HI
      clear hb hca hx hsc hlen
      go_enter Tryd.func21, Tryd.ntmps21
      go_wp2_with fail
      refine (HC.out _).mono ?_
      rintro e w1 ⟨rfl, hb1⟩
      go_wp2_with fail
      refine (HI.out _).mono ?_
      rintro e w' ⟨rfl, rfl⟩
      go_wp2_with fail
      go_ret2
      exact ⟨_, rfl, Hnil.out _, hb1⟩
    · rw [hx] at HI
      cases hy : inF (z : Int) y
      · have hb : phB s x y = false := by simp only [phB, hz, hy, Bool.false_and, Bool.and_false]
        rw [ph_no hb, hb]
        rw [hy] at HJ
        clear hb hca hx hy hsc hlen
        go_enter Tryd.func21, Tryd.ntmps21
        go_wp2_with fail
        refine (HC.out _).mono ?_
        rintro e w1 ⟨rfl, hb1⟩
        go_wp2_with fail
        refine (HI.out _).mono ?_
        rintro e w' ⟨rfl, rfl⟩
        go_wp2_with fail
        refine (HJ.out _).mono ?_
        rintro e w' ⟨rfl, rfl⟩
        go_wp2_with fail
        go_ret2
        exact ⟨_, rfl, Hnil.out _, hb1⟩
      · rw [hy] at HJ
        by_cases hxy : x = y
        · have hb : phB s x y = false := by simp [phB, hxy]
          rw [ph_no hb, hb]
          subst hxy
          clear hb hca hx hy hsc hlen
          go_enter Tryd.func21, Tryd.ntmps21
          go_wp2_with fail
          refine (HC.out _).mono ?_
          rintro e w1 ⟨rfl, hb1⟩
          go_wp2_with fail
          refine (HI.out _).mono ?_
          rintro e w' ⟨rfl, rfl⟩
          go_wp2_with fail
          refine (HJ.out _).mono ?_
          rintro e w' ⟨rfl, rfl⟩
          go_wp2_with fail
          go_ret2
          exact ⟨_, rfl, Hnil.out _, hb1⟩
        · have hb : phB s x y = true := by simp [phB, hca, hz, hx, hy, hxy]
          rw [ph_yes hb, hb]
          have hxe : (x == y) = false := by rw [beq_eq_false_iff_ne]; exact hxy
          have hx' : 0 ≤ x ∧ x < (z : Int) := by simpa [inF] using hx
          have hy' : 0 ≤ y ∧ y < (z : Int) := by simpa [inF] using hy
          obtain ⟨a, rfl⟩ := Int.eq_ofNat_of_zero_le hx'.1
          obtain ⟨t, rfl⟩ := Int.eq_ofNat_of_zero_le hy'.1
          unfold phV
          rw [Int.toNat_natCast, Int.toNat_natCast, hz]
          have haz : a < z := by omega
          have Hn : Hid (z = (cOf s).length) := Lib.hid hlen.symm
          obtain ⟨i3, hi3, h30, h31, h32⟩ := info_parts info3
          have H3 := Lib.hid (And.intro h30 (And.intro h31 h32))
          obtain ⟨i4, hi4, h40, h41, h42⟩ := info_parts info4
          have H4 := Lib.hid (And.intro h40 (And.intro h41 h42))
          clear h30 h31 h32 h40 h41 h42
          have HP := Lib.hid (fun B gs gc w h1 => pl_any (cOf s) t z Hn hz8 8 (Nat.le_refl _) (2 ^ z - 1) a false B gs gc 0 0 w haz (full_lt z) (full_bit haz) (full_pc haz hz8) (by decide) (by decide) h1)
          rw [← hsc] at HP
          obtain ⟨r0, hr0⟩ : ∃ r, ph (cOf s) t (8 + 1) false a (clr (2 ^ z - 1) (2 ^ a)) = r := ⟨_, rfl⟩
          obtain ⟨r1, hr1⟩ : ∃ r, ph (cOf s) t (8 + 1) true a (clr (2 ^ z - 1) (2 ^ a)) = r := ⟨_, rfl⟩
          simp only [Bool.not_false] at HP
          rw [hr0, hr1] at HP
          rw [show (9 : Nat) = 8 + 1 from rfl, hr0, hr1]
          have hsv := full_sv z
          obtain ⟨M, hM⟩ : ∃ M, (2 ^ z - 1 : Nat) = M := ⟨_, rfl⟩
          rw [hM] at HP hsv
          have Hsv := Lib.hid hsv
          clear hb hca hx hy hsc hlen hr0 hr1 hM Hn hsv
          go_enter Tryd.func21, Tryd.ntmps21
          go_wp2_with fail
          refine (HC.out _).mono ?_
          rintro e w1 ⟨rfl, hb1⟩
          go_wp2_with fail
          refine (HI.out _).mono ?_
          rintro e w' ⟨rfl, rfl⟩
          go_wp2_with fail
          refine (HJ.out _).mono ?_
          rintro e w' ⟨rfl, rfl⟩
          have hs1 := hb1.size
          go_wp2_with (refine wpList_make_full _ rfl _ _ 34 rfl w.heap.size 3 i3 (.int .i64 0) 1 Tryd.underlying34 hi3 H3.out.1 H3.out.2.1 .i64 .i64 _ _ 2 rfl rfl rfl rfl ?_ ?_ ?_ ?_)
          · rw [H3.out.2.2]; omega
          · unfold maxLen; omega
          · exact hs1
          intro w2 hown hgr
          have hc2 : w2.ownsRow w.heap.size 3 1 (.slice (some ⟨w1.heap.size, 0, none⟩) 2 2) 2 (rc 0 0) := by
            have h := hown
            rw [toList_madeCells_one] at h
            exact h
          have Hb2 := Lib.hid (hb1.grown hgr hs1 (fun _ h => by cases h))
          have Hc2 := Lib.hid hc2
          obtain ⟨gc, hgc⟩ : ∃ g, g = w1.heap.size := ⟨_, rfl⟩
          rw [← hgc] at Hc2 ⊢
          have hgc2 := (Hc2.out.lt gc rfl).2
          clear hown hgr hb1 hc2 hgc
          go_wp2_with (refine wpList_make_full _ rfl _ _ 66 rfl w.heap.size 4 i4 (.bool false) 1 Tryd.underlying66 hi4 H4.out.1 H4.out.2.1 .i64 .i64 _ _ z rfl rfl rfl rfl ?_ ?_ ?_ ?_)
          · rw [H4.out.2.2]; omega
          · unfold maxLen; omega
          · exact Hb2.out.size
          intro w3 hown hgr
          have hs3 : w3.ownsRow w.heap.size 4 1 (.slice (some ⟨w2.heap.size, 0, none⟩) z z) z (sv M z) := by
            have h := hown
            try rw [Nat.mul_one] at h
            rw [toList_madeCells_one] at h
            rw [← Hsv.out]
            exact h
          have hc3 := own_same Hc2.out (fun k hk => hgr.block k (by cases hk; exact hgc2) (fun e => by cases e))
          have Hb3 := Lib.hid (Hb2.out.grown hgr Hb2.out.size (fun _ h => by cases h))
          have HQ := Lib.hid (HP.out w.heap.size w2.heap.size gc w3 (by omega) hs3 hc3)
          clear hown hgr hs3 hc3
          go_wp2_with fail
          refine HQ.out.mono ?_
          rintro e w4 ⟨rfl, p1, p2, hb4⟩
          have P2 := Lib.hid p2
          have Hb4 := Lib.hid (Hb3.out.trans hb4)
          clear p1 p2 hb4
          go_wp2_with fail
          go_ret2
          exact ⟨_, rfl, by have := P2.out; rw [Nat.zero_add, Nat.zero_add] at this; exact this, Hb4.out⟩

end Go.Proofs.YtaangjidkkpogaaDoor
