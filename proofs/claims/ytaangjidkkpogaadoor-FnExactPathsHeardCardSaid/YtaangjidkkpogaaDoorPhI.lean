/- Lists of friends who pass on: the program. -/
import Derived.Test.YtaangjidkkpogaaDoorPh
namespace Go.Proofs.YtaangjidkkpogaaDoor
open Go.ChangeShapes Go.WideShapes Go.ChangeAt Go.RowKit
set_option linter.unusedVariables false


/-- What pathsHeard answers, so deep. -/
def PhOk (c : List Bool) (t n f : Nat) : Prop := ∀ a m w, a < n → m < 2 ^ n → pc m ≤ f →
  Calls Tryd.prog 46 #[.string (cbs c), .int .i64 (a : Nat), .int .i64 (t : Nat), .int .u16 (m : Nat)] w fun e w' => e = .returned (.tuple #[.int .i64 (ph c t (f + 1) false a m), .int .i64 (ph c t (f + 1) true a m)]) ∧ Below w.heap.size w w'
set_option maxHeartbeats 400000 in
set_option maxRecDepth 20000 in
theorem ph_step (c : List Bool) (t n : Nat) (Hn : Hid (n = c.length)) (hn : n ≤ 8) (f : Nat) (hf : f ≤ 8) (IH : Hid (∀ f', f = f' + 1 → PhOk c t n f')) : PhOk c t n f := by
  intro a m w ha hm hp
  have h28 := two8 hn
  have hm10 : m < 1024 := by omega
  have HH := Lib.hid (fun w => isHonest_any c a w (by rw [← Hn.out]; exact ha) (by rw [← Hn.out]; omega))
  by_cases hat : a = t
  · have E0 : Hid (ph c t (f + 1) false a m = if false = !hon c a then 1 else 0) := Lib.hid (ph_at hat)
    have E1 : Hid (ph c t (f + 1) true a m = if true = !hon c a then 1 else 0) := Lib.hid (ph_at hat)
    obtain ⟨r0, hr0⟩ : ∃ r, ph c t (f + 1) false a m = r := ⟨_, rfl⟩
    obtain ⟨r1, hr1⟩ : ∃ r, ph c t (f + 1) true a m = r := ⟨_, rfl⟩
    rw [hr0] at E0 ⊢
    rw [hr1] at E1 ⊢
    clear hr0 hr1
    generalize cbs c = s at HH ⊢
    subst hat
    cases hh : hon c a
    · rw [hh] at HH E0 E1
      obtain rfl : r0 = 0 := E0.out
      obtain rfl : r1 = 1 := E1.out
      clear hh
      go_enter Tryd.func46, Tryd.ntmps46
      go_wp2_with fail
      refine (HH.out _).mono ?_
      rintro e w1 ⟨rfl, rfl⟩
      go_wp2_with fail
      go_ret2
      exact ⟨rfl, Below.refl _ _⟩
    · rw [hh] at HH E0 E1
      obtain rfl : r0 = 1 := E0.out
      obtain rfl : r1 = 0 := E1.out
      clear hh
      go_enter Tryd.func46, Tryd.ntmps46
      go_wp2_with fail
      refine (HH.out _).mono ?_
      rintro e w1 ⟨rfl, rfl⟩
      go_wp2_with fail
      go_ret2
      exact ⟨rfl, Below.refl _ _⟩
  · obtain ⟨gF, hgF⟩ : ∃ g : Nat → Nat, g = fun x => ph c t f false x (clr m (2 ^ x)) := ⟨_, rfl⟩
    obtain ⟨gT, hgT⟩ : ∃ g : Nat → Nat, g = fun x => ph c t f true x (clr m (2 ^ x)) := ⟨_, rfl⟩
    obtain ⟨l, hl⟩ : ∃ l, l = bl m 10 := ⟨_, rfl⟩
    obtain ⟨N, hN⟩ : ∃ N, N = pc m := ⟨_, rfl⟩
    have Hlen : Hid (N = l.length) := Lib.hid (by rw [hN, hl, bl_length])
    have hN10 : N ≤ 10 := by rw [hN]; exact pc_le ⟨m, hm10⟩
    have HgF : Hid (∀ x, gF x ≤ 1000000000) := Lib.hid fun x => by rw [hgF]; exact Nat.le_trans (ph_le c t f _ _ _) (pow_le8 (by omega))
    have HgT : Hid (∀ x, gT x ≤ 1000000000) := Lib.hid fun x => by rw [hgT]; exact Nat.le_trans (ph_le c t f _ _ _) (pow_le8 (by omega))
    have hB : (9 : Nat) ≤ 9 := Nat.le_refl _
    have E0 : Hid (hon c a = true → ph c t (f + 1) false a m = isum gF l ∧ ph c t (f + 1) true a m = isum gT l) := Lib.hid fun hh => by
      rw [ph_go hat, ph_go hat, hl, isum_bl, isum_bl, hgF, hgT, hh]; exact ⟨rfl, rfl⟩
    have E1 : Hid (hon c a = false → ph c t (f + 1) false a m = isum gT l ∧ ph c t (f + 1) true a m = isum gF l) := Lib.hid fun hh => by
      rw [ph_go hat, ph_go hat, hl, isum_bl, isum_bl, hgF, hgT, hh]; exact ⟨rfl, rfl⟩
    have HR : Hid (∀ k, k < N → ∃ u : Nat, na l k = u ∧ u < n ∧ bits BinOp.andNot IntKind.u16 (m : Int) (IntKind.u16.wrap (2 ^ u)) = ((clr m (2 ^ u) : Nat) : Int) ∧
        (∀ w, Calls Tryd.prog 46 #[.string (cbs c), .int .i64 (u : Nat), .int .i64 (t : Nat), .int .u16 (clr m (2 ^ u) : Nat)] w fun e w' => e = .returned (.tuple #[.int .i64 (gF u), .int .i64 (gT u)]) ∧ Below w.heap.size w w')) := Lib.hid fun k hk => by
      obtain ⟨u, e1, hu, hb⟩ := bl_at (x := m) (k := 10) (i := k) (by rw [← hl, ← Hlen.out]; exact hk)
      have h1 := pc_clr ⟨m, hm10⟩ ⟨u, hu⟩ hb
      simp only at h1
      have hun : u < n := bit_lt hm hb
      obtain ⟨f', hf'⟩ : ∃ f', f = f' + 1 := ⟨f - 1, by omega⟩
      refine ⟨u, by rw [hl]; exact e1, hun, ?_, fun w => ?_⟩
      · rw [wrap_pow u hu, bits_clr m (2 ^ u) hm10 (pow_small u hu)]
      · have h2 := IH.out f' hf' u (clr m (2 ^ u)) w hun (Nat.lt_of_le_of_lt (clr_le _ _) hm) (by omega)
        rw [hgF, hgT, hf']
        exact h2
    have Hat : (((a : Nat) : Int) == ((t : Nat) : Int)) = false := by rw [beq_eq_false_iff_ne]; omega
    have HLi := Lib.hid (list_any m w hm10)
    rw [← hl, ← hN] at HLi
    obtain ⟨r0, hr0⟩ : ∃ r, ph c t (f + 1) false a m = r := ⟨_, rfl⟩
    obtain ⟨r1, hr1⟩ : ∃ r, ph c t (f + 1) true a m = r := ⟨_, rfl⟩
    rw [hr0, hr1] at E0 E1
    rw [hr0, hr1]
    clear hr0 hr1 hgF hgT hl hN IH hp hB
    generalize cbs c = s at HH HR ⊢
    go_enter Tryd.func46, Tryd.ntmps46
    go_wp2_with fail
    refine HLi.out.mono ?_
    rintro e w1 ⟨v, rfl, own, hb1⟩
    obtain ⟨ao, cap, rfl, hna⟩ := nums_shape own Hlen.out
    have Hna := Lib.hid hna
    have Hb1 := Lib.hid hb1
    clear own hna hb1
    go_wp2_with fail
    go_loopw [8, 9, 20] (fun v0 v1 i wr => ∃ k : Nat, k ≤ N ∧ i = .int .i64 k ∧ v0 = .int .i64 (isum gF (l.take k) : Nat) ∧ v1 = .int .i64 (isum gT (l.take k) : Nat) ∧ Below w1.heap.size w1 wr) (fun _ _ i _ => N - (intOf i).toNat)
    case atStart => exact ⟨0, Nat.zero_le _, rfl, rfl, rfl, Below.refl _ _⟩
    case round =>
      obtain ⟨k, hk, rfl, rfl, rfl, hbel⟩ := hrel
      by_cases hlt : k < N
      · obtain ⟨b, off, rfl, hcell⟩ : ∃ b off, ao = some ⟨b, off, none⟩ ∧ ∀ i, i < l.length → w1.cell? ⟨b, off + i, none⟩ = some (.int .i64 (na l i)) := by
          rcases Hna.out with h | h
          · have := Hlen.out; rw [h] at this; simp at this; omega
          · exact h
        obtain ⟨u, eu, hu, hbit, hcall⟩ := HR.out k hlt
        have hc0 : wr.cell? ⟨b, off + k, none⟩ = some (.int .i64 (u : Nat)) := by
          have h := hcell k (by rw [← Hlen.out]; exact hlt)
          rw [eu] at h
          exact (hbel.cell (World.block_lt_of_cell? _ _ h)).trans h
        have HC := Lib.hid hcall
        have s0 := isum_take gF l k (by rw [← Hlen.out]; exact hlt)
        have s1 := isum_take gT l k (by rw [← Hlen.out]; exact hlt)
        rw [eu, Int.toNat_natCast] at s0 s1
        have b0 := isum_le gF 1000000000 (l.take k) HgF.out
        have b1 := isum_le gT 1000000000 (l.take k) HgT.out
        have hlk : (l.take k).length ≤ 10 := by rw [List.length_take]; omega
        have g0 := HgF.out u
        have g1 := HgT.out u
        have b2 : isum gF (l.take k) ≤ 10000000000 := by
          have : (l.take k).length * 1000000000 ≤ 10 * 1000000000 := Nat.mul_le_mul_right _ hlk
          omega
        have b3 : isum gT (l.take k) ≤ 10000000000 := by
          have : (l.take k).length * 1000000000 ≤ 10 * 1000000000 := Nat.mul_le_mul_right _ hlk
          omega
        have S0 := Lib.hid s0
        have S1 := Lib.hid s1
        obtain ⟨x0, hx0⟩ : ∃ x, isum gF (l.take k) = x := ⟨_, rfl⟩
        obtain ⟨x1, hx1⟩ : ∃ x, isum gT (l.take k) = x := ⟨_, rfl⟩
        obtain ⟨y0, hy0⟩ : ∃ x, gF u = x := ⟨_, rfl⟩
        obtain ⟨y1, hy1⟩ : ∃ x, gT u = x := ⟨_, rfl⟩
        rw [hx0, hy0] at S0
        rw [hx1, hy1] at S1
        rw [hy0, hy1] at HC
        rw [hx0] at b2 ⊢
        rw [hx1] at b3 ⊢
        rw [hy0] at g0
        rw [hy1] at g1
        have hb0 : (0 : Int) ≤ k := by omega
        have hb1' : (k : Int) < N := by omega
        have Hbel := Lib.hid hbel
        clear s0 s1 b0 b1 hlk hx0 hx1 hy0 hy1 hcall hcell eu hbel
        go_wp2_with fail
        refine (HC.out _).mono ?_
        rintro e w2 ⟨rfl, hb2⟩
        go_wp2_with fail
        go_roundw
        case rel => exact ⟨k + 1, by omega, by go_num, by rw [S0.out]; go_num, by rw [S1.out]; go_num, Hbel.out.trans (hb2.mono Hbel.out.size)⟩
        case measure => simp [intOf]; omega
      · obtain rfl : k = N := by omega
        have ht : l.take k = l := List.take_of_length_le (by rw [← Hlen.out]; exact Nat.le_refl _)
        rw [ht]
        have Hfin := Lib.hid (Hb1.out.trans (hbel.mono Hb1.out.size))
        cases hh : hon c a
        · have E := Lib.hid (E1.out hh)
          rw [hh] at HH
          clear hh hbel ht hlt hk
          go_wp2_with fail
          refine (HH.out _).mono ?_
          rintro e w2 ⟨rfl, rfl⟩
          go_wp2_with fail
          go_ret2
          exact ⟨by rw [E.out.1, E.out.2]; rfl, Hfin.out⟩
        · have E := Lib.hid (E0.out hh)
          rw [hh] at HH
          clear hh hbel ht hlt hk
          go_wp2_with fail
          refine (HH.out _).mono ?_
          rintro e w2 ⟨rfl, rfl⟩
          go_wp2_with fail
          go_ret2
          exact ⟨by rw [E.out.1, E.out.2]; rfl, Hfin.out⟩
theorem ph_any (c : List Bool) (t n : Nat) (Hn : Hid (n = c.length)) (hn : n ≤ 8) : ∀ f, f ≤ 8 → PhOk c t n f
  | 0, h => ph_step c t n Hn hn 0 h (Lib.hid fun f' e => by omega)
  | f + 1, h => ph_step c t n Hn hn (f + 1) h (Lib.hid fun f' e => by
      obtain rfl : f = f' := by omega
      exact ph_any c t n Hn hn f (by omega))

end Go.Proofs.YtaangjidkkpogaaDoor
