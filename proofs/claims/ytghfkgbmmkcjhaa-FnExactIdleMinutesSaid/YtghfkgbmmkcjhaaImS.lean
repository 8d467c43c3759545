/- IdleMinutes of the model. -/
import Derived.Test.YtghfkgbmmkcjhaaIm
namespace Go.Proofs.Ytghfkgbmmkcjhaa
open Go.ChangeShapes Go.WideShapes Go.ChangeAt Go.RowKit
set_option linter.unusedVariables false


set_option maxHeartbeats 1600000 in
set_option maxRecDepth 20000 in
theorem specIM_any (w : World) (d P : Int) (ao : Option Addr) (cap : Nat) (l : List Snd) (n : Nat) (Hn : Hid (n = l.length)) (hn : n ≤ 1048576) (hcap : n ≤ cap) (hc : SendsAt w ao l) :
    Calls Try.prog 46 #[.int .i64 d, .int .i64 P, .slice ao n cap] w fun e w' => e = .returned (.tuple #[.int .i64 (imR d P l), .bool (laB d P l)]) ∧ Below w.heap.size w w' := by
  have HX := Lib.hid (deLast_any w d P ao cap l n Hn hn hcap hc)
  have HC := Lib.hid hc
  clear hc
  cases hA : laB d P l
  · have hR : imR d P l = 0 := by unfold imR; rw [hA]; rfl
    rw [hR]
    rw [hA] at HX
    clear hA hR
    go_enter Try.func46, Try.ntmps46
    go_wp2_with fail
    refine HX.out.mono ?_
    rintro e w1 ⟨rfl, hb1⟩
    go_wp2_with fail
    go_ret2
    exact ⟨rfl, hb1⟩
  · obtain ⟨⟨D, rfl, hD1, hD10⟩, ⟨Q, rfl, hQ1, hQ2⟩, h40, _, hars, g0, g1, _⟩ := la_in hA
    have hav := Lib.hid (la_av hA)
    have hR : imR D Q l = smF (laR D Q l) (fun x => av D l x) Q - (n : Int) := by
      unfold imR
      rw [hA, if_pos rfl, Int.toNat_natCast, ← Hn.out]
    rw [hR]
    rw [hA] at HX
    have har : arB (D : Int) Q l = true := by
      simp only [arsB, Bool.and_eq_true] at hars ⊢
      exact hars.2.2
    have HB := Lib.hid (fun u hu => deA_any u (D : Int) Q ao cap l n (by omega) hQ1 hQ2 Hn hcap (HC.out.kept hu))
    have hRR : arR (D : Int) Q l = aL D Q l l.length := by simp [arR, har]
    obtain ⟨R, HR⟩ : ∃ R : List Int, Hid (R = arR (D : Int) Q l) := ⟨_, Lib.hid rfl⟩
    have hRl : R.length = Q := by rw [HR.out, hRR, aL_length]
    rw [har, ← HR.out] at HB
    obtain ⟨L, hL⟩ : ∃ x, laR D Q l = x := ⟨_, rfl⟩
    rw [hL] at HX g0 g1 ⊢
    have hn40 : n ≤ 40 := by rw [Hn.out]; exact h40
    obtain ⟨G, hG⟩ : ∃ G : Int → Int, (fun x => av (D : Int) l x) = G := ⟨_, rfl⟩
    have HG : Hid (∀ i : Nat, i < Q → na R i = G i ∧ 0 ≤ G i ∧ G i ≤ 70) := Lib.hid (fun i hi => by
      rw [← hG]
      exact ⟨by rw [HR.out, hRR, aL_get _ _ _ _ _ hi, List.take_length], (hav.out i hi).2⟩)
    rw [hG]
    have hg := fun i hi => (HG.out i hi).2
    have HSB := Lib.hid (fun k hk => smF_bd ⟨g0, g1⟩ hg k hk)
    clear hA hR hars har hL hav h40 hG hRR hg
    go_enter Try.func46, Try.ntmps46
    go_wp2_with fail
    refine HX.out.mono ?_
    rintro e w1 ⟨rfl, hb1⟩
    have Hb1 := Lib.hid hb1
    clear hb1
    go_wp2_with fail
    refine (HB.out _ Hb1.out).mono ?_
    rintro e w2 ⟨v, rfl, own, hb2⟩
    rw [hRl] at own
    obtain ⟨g2, c2, rfl⟩ := own_apos own (by omega)
    have Hc : Hid (∀ i, i < Q → w2.cell? ⟨g2, i, none⟩ = some (.int .i64 (na R i))) := Lib.hid (fun i hi => by
      have := own.cellAt i (by omega)
      rw [ns_get _ i (by omega)] at this
      exact this)
    have Hb2 := Lib.hid (Hb1.out.trans (hb2.mono Hb1.out.size))
    clear own hb2 HX
    go_wp2_with fail
    go_loop [12, 33] (fun m i => ∃ k : Nat, k ≤ Q ∧ i = .int .i64 k ∧ m = .int .i64 (smF L G k)) (fun _ i => Q - (intOf i).toNat)
    case atStart => exact ⟨0, Nat.zero_le _, rfl, rfl⟩
    case round =>
      obtain ⟨k, hk, rfl, rfl⟩ := hrel
      have hsb := HSB.out k hk
      by_cases h : k < Q
      · have hcc := Hc.out k h
        obtain ⟨q1, q2, q3⟩ := HG.out k h
        rw [q1] at hcc
        have hp0 : (0 : Int) ≤ (k : Int) := by omega
        have hp1 : (k : Int) < (Q : Int) := by omega
        obtain ⟨x, hx⟩ : ∃ x, G k = x := ⟨_, rfl⟩
        obtain ⟨y, hy⟩ : ∃ y, smF L G k = y := ⟨_, rfl⟩
        have Hm : Hid (smF L G (k + 1) = y + (L - x)) := Lib.hid (by rw [← hx, ← hy]; rfl)
        rw [hx] at hcc q2 q3
        rw [hy] at hsb ⊢
        have hw1 : IntKind.i64.wrap (L - x) = L - x := IntWalk.i64_in _ (by omega)
        have hw2 : IntKind.i64.wrap (y + (L - x)) = y + (L - x) := IntWalk.i64_in _ (by omega)
        clear q1 hx hy hsb
        go_wp2_with fail
        rw [← Hm.out]
        go_round
        case rel => exact ⟨k + 1, by omega, by go_num, rfl⟩
        case measure => simp [intOf]; omega
      · obtain rfl : k = Q := by omega
        obtain ⟨y, hy⟩ : ∃ y, smF L G k = y := ⟨_, rfl⟩
        have HY := Lib.hid hy
        rw [hy] at hsb ⊢
        have hwr : IntKind.i64.wrap (y - (n : Int)) = y - (n : Int) := IntWalk.i64_in _ (by omega)
        clear hy
        go_wp2_with fail
        go_ret2
        exact ⟨by rw [HY.out]; rfl, Hb2.out⟩

end Go.Proofs.Ytghfkgbmmkcjhaa
