/- The model's arrivals, whatever the sends. -/
import Derived.Test.YtghfkgbmmkcjhaaDeA
namespace Go.Proofs.Ytghfkgbmmkcjhaa
open Go.ChangeShapes Go.WideShapes Go.ChangeAt Go.RowKit
set_option linter.unusedVariables false


set_option maxHeartbeats 4000000 in
set_option maxRecDepth 20000 in
theorem deA_zero (ao : Option Addr) (cap : Nat) (d : Int) (PN : Nat) (w : World) (hd : 1 ≤ d ∧ d ≤ 10) (hP1 : 1 ≤ PN) (hP2 : PN ≤ 40) :
    Calls Try.prog 63 #[.int .i64 d, .int .i64 (PN : Int), .slice ao 0 cap] w fun e w' => ∃ v, e = .returned (.tuple #[v, .bool (arB d (PN : Int) [])]) ∧ w'.ownsRow w.heap.size 3 1 v (arR d PN []).length (ns (arR d PN [])) ∧ Below w.heap.size w w' := by
  obtain ⟨r, Hr⟩ : ∃ r : Bool, Hid (r = arB d (PN : Int) []) := ⟨_, Lib.hid rfl⟩
  obtain ⟨R, HR⟩ : ∃ R : List Int, Hid (R = arR d PN []) := ⟨_, Lib.hid rfl⟩
  rw [← Hr.out, ← HR.out]
  have HRR : Hid (R = if r then aL d PN [] 0 else []) := by show _ = _; rw [HR.out, Hr.out]; rfl
  obtain ⟨i3, hi3, hy0, hy1, hy2⟩ := info_parts info3
  have Hz := Lib.hid (And.intro hy0 (And.intro hy1 hy2))
  clear hy0 hy1 hy2
  have hw1 : IntKind.i64.wrap ((PN : Int) - 1) = (PN : Int) - 1 := IntWalk.i64_in _ (by omega)
  go_enter Try.func63, Try.ntmps63
  go_wp2_with (refine wpList_make_full _ rfl _ _ 36 rfl w.heap.size 3 i3 (.int .i64 0) 1 Try.underlying36 hi3 Hz.out.1 Hz.out.2.1 .i64 .i64 _ _ PN rfl rfl rfl rfl ?_ ?_ ?_ ?_)
  · rw [Hz.out.2.2]; omega
  · unfold maxLen; omega
  · exact Nat.le_refl _
  intro w1 hown hgr
  have own1 : w1.ownsRow w.heap.size 3 1 (.slice (some ⟨w.heap.size, 0, none⟩) PN PN) PN (ns (fp PN 0)) := by rw [fp_zero, ← zero_nums, Nat.mul_one]; simpa using hown
  have hb1 : Below w.heap.size w w1 := (Below.refl _ _).grown hgr (Nat.le_refl _) (fun _ h => by cases h)
  obtain ⟨g, hg⟩ : ∃ g, w.heap.size = g := ⟨_, rfl⟩
  have hgw : w.heap.size ≤ g := by omega
  have Own1 : Hid (w1.ownsRow g 3 1 (.slice (some ⟨g, 0, none⟩) PN PN) PN (ns (fp PN 0))) := by rw [← hg]; exact own1
  have Bel1 := Lib.hid hb1
  rw [hg]
  clear hown hgr own1 hb1
  have Hg : Hid (g = w.heap.size) := hg.symm
  clear hg
  go_wp2_with fail
  go_loopw [23] (fun i wr => ∃ k : Nat, k ≤ PN ∧ i = .int .i64 k ∧ wr.ownsRow g 3 1 (.slice (some ⟨g, 0, none⟩) PN PN) PN (ns (fp PN k)) ∧ Below w.heap.size w wr) (fun i _ => PN - (intOf i).toNat)
  case atStart => exact ⟨0, Nat.zero_le _, rfl, Own1.out, Bel1.out⟩
  case round =>
    clear Own1 Bel1
    obtain ⟨k, hk, rfl, hor, hbel⟩ := hrel
    by_cases hlt : k < PN
    · obtain ⟨u0, z0⟩ := own_some hor k (by omega)
      have zf0 := hor.frozenAt k
      have own2 := (hor.stored k (.int .i64 (-1))).1
      rw [ns_set, fp_set PN k hlt] at own2
      have Own2 := Lib.hid own2
      have Bel2 : Hid (Below w.heap.size w (wr.setCell ⟨g, k, none⟩ (.int .i64 (-1)))) := hbel.setCell (p := ⟨g, k, none⟩) hgw _
      have hk1 : (0 : Int) ≤ k := by omega
      have hk2 : (k : Int) < PN := by omega
      clear own2 hor hbel
      go_wp2_with fail
      go_roundw
      case rel => exact ⟨k + 1, by omega, by go_num, Own2.out, Bel2.out⟩
      case measure => simp [intOf]; omega
    · obtain rfl : PN = k := by omega
      obtain ⟨u0, z0⟩ := own_some hor 0 (by omega)
      have zf0 := hor.frozenAt 0
      have own2 := (hor.stored 0 (.int .i64 0)).1
      rw [ns_set, fp_start d PN [] (by omega)] at own2
      have Own2 := Lib.hid own2
      have Bel2 : Hid (Below w.heap.size w (wr.setCell ⟨g, 0, none⟩ (.int .i64 0))) := hbel.setCell (p := ⟨g, 0, none⟩) hgw _
      have hp0 : (0 : Int) < (PN : Int) := by omega
      clear own2 hor hbel hlt hk
      go_wp2_with fail
      go_loopw [34] (fun i wr => i = .int .i64 0 ∧ Hid (wr.ownsRow g 3 1 (.slice (some ⟨g, 0, none⟩) PN PN) PN (ns (aL d PN [] 0))) ∧ Below w.heap.size w wr) (fun _ _ => 0)
      case atStart => exact ⟨rfl, Own2, Bel2.out⟩
      case round =>
        clear Own2 Bel2 z0 zf0
        obtain ⟨rfl, HO, hbel⟩ := hrel
        have Hbel := Lib.hid hbel
        clear hbel
        go_wp2_with fail
        go_loopw [106] (fun i wr => i = .int .i64 0 ∧ Hid (wr.ownsRow g 3 1 (.slice (some ⟨g, 0, none⟩) PN PN) PN (ns (aL d PN [] 0))) ∧ Below w.heap.size w wr) (fun _ _ => 0)
        case atStart => exact ⟨rfl, HO, Hbel.out⟩
        case round =>
          clear HO Hbel
          obtain ⟨rfl, HO, hbel⟩ := hrel
          have Hrt : Hid (r = true) := by show _ = _; rw [Hr.out]; rfl
          have HRe : Hid (R = aL d PN [] 0) := by show _ = _; rw [HRR.out, Hrt.out, if_pos rfl]
          have Hbel := Lib.hid hbel
          clear hbel
          go_wp2_with fail
          go_ret2
          exact ⟨.slice (some ⟨g, 0, none⟩) PN PN, by rw [Hrt.out]; rfl, by rw [HRe.out, aL_length]; exact own_base hgw HO.out, Hbel.out⟩

theorem deA_big (ao : Option Addr) (cap : Nat) (d P : Int) (PN : Nat) (l : List Snd) (n : Nat) (w : World) (Hn : Hid (n = l.length)) (h40 : ¬ n ≤ 40) :
    Calls Try.prog 63 #[.int .i64 d, .int .i64 P, .slice ao n cap] w fun e w' => ∃ v, e = .returned (.tuple #[v, .bool (arB d P l)]) ∧ w'.ownsRow w.heap.size 3 1 v (if arB d P l then aL d PN l l.length else []).length (ns (if arB d P l then aL d PN l l.length else [])) ∧ Below w.heap.size w w' := by
  have hR : arB d P l = false := by
    have : ¬ l.length ≤ 40 := by rw [← Hn.out]; exact h40
    simp [arB, this]
  have hgt : decide ((n : Int) > 40) = true := by simp; omega
  rw [hR]
  simp only [Bool.false_eq_true, if_false]
  clear hR
  go_enter Try.func63, Try.ntmps63
  go_wp2_with fail
  go_ret2
  exact ⟨.slice none 0 0, rfl, World.ownsRow_nil _ _ _ _, Below.refl _ _⟩

theorem deA_any (w : World) (d : Int) (PN : Nat) (ao : Option Addr) (cap : Nat) (l : List Snd) (n : Nat) (hd : 1 ≤ d ∧ d ≤ 10) (hP1 : 1 ≤ PN) (hP2 : PN ≤ 40) (Hn : Hid (n = l.length)) (hcap : n ≤ cap) (hc : SendsAt w ao l) :
    Calls Try.prog 63 #[.int .i64 d, .int .i64 (PN : Int), .slice ao n cap] w fun e w' => ∃ v, e = .returned (.tuple #[v, .bool (arB d PN l)]) ∧ w'.ownsRow w.heap.size 3 1 v (arR d PN l).length (ns (arR d PN l)) ∧ Below w.heap.size w w' := by
  by_cases h40 : n ≤ 40
  · by_cases h0 : n = 0
    · subst h0
      obtain rfl : l = [] := List.eq_nil_of_length_eq_zero Hn.out.symm
      exact deA_zero ao cap d PN w hd hP1 hP2
    · rcases hc with h | ⟨b, off, rfl, hcc⟩
      · subst h; exact absurd Hn.out h0
      · exact deA_pos b off cap d PN l n w hd hP1 hP2 Hn h40 hcap (by rw [Hn.out]; exact hcc)
  · exact deA_big ao cap d PN PN l n w Hn h40

end Go.Proofs.Ytghfkgbmmkcjhaa
