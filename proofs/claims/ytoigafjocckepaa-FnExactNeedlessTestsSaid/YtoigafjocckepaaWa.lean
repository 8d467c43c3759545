/- All lists of so many wires: the model's. -/
import Derived.Test.YtoigafjocckepaaLu0
import Derived.Test.YtoigafjocckepaaOpen
namespace Go.Proofs.Ytoigafjocckepaa
open Go.ChangeShapes Go.WideShapes Go.ChangeAt Go.RowKit
set_option linter.unusedVariables false


def wLT (f : Nat) : Nat → List (List Int) | 0 => [] | c + 1 => wLT f c ++ lx f c []
theorem wLT_all (f : Nat) : ∀ m, wLT f (m + 1) = wL f m
  | 0 => by simp [wLT, wL]
  | m + 1 => by
    show wLT f (m + 1) ++ lx f (m + 1) [] = wL f m ++ lx f (m + 1) []
    rw [wLT_all f m]
theorem wLT_len {f : Nat} (hf : f ≤ 10) (c : Nat) : (wLT f c).length ≤ 1024 * c := by
  cases c with
  | zero => simp [wLT]
  | succ c => rw [wLT_all]; exact wL_len hf c

set_option maxHeartbeats 800000 in
set_option maxRecDepth 20000 in
theorem wiAll_any (w : World) (f m : Nat) (hf : f ≤ 10) (hm : m ≤ 10) :
    Calls Try.prog 51 #[.int .i64 (f : Int), .int .i64 (m : Int)] w fun e w' => ∃ v X, e = .returned v ∧ OwnSS w' w.heap.size v X (wL f m) ∧ Below w.heap.size w w' := by
  obtain ⟨i22, hi22, hz220, hz221, hz222⟩ := info_parts info36
  rw [← wLT_all]
  go_enter Try.func51, Try.ntmps51
  go_wp2_with fail
  go_loopw [5, 6] (fun v i wr => ∃ (c : Nat) (X : List Value), c ≤ m + 1 ∧ i = .int .i64 c ∧ OwnSS wr w.heap.size v X (wLT f c) ∧ Below w.heap.size w wr) (fun _ i _ => m + 1 - (intOf i).toNat)
  case atStart => exact ⟨0, [], Nat.zero_le _, rfl, OwnSS.nil _ _, Below.refl _ _⟩
  case round =>
    obtain ⟨c, X, hc, rfl, hor, hbel⟩ := hrel
    by_cases hlt : c < m + 1
    · have hci : (c : Int) ≤ m := by omega
      have hsz := hbel.size
      obtain ⟨LL, hLL⟩ : ∃ LL, wLT f c = LL := ⟨_, rfl⟩
      have hlen : LL.length ≤ 1024 * 11 := by rw [← hLL]; have := wLT_len hf c; omega
      have hfs : wLT f (c + 1) = wLT f c ++ lx f c [] := rfl
      rw [hLL] at hor hfs
      obtain ⟨aoU, capU, rfl, _⟩ := hor.reads
      obtain ⟨LU, hLU⟩ : ∃ LU, LL.length = LU := ⟨_, rfl⟩
      rw [hLU] at hor hlen ⊢
      have HLU := Lib.hid hLU
      have Hor := Lib.hid hor
      have Hbel := Lib.hid hbel
      have hl5 := lx_len f c []
      have hpw : 2 ^ (f - nxt []) ≤ 2 ^ 10 := Nat.pow_le_pow_right (by decide) (by omega)
      have hWL := wiLists_nil wr f c hf (by omega)
      obtain ⟨R5, hR5⟩ : ∃ R, lx f c [] = R := ⟨_, rfl⟩
      rw [hR5] at hl5 hfs hWL
      have Hfs := Lib.hid hfs
      have HWL := Lib.hid hWL
      have hl5b : R5.length ≤ 1024 := by omega
      have Hss : Hid (SSlt (.slice aoU LU capU) X wr.heap.size) := hor.lt
      clear hor hbel hLU hLL hfs hl5 hpw hR5 hWL
      go_wp2_with fail
      refine HWL.out.mono ?_
      rintro e w5 ⟨v5, X5, rfl, hO5, hn5, hb5⟩
      have Hor5 := Lib.hid (Hor.out.later hb5)
      have Hb5 := Lib.hid (Hbel.out.trans (hb5.mono hsz))
      have hs5 := Hb5.out.size
      have hs95 := hb5.size
      by_cases hemp : R5 = []
      · have hv5 := hn5 hemp
        subst hv5
        have Hfin : Hid (wLT f (c + 1) = LL) := by show _ = _; rw [Hfs.out, hemp]; simp
        have hO6 := Hor5.out.1
        rw [HLU.out] at hO6
        have HO6 := Lib.hid hO6
        clear hO5 hb5 hemp hO6 hn5 Hfs
        go_wp2_with (at_builtin; refine wpList_append_own_none rfl _ _ 22 rfl w.heap.size 36 i22 1 Try.underlying22 hi22 _ _ _ rfl HO6.out rfl ?_)
        go_roundw
        case rel => exact ⟨c + 1, X, by omega, by go_num, by rw [Hfin.out]; exact Hor5.out, Hb5.out⟩
        case measure => simp [intOf]; omega
      · have hpos : 0 < R5.length := List.length_pos_iff.2 hemp
        obtain ⟨g5, c5, rfl, _⟩ := hO5.outer hpos
        have Ho5 := Lib.hid hO5
        obtain ⟨M5, hM5⟩ : ∃ M, R5.length = M := ⟨_, rfl⟩
        rw [hM5] at Ho5 hpos hl5b ⊢
        have HM5 := Lib.hid hM5
        clear hO5 hb5 hM5 hemp hn5
        go_wp2_with (at_builtin; refine push_rows _ rfl _ _ 22 rfl w.heap.size i22 Try.underlying22 hi22 hz220 hz221 hz222 _ X LL LU HLU.out rfl Hor5.out (by omega) wr.heap.size g5 c5 X5 R5 M5 HM5.out Ho5.out (by omega) Hss.out hpos (by omega) rfl (by omega) ?_)
        intro v6 w6 own6 hgr6
        rw [← Hfs.out] at own6
        have Ho6 := Lib.hid own6
        have Hb6 := Lib.hid (Hb5.out.grown hgr6 hs5 (fun bb hb => (Hor5.out.1.lt bb hb).1))
        clear own6 hgr6 Hor5 Hb5
        go_wp2_with fail
        go_roundw
        case rel => exact ⟨c + 1, _, by omega, by go_num, Ho6.out, Hb6.out⟩
        case measure => simp [intOf]; omega
    · obtain rfl : c = m + 1 := by omega
      have hci : ¬ ((m + 1 : Nat) : Int) ≤ m := by omega
      have Hor := Lib.hid hor
      clear hor
      go_wp2_with fail
      go_ret
      first | exact ⟨_, X, rfl, Hor.out, hbel⟩ | exact ⟨_, rfl, ⟨X, Hor.out⟩, hbel⟩

end Go.Proofs.Ytoigafjocckepaa
