/- A set with those of calls: the program. -/
import Derived.Test.YtibjapfaljeclaaDoorPi
namespace Go.Proofs.YtibjapfaljeclaaDoor
open Go.ChangeShapes Go.WideShapes Go.ChangeAt Go.RowKit
set_option linter.unusedVariables false


/-- A set with those of calls. -/
def wthT (t : Nat) (l : List (Int × Int)) : Nat → Nat
  | 0 => t
  | k + 1 => wthT t l k ||| (2 ^ (ca l k).toNat ||| 2 ^ (cb l k).toNat)
theorem wth_small {t : Nat} {l : List (Int × Int)} (ht : t < 1024) (hg : twoB l) : ∀ k, k ≤ l.length → wthT t l k < 1024
  | 0, _ => ht
  | k + 1, hk => by
    have h := hg k hk
    exact or_small (wth_small ht hg k (by omega)) (or_small (pow_small _ (by omega)) (pow_small _ (by omega)))

set_option maxRecDepth 20000 in
theorem with_any (t : Nat) (ao : Option Addr) (cap : Nat) (l : List (Int × Int)) (n : Nat) (w : World) (Hn : Hid (n = l.length)) (hs : n ≤ 1048576) (ht : t < 1024) (Hg : Hid (twoB l)) (HA : Hid (CallsAt w ao l)) :
    Calls Tryd.prog 28 #[.int .u16 t, .slice ao n cap] w fun e w' => e = .returned (.int .u16 (wthT t l l.length)) ∧ Below w.heap.size w w' := by
  go_enter Tryd.func28, Tryd.ntmps28
  go_wp2_with fail
  go_loopw [0, 9] (fun v i wr => ∃ k : Nat, k ≤ n ∧ i = .int .i64 k ∧ v = .int .u16 ((wthT t l k : Nat) : Int) ∧ Below w.heap.size w wr) (fun _ i _ => n - (intOf i).toNat)
  case atStart => exact ⟨0, Nat.zero_le _, rfl, rfl, Below.refl _ _⟩
  case round =>
    obtain ⟨k, hk, rfl, rfl, hbel⟩ := hrel
    by_cases hlt : k < n
    · rcases HA.out with h | ⟨b, off, rfl, hc⟩
      · exact absurd hlt (by rw [Hn.out, h]; simp)
      have hkl : k < l.length := by rw [← Hn.out]; exact hlt
      have h0 := cell_old hbel (hc k hkl).1
      have h1 := cell_old hbel (hc k hkl).2
      have hgc := Hg.out k hkl
      obtain ⟨a, ha⟩ := Int.eq_ofNat_of_zero_le hgc.1
      obtain ⟨bb, hbb⟩ := Int.eq_ofNat_of_zero_le (show 0 ≤ cb l k by omega)
      rw [ha] at hgc h0
      rw [hbb] at hgc h1
      have ha10 : a < 10 := by omega
      have hb10 : bb < 10 := by omega
      have hk2 : (k : Int) < n := by omega
      have hsz := hbel.size
      obtain ⟨qa, hqa⟩ : ∃ qa, 2 ^ a = qa := ⟨_, rfl⟩
      obtain ⟨qb, hqb⟩ : ∃ qb, 2 ^ bb = qb := ⟨_, rfl⟩
      have hwa : IntKind.u16.wrap ((2 : Int) ^ a) = (qa : Int) := by rw [wrap_pow a ha10, hqa]
      have hwb : IntKind.u16.wrap ((2 : Int) ^ bb) = (qb : Int) := by rw [wrap_pow bb hb10, hqb]
      have hqa1 : qa < 1024 := by rw [← hqa]; exact pow_small a ha10
      have hqb1 : qb < 1024 := by rw [← hqb]; exact pow_small bb hb10
      have hsm := wth_small ht Hg.out k (by omega)
      have hsucc : wthT t l (k + 1) = wthT t l k ||| (qa ||| qb) := by rw [wthT, ha, hbb, Int.toNat_natCast, Int.toNat_natCast, hqa, hqb]
      obtain ⟨s, hs'⟩ : ∃ s, wthT t l k = s := ⟨_, rfl⟩
      rw [hs'] at hsm hsucc ⊢
      obtain ⟨r, hr⟩ : ∃ r, qa ||| qb = r := ⟨_, rfl⟩
      have hr1 : r < 1024 := by rw [← hr]; exact or_small hqa1 hqb1
      obtain ⟨s2, hs2⟩ : ∃ s2, s ||| r = s2 := ⟨_, rfl⟩
      have ho1 : bits BinOp.or IntKind.u16 (qa : Int) (qb : Int) = (r : Int) := by rw [bits_or_nat qa qb hqa1 hqb1, hr]
      have ho2 : bits BinOp.or IntKind.u16 (s : Int) (r : Int) = (s2 : Int) := by rw [bits_or_nat s r hsm hr1, hs2]
      have Hsucc : Hid (wthT t l (k + 1) = s2) := Lib.hid (by rw [hsucc, hr, hs2])
      obtain ⟨w3, hw3⟩ : ∃ w3, wr.alloc (.cells #[.int .i64 a, .int .i64 bb] 35) = w3 := ⟨_, rfl⟩
      have c0 : w3.cell? ⟨wr.heap.size, 0, none⟩ = some (.int .i64 a) := by rw [← hw3]; simp
      have c1 : w3.cell? ⟨wr.heap.size, 1, none⟩ = some (.int .i64 bb) := by rw [← hw3]; simp
      have hb3 : Below w.heap.size w w3 := by rw [← hw3]; exact hbel.alloc hsz _
      have Hb3 := Lib.hid (fun q => belowN hb3 q)
      clear ha hbb hc hqa hqb hs' hr hs2 hsucc hbel hb3
      go_wp2_with fail
      try rw [hw3]
      clear hw3 h0 h1
      go_quiet (fail)
      go_wp2_with fail
      go_roundw
      case rel => exact ⟨k + 1, by omega, by go_num, by rw [Hsucc.out], Hb3.out _⟩
      case measure => simp [intOf]; omega
    · obtain rfl : k = n := by omega
      have Hend : Hid (wthT t l k = wthT t l l.length) := Lib.hid (by rw [← Hn.out])
      go_wp2_with fail
      go_ret
      exact ⟨by rw [← Hend.out]; rfl, hbel⟩

end Go.Proofs.YtibjapfaljeclaaDoor
