/- Rounds that double what is known: the model. -/
import Derived.Test.YtnngdoiempmkkaaDblI
namespace Go.Proofs.Ytnngdoiempmkkaa
open Go.ChangeShapes Go.WideShapes Go.ChangeAt Go.RowKit
set_option linter.unusedVariables false


set_option maxRecDepth 20000 in
set_option maxHeartbeats 1000000 in
theorem specDbl_yes (F H : Nat) (w : World) (hF : F = 2 * H) (h1 : 1 ≤ H) (h2 : H ≤ 5) :
    Calls Try.prog 23 #[.int .i64 F] w fun e w' => ∃ v X, e = .returned (.tuple #[v, .bool true]) ∧ OwnCS w' w.heap.size v X (dR F (KK F)) ∧ Below w.heap.size w w' := by
  obtain ⟨i0, hi, hz0, hz1, hz2⟩ := info_parts info29
  have Hfr : Hid (frB F = true) := Lib.hid (by simp [frB]; omega)
  have hrem : ((F : Int) % 2 != 0) = false := by
    have : (F : Int) % 2 = 0 := by omega
    rw [this]; rfl
  have hF10 : F ≤ 10 := by omega
  have hH : F / 2 = H := by omega
  have hF1 : 2 * H ≤ F := by omega
  have hF2 : F ≤ 2 * H := by omega
  have hne : ¬ (F : Int) = 0 := by omega
  have HH := Lib.hid hH
  clear hF hH
  go_enter Try.func23, Try.ntmps23
  go_wp2_with fail
  refine (caFriends_any F w).mono ?_
  rintro e w1 ⟨rfl, rfl⟩
  rw [Hfr.out]
  go_wp2_with fail
  go_loopw [4, 5] (fun v i wr => ∃ (k : Nat) (X : List Value), k ≤ 4 ∧ i = .int .i64 k ∧ Hid (∀ j, j < k → 2 ^ j < F) ∧ OwnCS wr w.heap.size v X (dR F k) ∧ Below w.heap.size w wr) (fun _ i _ => 5 - (intOf i).toNat)
  case atStart => exact ⟨0, [], Nat.zero_le _, rfl, Lib.hid (fun j hj => absurd hj (Nat.not_lt_zero j)), OwnCS.nil _ _, Below.refl _ _⟩
  case round =>
    obtain ⟨k, X, hk, rfl, hall, hor, hbel⟩ := hrel
    have hsz := hbel.size
    have Hor := Lib.hid hor
    obtain ⟨I, hI⟩ : ∃ I, 2 ^ k = I := ⟨_, rfl⟩
    have hwp : wrap64 (2 ^ k) = (I : Int) := by rw [wrap_pow64 k (by omega), hI]
    have hIp : 1 ≤ I := by rw [← hI]; exact Nat.one_le_two_pow
    clear hor
    by_cases hlt : I < F
    · obtain ⟨hk3, hI8, hpw⟩ := pow_step hk (by rw [hI]; exact hlt) hF10
      rw [hI] at hI8 hpw
      have hltI : (I : Int) < (F : Int) := by omega
      have Hall : Hid (∀ j, j < k + 1 → 2 ^ j < F) := Lib.hid (fun j hj => by
        by_cases hjk : j = k
        · subst hjk; rw [hI]; exact hlt
        · exact hall.out j (by omega))
      obtain ⟨P, hP⟩ : ∃ P, 2 ^ (k + 1) = P := ⟨_, rfl⟩
      have hwp1 : wrap64 (2 ^ (k + 1)) = (P : Int) := by rw [wrap_pow64 (k + 1) (by omega), hP]
      have hPI : P = I + I := by rw [← hP]; exact hpw
      have hP16 : P ≤ 16 := by omega
      have hP1 : 1 ≤ P := by omega
      obtain ⟨fa, hfa⟩ : ∃ fa : Int, (P : Int) - 1 = fa := ⟨_, rfl⟩
      have Hfa : Hid (fa = fak k) := Lib.hid (by rw [fak, hP, hfa])
      have hfa0 : 0 ≤ fa := by omega
      have hfa1 : fa ≤ 15 := by omega
      have hk1 : ((k : Int) + 1).toNat = k + 1 := by omega
      have HPfa := Lib.hid hfa
      obtain ⟨w0, hw0⟩ : ∃ w0, w0 = wr := ⟨_, rfl⟩
      subst hw0
      clear hI hpw hP hfa hPI
      go_wp2_with fail
      rw [hwp]
      go_loopw [6, 7] (fun v i wr => ∃ m : Nat, m ≤ H ∧ i = .int .i64 (2 * (m : Int) + 1) ∧ wr.ownsRow w0.heap.size 46 2 v m (cs (srt (drow F fa m))) ∧ Below w0.heap.size w0 wr) (fun _ i _ => F + 1 - (intOf i).toNat)
      case atStart => exact ⟨0, Nat.zero_le _, rfl, by rw [drow_zero, srt_nil]; exact World.ownsRow_nil _ _ _ _, Below.refl _ _⟩
      case round =>
        obtain ⟨m, hm, rfl, hrow, hb2⟩ := hrel
        have hsz2 := hb2.size
        have Hrow := Lib.hid hrow
        clear hrow
        by_cases hltm : m < H
        · have hxl : 2 * (m : Int) + 1 < (F : Int) := by omega
          obtain ⟨x, hx⟩ : ∃ x : Int, 2 * (m : Int) + 1 = x := ⟨_, rfl⟩
          have hx0 : 0 ≤ x := by omega
          have hx1 : x ≤ 10 := by omega
          rw [hx] at hxl
          rw [hx]
          have hsum : x + (P : Int) - 1 = x + fa := by have := HPfa.out; omega
          have hrg := yy_range (F := F) (fa := fa) (x := x) (by omega) (by omega)
          have Hdc : Hid (drow F fa (m + 1) = drow F fa m ++ [dcall F fa x]) := Lib.hid (by rw [drow_succ, hx])
          have Hx := Lib.hid hx
          obtain ⟨y, hy⟩ : ∃ y, (x + fa).tmod (F : Int) = y := ⟨_, rfl⟩
          have hyy : yy F fa x = y := hy
          rw [hyy] at hrg
          have hwy : IntKind.i64.wrap y = y := IntWalk.i64_in _ (by omega)
          have hws : IntKind.i64.wrap (x + fa) = x + fa := IntWalk.i64_in _ (by omega)
          have hws2 : IntKind.i64.wrap (x + (P : Int)) = x + (P : Int) := IntWalk.i64_in _ (by omega)
          have Hput := Lib.hid (fun (b : Int × Int) (W : World) (h : W.ownsRow w0.heap.size 46 2 u6 m (cs (srt (drow F fa m)))) => roPut_own w0.heap.size u6 (srt (drow F fa m)) m b.1 b.2 W (by rw [srt_length, drow_length]) (by omega) h)
          have Hdc2 : Hid (putL (srt (drow F fa m)) (min x y, max x y) = srt (drow F fa (m + 1))) := Lib.hid (by rw [srt_put, Hdc.out, dcall, hyy])
          clear hx hyy
          go_wp2_with fail
          refine (caPair_any x y wr).mono ?_
          rintro e w1 ⟨rfl, rfl⟩
          have hb3 : Below w0.heap.size w0 (wr.alloc (.cells #[.int .i64 (min x y), .int .i64 (max x y)] 46)) := hb2.alloc hsz2 _
          have Hrow1 := Lib.hid (Hrow.out.alloc (.cells #[.int .i64 (min x y), .int .i64 (max x y)] 46))
          generalize wr.alloc (.cells #[.int .i64 (min x y), .int .i64 (max x y)] 46) = w3 at *
          have hsz3 := hb3.size
          have Hcall := Lib.hid (Hput.out (min x y, max x y) w3 Hrow1.out)
          clear Hput hb2 hsz2
          go_wp2_with fail
          refine Hcall.out.mono ?_
          rintro e w4 ⟨v4, rfl, own4, hb4⟩
          have Hown4 : Hid (w4.ownsRow w0.heap.size 46 2 v4 (m + 1) (cs (srt (drow F fa (m + 1))))) := Lib.hid (by rw [← Hdc2.out]; exact own_base hsz3 own4)
          have Hb4 := Lib.hid (hb3.trans (hb4.mono hsz3))
          clear own4 hb4
          have Hxn : Hid (x + 2 = 2 * ((m + 1 : Nat) : Int) + 1) := Lib.hid (by have := Hx.out; omega)
          go_wp2_with fail
          go_roundw
          case rel => exact ⟨m + 1, by omega, by rw [← Hxn.out], Hown4.out, Hb4.out⟩
          case measure => have := Hx.out; simp [intOf]; omega
        · obtain rfl : m = H := by omega
          have hxl : ¬ (2 * (m : Int) + 1 < (F : Int)) := by omega
          have own2 : wr.ownsRow w0.heap.size 46 2 u6 (srt (drow F (fak k) (F / 2))).length (cs (srt (drow F (fak k) (F / 2)))) := by
            rw [srt_length, drow_length, HH.out, ← Hfa.out]; exact Hrow.out
          obtain ⟨a5, c5, rfl, _⟩ := own_shape_s own2 rfl
          have Hor2 := Lib.hid (Hor.out.later hb2)
          have Hfar := Lib.hid (Hor.out.far own2)
          have Hown2 := Lib.hid (own_base hsz own2)
          have hone2 := Lib.hid (own_one own2)
          have hbel2 : Below w.heap.size w wr := hbel.trans (hb2.mono hsz)
          have hs2 := hbel2.size
          clear own2 Hrow
          go_wp2_with (at_builtin; refine push_round _ rfl _ _ 25 rfl w.heap.size i0 Try.underlying25 hi hz0 hz1 hz2 _ X (dR F k) k (dR_length F k) rfl (Hor2.out.alloc _) (by omega) _ _ (Hown2.out.alloc _) Hfar.out.1 Hfar.out.2 1 wr.heap.size rfl (by simp) hone2.out (by simp; omega) ?_)
          intro v3 w3 own3 hb3
          rw [← dR_succ] at own3
          have Hown3 := Lib.hid own3
          have Hb3 := Lib.hid ((hbel2.alloc hs2 _).trans hb3)
          clear own3 hb3 hbel2
          go_wp2_with fail
          go_roundw
          case rel => exact ⟨k + 1, _, by omega, by go_num, Hall, Hown3.out, Hb3.out⟩
          case measure => simp [intOf]; omega
    · have hltI : ¬ (I : Int) < (F : Int) := by omega
      have hkk : k = KK F := KK_eq hk hall.out (by rw [hI]; exact hlt) hF10
      have Hor2 := Hor.out
      rw [hkk] at Hor2
      have Hor3 := Lib.hid Hor2
      obtain ⟨ao, cap, rfl, _⟩ := Hor2.rows
      clear Hor2 hkk hI
      go_wp2_with fail
      go_ret2
      first | exact ⟨_, X, rfl, Hor3.out, hbel⟩ | exact ⟨_, rfl, ⟨X, Hor3.out⟩, hbel⟩ | exact ⟨⟨_, rfl⟩, ⟨X, Hor3.out⟩, hbel⟩

end Go.Proofs.Ytnngdoiempmkkaa
