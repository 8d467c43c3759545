/- What a clue tells of a list, by the model: the other kinds. -/
import Derived.Test.YtmgmkgjefplfdaaVs
namespace Go.Proofs.Ytmgmkgjefplfdaa
open Go.ChangeShapes Go.WideShapes Go.ChangeAt Go.RowKit
set_option linter.unusedVariables false


set_option maxRecDepth 20000 in
theorem value_1 (w : World) (F : Nat) (ao : Option Addr) (cap : Nat) (l : List (Int × Int)) (n : Nat) (Hn : Hid (n = l.length)) (hs : n ≤ 60) (HHc : Hid (CallsAt w ao l)) (Hg : Hid (gdB (F : Int) l = true)) (x : Nat) (hx : x < F) (b : Int) :
    Calls Try.prog 106 #[.int .i64 (F : Int), .int .i64 1, .int .i64 (x : Int), .int .i64 b, .slice ao n cap] w fun e w' => e = .returned (.int .i64 (pc (play F l x) : Int)) ∧ Below w.heap.size w w' := by
  have hff := gd_fr Hg.out
  have hsm := play_small F (by omega) l x
  obtain ⟨S, hS⟩ : ∃ S, play F l x = S := ⟨_, rfl⟩
  rw [hS] at hsm ⊢
  have HS := Lib.hid hS
  clear hS
  go_enter Try.func106, Try.ntmps106
  go_wp2_with fail
  refine (caPlay_any F ao cap l n w Hn Hg.out HHc.out).mono ?_
  rintro e w1 ⟨v1, rfl, own1, hb1⟩
  obtain ⟨g1, cap1, rfl⟩ := own_apos' own1 (by omega)
  have hcx : w1.cell? ⟨g1, x, none⟩ = some (.int .i64 S) := by have h := kl_cells own1 x hx; rwa [Nat.zero_add, HS.out] at h
  have Hb1 := Lib.hid hb1
  have hs1 := hb1.size
  clear own1 hb1
  go_wp2_with fail
  refine (caBits_any S w1 hsm).mono ?_
  rintro e w2 ⟨v2, rfl, own2, hb2⟩
  obtain ⟨a2, c2, rfl, _⟩ := nums_shape own2 (by rw [bl_length])
  have HB := Lib.hid (Hb1.out.trans (hb2.mono hs1))
  clear own2 hb2
  go_wp2_with fail
  go_ret
  exact ⟨rfl, HB.out⟩
theorem and_bit (S y : Nat) (hS : S < 1024) : bits BinOp.and IntKind.i64 ((S : Int) / 2 ^ y) 1 = (if S.testBit y then 1 else 0) := by
  have e1 : ((S : Int) / 2 ^ y) = ((S / 2 ^ y : Nat) : Int) := by simp
  rw [e1, and_one _ (Nat.lt_of_le_of_lt (Nat.div_le_self _ _) hS)]
  have h : S.testBit y = decide (S / 2 ^ y % 2 = 1) := by rw [Nat.testBit_eq_decide_div_mod_eq]
  rw [h]
  have := Nat.mod_two_eq_zero_or_one (S / 2 ^ y)
  rcases this with h | h <;> simp [h]
set_option maxRecDepth 20000 in
theorem value_2 (w : World) (F : Nat) (ao : Option Addr) (cap : Nat) (l : List (Int × Int)) (n : Nat) (Hn : Hid (n = l.length)) (hs : n ≤ 60) (HHc : Hid (CallsAt w ao l)) (Hg : Hid (gdB (F : Int) l = true)) (x y : Nat) (hx : x < F) (hy : y < F) :
    Calls Try.prog 106 #[.int .i64 (F : Int), .int .i64 2, .int .i64 (x : Int), .int .i64 (y : Int), .slice ao n cap] w fun e w' => e = .returned (.int .i64 (if (play F l x).testBit y then 1 else 0)) ∧ Below w.heap.size w w' := by
  have hff := gd_fr Hg.out
  have hsm := play_small F (by omega) l x
  obtain ⟨S, hS⟩ : ∃ S, play F l x = S := ⟨_, rfl⟩
  rw [hS] at hsm ⊢
  have hab := and_bit S y hsm
  obtain ⟨I, hI⟩ : ∃ I : Int, (if S.testBit y = true then (1 : Int) else 0) = I := ⟨_, rfl⟩
  rw [hI] at hab ⊢
  have HS := Lib.hid hS
  clear hS hI
  go_enter Try.func106, Try.ntmps106
  go_wp2_with fail
  refine (caPlay_any F ao cap l n w Hn Hg.out HHc.out).mono ?_
  rintro e w1 ⟨v1, rfl, own1, hb1⟩
  obtain ⟨g1, cap1, rfl⟩ := own_apos' own1 (by omega)
  have hcx : w1.cell? ⟨g1, x, none⟩ = some (.int .i64 S) := by have h := kl_cells own1 x hx; rwa [Nat.zero_add, HS.out] at h
  have Hb1 := Lib.hid hb1
  clear own1 hb1
  go_wp2_with fail
  go_ret
  exact ⟨rfl, Hb1.out⟩
set_option maxRecDepth 20000 in
theorem value_4 (w : World) (F : Nat) (ao : Option Addr) (cap : Nat) (l : List (Int × Int)) (n : Nat) (Hn : Hid (n = l.length)) (hs : n ≤ 60) (HHc : Hid (CallsAt w ao l)) (Hg : Hid (gdB (F : Int) l = true)) (x : Nat) (hx : x < n) (b : Int) :
    Calls Try.prog 106 #[.int .i64 (F : Int), .int .i64 4, .int .i64 (x : Int), .int .i64 b, .slice ao n cap] w fun e w' => e = .returned (.int .i64 (if (ca l x == b || cb l x == b) then 1 else 0)) ∧ Below w.heap.size w w' := by
  have hff := gd_fr Hg.out
  have hPI := fun W => pzIn_any (ca l x) (cb l x) b W
  obtain ⟨I, hI⟩ : ∃ I : Int, (if (ca l x == b || cb l x == b) = true then (1 : Int) else 0) = I := ⟨_, rfl⟩
  rw [hI] at hPI ⊢
  have HPI := Lib.hid hPI
  clear hPI hI
  go_enter Try.func106, Try.ntmps106
  go_wp2_with fail
  refine (caPlay_any F ao cap l n w Hn Hg.out HHc.out).mono ?_
  rintro e w1 ⟨v1, rfl, own1, hb1⟩
  obtain ⟨g1, cap1, rfl⟩ := own_apos' own1 (by omega)
  have Hb1 := Lib.hid hb1
  have hs1 := hb1.size
  obtain ⟨b', off, rfl, hc⟩ : ∃ b' off, ao = some ⟨b', off, none⟩ ∧ ∀ i, i < n → w.cell? ⟨b', off + i * 2, none⟩ = some (.int .i64 (ca l i)) ∧ w.cell? ⟨b', off + i * 2 + 1, none⟩ = some (.int .i64 (cb l i)) := by
    rcases HHc.out with h | ⟨b', off, h, hc⟩
    · subst h; have := Hn.out; simp at this; omega
    · exact ⟨b', off, h, fun i hi => hc i (by rw [← Hn.out]; exact hi)⟩
  have c0 := cell_old hb1 (hc x hx).1
  have c1 := cell_old hb1 (hc x hx).2
  clear own1 hb1 hc
  go_wp2_with fail
  refine (HPI.out w1).mono ?_
  rintro e w2 ⟨rfl, hb2⟩
  have HB := Lib.hid (Hb1.out.trans (hb2.mono hs1))
  clear hb2
  go_wp2_with fail
  go_ret
  exact ⟨rfl, HB.out⟩
set_option maxRecDepth 20000 in
theorem value_5 (w : World) (F : Nat) (ao : Option Addr) (cap : Nat) (l : List (Int × Int)) (n : Nat) (Hn : Hid (n = l.length)) (hs : n ≤ 60) (HHc : Hid (CallsAt w ao l)) (Hg : Hid (gdB (F : Int) l = true)) (a b : Int) :
    Calls Try.prog 106 #[.int .i64 (F : Int), .int .i64 5, .int .i64 a, .int .i64 b, .slice ao n cap] w fun e w' => e = .returned (.int .i64 (cntTo (play F l) F : Int)) ∧ Below w.heap.size w w' := by
  have hff := gd_fr Hg.out
  go_enter Try.func106, Try.ntmps106
  go_wp2_with fail
  refine (caPlay_any F ao cap l n w Hn Hg.out HHc.out).mono ?_
  rintro e w1 ⟨v1, rfl, own1, hb1⟩
  obtain ⟨g1, cap1, rfl⟩ := own_apos' own1 (by omega)
  have Hb1 := Lib.hid hb1
  have hs1 := hb1.size
  have HC := Lib.hid (caCount_any w.heap.size F _ (play F l) w1 (fun i => play_small F (by omega) l i) (by omega) (by omega) own1)
  clear own1 hb1
  go_wp2_with fail
  refine HC.out.mono ?_
  rintro e w2 ⟨rfl, hb2⟩
  have HB := Lib.hid (Hb1.out.trans (hb2.mono hs1))
  clear hb2
  go_wp2_with fail
  go_ret
  exact ⟨rfl, HB.out⟩

end Go.Proofs.Ytmgmkgjefplfdaa
