/- LearnedIn: the model and the program. -/
import Derived.Test.YtffnmpmgnaephaaIdle
namespace Go.Proofs.Ytffnmpmgnaephaa
open Go.ChangeShapes Go.WideShapes Go.ChangeAt Go.RowKit
set_option linter.unusedVariables false

def learnB (f : Int) (l : List (Int × Int)) (k : Int) : Bool := gdB f l && decide (0 ≤ k ∧ k ≤ (l.length : Int) - 1)

def learnI (f : Int) (l : List (Int × Int)) (k : Int) : Int := if learnB f l k then (cntTo (play f.toNat (l.take (k.toNat + 1))) f.toNat : Int) - cntTo (play f.toNat (l.take k.toNat)) f.toNat else 0

set_option maxRecDepth 20000 in
theorem specLearned_any (w : World) (f : Int) (ao : Option Addr) (cap : Nat) (l : List (Int × Int)) (n : Nat) (Hn : Hid (n = l.length)) (hs : n ≤ 1048576) (Hc : CallsAt w ao l) (hcap : n ≤ cap) (x : Int) :
    Calls Try.prog 32 #[.int .i64 f, .slice ao n cap, .int .i64 x] w fun e w' => e = .returned (.tuple #[.int .i64 (learnI f l x), .bool (learnB f l x)]) ∧ Below w.heap.size w w' := by
  have HHc := Lib.hid Hc
  clear Hc
  cases hg : gdB f l
  · have hb : learnB f l x = false := by simp [learnB, hg]
    rw [hb, show learnI f l x = 0 by simp [learnI, hb]]
    have Hg := Lib.hid hg
    clear hg hb
    go_enter Try.func32, Try.ntmps32
    go_wp2_with fail
    refine (caGood_any f ao cap l n w Hn.out (by omega) HHc.out).mono ?_
    rintro e w1 ⟨rfl, hb⟩
    rw [Hg.out]
    go_wp2_with fail
    go_ret2
    exact ⟨rfl, hb⟩
  · have hff := gd_fr hg
    by_cases hx : 0 ≤ x ∧ x < n
    · have hb : learnB f l x = true := by simp [learnB, hg, ← Hn.out]; omega
      obtain ⟨F, rfl⟩ := Int.eq_ofNat_of_zero_le (show 0 ≤ f by omega)
      obtain ⟨k, rfl⟩ := Int.eq_ofNat_of_zero_le hx.1
      have HR : Hid (learnI F l k = (cntTo (play F (l.take (k + 1))) F : Int) - cntTo (play F (l.take k)) F) := by show _ = _; simp [learnI, hb]
      have Hx : Hid (decide ((0 : Int) ≤ k ∧ (k : Int) ≤ (n : Int) - 1) = true) := by show _ = true; simp; omega
      have hkn : k < n := by omega
      have hs60 : n ≤ 60 := by rw [Hn.out]; exact gd_len' hg
      have Hg := Lib.hid hg
      rw [hb]
      clear hg hb hx
      go_enter Try.func32, Try.ntmps32
      go_wp2_with fail
      refine (caGood_any F ao cap l n w Hn.out (by omega) HHc.out).mono ?_
      rintro e w1 ⟨rfl, hb1⟩
      rw [Hg.out]
      have Hc1 := Lib.hid (HHc.out.kept hb1)
      go_wp2_with fail
      refine (l1In_any k 0 (n - 1) w1).mono ?_
      rintro e w' ⟨rfl, rfl⟩
      rw [Hx.out]
      go_wp2_with fail
      refine (caLearned_any w1 F ao cap l n k Hn hs60 hcap hkn Hc1 Hg hff).mono ?_
      rintro e w2 ⟨rfl, hb2⟩
      go_wp2_with fail
      go_ret2
      exact ⟨by rw [HR.out]; rfl, hb1.trans (hb2.mono hb1.size)⟩
    · have hx2 : decide (0 ≤ x ∧ x ≤ (n : Int) - 1) = false := by simp; omega
      have hb : learnB f l x = false := by simp [learnB, ← Hn.out]; omega
      rw [hb, show learnI f l x = 0 by simp [learnI, hb]]
      have Hg := Lib.hid hg
      have Hx := Lib.hid hx2
      have hs60 : n ≤ 60 := by rw [Hn.out]; exact gd_len' hg
      clear hg hx hx2 hb
      go_enter Try.func32, Try.ntmps32
      go_wp2_with fail
      refine (caGood_any f ao cap l n w Hn.out (by omega) HHc.out).mono ?_
      rintro e w1 ⟨rfl, hb⟩
      rw [Hg.out]
      go_wp2_with fail
      refine (l1In_any x 0 (n - 1) w1).mono ?_
      rintro e w' ⟨rfl, rfl⟩
      rw [Hx.out]
      go_wp2_with fail
      go_ret2
      exact ⟨rfl, hb⟩
set_option maxHeartbeats 3200000 in
theorem learned_any (a b : Int) (x y : Nat) (w : World) (hx : x < 1024) (hy : y < 1024) :
    Calls Try.prog 57 #[.agg #[.int .i64 a, .int .i64 b, .int .u16 x, .int .u16 y]] w fun e w' => e = .returned (.int .i64 (2 * pc (x ||| y) - pc x - pc y)) ∧ Below w.heap.size w w' := by
  have hv : x ||| y < 1024 := Nat.or_lt_two_pow (n := 10) hx hy
  have Hv := Lib.hid hv
  have Hx := Lib.hid hx
  have Hy := Lib.hid hy
  have px : pc x ≤ 10 := pc_le ⟨x, hx⟩
  have py : pc y ≤ 10 := pc_le ⟨y, hy⟩
  have pv : pc (x ||| y) ≤ 10 := pc_le ⟨x ||| y, hv⟩
  have c0 : (w.alloc (.cells #[.int .i64 a, .int .i64 b, .int .u16 x, .int .u16 y] 70)).cell? ⟨w.heap.size, 0, none⟩ = some (.int .i64 a) := by rw [cell_of_row _ _ _ _ _ _ (heap_alloc_new w _)]; rfl
  have c1 : (w.alloc (.cells #[.int .i64 a, .int .i64 b, .int .u16 x, .int .u16 y] 70)).cell? ⟨w.heap.size, 1, none⟩ = some (.int .i64 b) := by rw [cell_of_row _ _ _ _ _ _ (heap_alloc_new w _)]; rfl
  have c2 : (w.alloc (.cells #[.int .i64 a, .int .i64 b, .int .u16 x, .int .u16 y] 70)).cell? ⟨w.heap.size, 2, none⟩ = some (.int .u16 x) := by rw [cell_of_row _ _ _ _ _ _ (heap_alloc_new w _)]; rfl
  have c3 : (w.alloc (.cells #[.int .i64 a, .int .i64 b, .int .u16 x, .int .u16 y] 70)).cell? ⟨w.heap.size, 3, none⟩ = some (.int .u16 y) := by rw [cell_of_row _ _ _ _ _ _ (heap_alloc_new w _)]; rfl
  have C0 := Lib.hid c0
  have C1 := Lib.hid c1
  have C2 := Lib.hid c2
  have C3 := Lib.hid c3
  clear hv hx hy c0 c1 c2 c3
  go_enter Try.func57, Try.ntmps57
  go_wp2_with fail
  go_region_held3 (fun w' => w'.cell? ⟨w.heap.size, 0, none⟩ = some (.int .i64 a) ∧ w'.cell? ⟨w.heap.size, 1, none⟩ = some (.int .i64 b) ∧ w'.cell? ⟨w.heap.size, 2, none⟩ = some (.int .u16 x) ∧ w'.cell? ⟨w.heap.size, 3, none⟩ = some (.int .u16 y) ∧ Below w.heap.size w w')
    (first
      | exact ⟨C0.out, C1.out, C2.out, C3.out, ((Below.refl _ _).alloc (Nat.le_refl _) _).drew⟩
      | (go_split_ands
         refine ⟨?_, ?_, ?_, ?_, ?_⟩
         · exact cell_below (by assumption) hb2
         · exact cell_below (by assumption) hb2
         · exact cell_below (by assumption) hb2
         · exact cell_below (by assumption) hb2
         · exact Below.trans (by assumption) (hb2.mono (Below.size (by assumption))))
      | go_keep)
    (first
      | (go_at_call 75; (with_reducible refine (both_any a b x y _ Hx.out Hy.out).mono ?_); rintro e w2 ⟨rfl, hb2⟩)
      | (go_at_call 74; (with_reducible refine (setCount_any x _ Hx.out).mono ?_); rintro e w2 ⟨rfl, hb2⟩)
      | (go_at_call 74; (with_reducible refine (setCount_any y _ Hy.out).mono ?_); rintro e w2 ⟨rfl, hb2⟩)
      | (go_at_call 74; (with_reducible refine (setCount_any (x ||| y) _ Hv.out).mono ?_); rintro e w2 ⟨rfl, hb2⟩)
      | fail)
  rename_i hh
  have hbb : Below w.heap.size w w2 := hh.2.2.2.2
  clear hh
  go_wp2_with fail
  go_ret
  exact ⟨ret_int (by rw [IntWalk.i64_in (2 * _) (by omega), IntWalk.i64_in (2 * _ - _) (by omega), IntWalk.i64_in _ (by omega)]), hbb⟩

set_option maxHeartbeats 1600000 in
set_option maxRecDepth 20000 in
theorem implLearned_yes (w : World) (F b off cap : Nat) (l : List (Int × Int)) (n k : Nat) (Hn : Hid (n = l.length)) (hs : n ≤ 60) (hcap : n ≤ cap) (hk : k < n) (HHc : Hid (CallsAt w (some ⟨b, off, none⟩) l))
    (Hcc : Hid (w.cell? ⟨b, off + k * 2, none⟩ = some (.int .i64 (ca l k)) ∧ w.cell? ⟨b, off + k * 2 + 1, none⟩ = some (.int .i64 (cb l k)))) (Hg : Hid (gdB (F : Int) l = true)) (hff : 1 ≤ (F : Int) ∧ (F : Int) ≤ 10) :
    Calls Try.prog 33 #[.int .i64 F, .slice (some ⟨b, off, none⟩) n cap, .int .i64 k] w fun e w' => e = .returned (.tuple #[.int .i64 (2 * pc (play F (l.take k) (ca l k).toNat ||| play F (l.take k) (cb l k).toNat) - pc (play F (l.take k) (ca l k).toNat) - pc (play F (l.take k) (cb l k).toNat)), .bool true]) ∧ Below w.heap.size w w' := by
  have Hk0 : Hid (k = (l.take k).length) := by show k = _; rw [List.length_take, ← Hn.out]; omega
  have Hg0 := Lib.hid (gd_take Hg.out k)
  have hgc := gd_call Hg.out (i := k) (by rw [← Hn.out]; exact hk)
  have HGC := Lib.hid (And.intro hgc.1 (And.intro hgc.2.1 (show cb l k < 10 by omega)))
  have Hs1 := Lib.hid (play_small F (by omega) (l.take k) (ca l k).toNat)
  have Hs2 := Lib.hid (play_small F (by omega) (l.take k) (cb l k).toNat)
  have HSM := Lib.hid (play_small F (by omega) (l.take k))
  have e5 : (0 : Int) ≤ (k : Int) := by omega
  have e6 : (k : Int) ≤ (cap : Int) := by omega
  have e7 : (k : Int) < (n : Int) := by omega
  have hkc : k ≤ cap := by omega
  clear hgc
  go_enter Try.func33, Try.ntmps33
  go_wp2_with fail
  refine (areCalls_any F _ cap l n w Hn.out (by omega) HHc.out).mono ?_
  rintro e w1 ⟨rfl, hb1⟩
  rw [Hg.out]
  have hC1 : CallsAt w1 (some ⟨b, off, none⟩) (l.take k) := (calls_take HHc.out k).kept hb1
  have hc1 := cell_old hb1 Hcc.out.1
  have hc2 := cell_old hb1 Hcc.out.2
  have HC1 := Lib.hid hC1
  have Hc1 := Lib.hid hc1
  have Hc2 := Lib.hid hc2
  have Hb1 := Lib.hid hb1
  clear hC1 hc1 hc2 hb1
  go_wp2_with fail
  go_region_held3 (fun w' => CallsAt w' (some ⟨b, off, none⟩) (l.take k) ∧ w'.cell? ⟨b, off + k * 2, none⟩ = some (.int .i64 (ca l k)) ∧ w'.cell? ⟨b, off + k * 2 + 1, none⟩ = some (.int .i64 (cb l k)) ∧ Below w.heap.size w w')
    (first
      | exact ⟨HC1.out, Hc1.out, Hc2.out, Hb1.out.drew⟩
      | (go_split_ands
         refine ⟨?_, ?_, ?_, ?_⟩
         · exact CallsAt.kept (by assumption) hb2
         · exact cell_below (by assumption) hb2
         · exact cell_below (by assumption) hb2
         · exact Below.trans (by assumption) (hb2.mono (Below.size (by assumption))))
      | go_keep)
    (first
      | (go_at_call 45; (with_reducible refine (knowledgeBehind_any F _ cap (l.take k) k _ Hk0 Hg0.out ?_).mono ?_); (go_split_ands; assumption); rintro e w2 ⟨rfl, hb2⟩)
      | (go_at_call 56; (with_reducible refine (before_int F (play F (l.take k)) _ _ _ HGC.out.1 HGC.out.2.1 HGC.out.2.2).mono ?_); rintro e w2 ⟨rfl, hb2⟩)
      | (go_at_call 57; (with_reducible refine (learned_any _ _ _ _ _ Hs1.out Hs2.out).mono ?_); rintro e w2 ⟨rfl, hb2⟩)
      | fail)
  rename_i hh
  have hbb : Below w.heap.size w w2 := hh.2.2.2
  clear hh
  go_wp2_with fail
  go_ret2
  exact ⟨rfl, hbb⟩

set_option maxRecDepth 20000 in
theorem implLearned_any (w : World) (f : Int) (ao : Option Addr) (cap : Nat) (l : List (Int × Int)) (n : Nat) (Hn : Hid (n = l.length)) (hs : n ≤ 1048576) (Hc : CallsAt w ao l) (hcap : n ≤ cap) (x : Int) :
    Calls Try.prog 33 #[.int .i64 f, .slice ao n cap, .int .i64 x] w fun e w' => e = .returned (.tuple #[.int .i64 (learnI f l x), .bool (learnB f l x)]) ∧ Below w.heap.size w w' := by
  have HHc := Lib.hid Hc
  clear Hc
  cases hg : gdB f l
  · have hb : learnB f l x = false := by simp [learnB, hg]
    rw [hb, show learnI f l x = 0 by simp [learnI, hb]]
    have Hg := Lib.hid hg
    clear hg hb
    go_enter Try.func33, Try.ntmps33
    go_wp2_with fail
    refine (areCalls_any f ao cap l n w Hn.out (by omega) HHc.out).mono ?_
    rintro e w1 ⟨rfl, hb⟩
    rw [Hg.out]
    go_wp2_with fail
    go_ret2
    exact ⟨rfl, hb⟩
  · have hff := gd_fr hg
    by_cases hx : 0 ≤ x ∧ x < n
    · have hb : learnB f l x = true := by simp [learnB, hg, ← Hn.out]; omega
      obtain ⟨F, rfl⟩ := Int.eq_ofNat_of_zero_le (show 0 ≤ f by omega)
      obtain ⟨k, rfl⟩ := Int.eq_ofNat_of_zero_le hx.1
      have hkn : k < n := by omega
      have HR : learnI F l k = (cntTo (play F (l.take (k + 1))) F : Int) - cntTo (play F (l.take k)) F := by simp [learnI, hb]
      rw [hb, HR, learned_eq hg (by rw [← Hn.out]; exact hkn)]
      obtain ⟨b, off, rfl, hcc⟩ : ∃ b off, ao = some ⟨b, off, none⟩ ∧ (w.cell? ⟨b, off + k * 2, none⟩ = some (.int .i64 (ca l k)) ∧ w.cell? ⟨b, off + k * 2 + 1, none⟩ = some (.int .i64 (cb l k))) := by
        rcases HHc.out with h | ⟨b, off, h, hc⟩
        · subst h; exact absurd Hn.out (by simp; omega)
        · exact ⟨b, off, h, hc k (by rw [← Hn.out]; exact hkn)⟩
      exact implLearned_yes w F b off cap l n k Hn (by rw [Hn.out]; exact gd_len' hg) hcap hkn HHc hcc hg hff
    · have hb : learnB f l x = false := by simp [learnB, ← Hn.out]; omega
      rw [hb, show learnI f l x = 0 by simp [learnI, hb]]
      have Hg := Lib.hid hg
      have hs60 : n ≤ 60 := by rw [Hn.out]; exact gd_len' hg
      clear hg hb
      by_cases h0 : x < 0
      · clear hx
        go_enter Try.func33, Try.ntmps33
        go_wp2_with fail
        refine (areCalls_any f ao cap l n w Hn.out (by omega) HHc.out).mono ?_
        rintro e w1 ⟨rfl, hb⟩
        rw [Hg.out]
        go_wp2_with fail
        go_ret2
        exact ⟨rfl, hb⟩
      · have h1 : (n : Int) ≤ x := by omega
        have h2 : (0 : Int) ≤ x := by omega
        clear hx h0
        go_enter Try.func33, Try.ntmps33
        go_wp2_with fail
        refine (areCalls_any f ao cap l n w Hn.out (by omega) HHc.out).mono ?_
        rintro e w1 ⟨rfl, hb⟩
        rw [Hg.out]
        go_wp2_with fail
        go_ret2
        exact ⟨rfl, hb⟩
end Go.Proofs.Ytffnmpmgnaephaa
