/- A test of each wire alone: the model and the program. -/
import Derived.Test.YtejmlhhblckddaaWi
namespace Go.Proofs.Ytejmlhhblckddaa
open Go.ChangeShapes Go.WideShapes Go.ChangeAt Go.RowKit
set_option linter.unusedVariables false


/-- A test of each of the first wires alone. -/
def sg : Nat → List (List Int) | 0 => [] | k + 1 => sg k ++ [[(k : Int)]]
theorem sg_length : ∀ k, (sg k).length = k | 0 => rfl | k + 1 => by simp [sg, sg_length k]
theorem row_app_lt {L M : List (List Int)} {i : Nat} (h : i < L.length) : row (L ++ M) i = row L i := by
  simp [row, List.getD_eq_getElem?_getD, List.getElem?_append_left h]
theorem row_app_eq (L : List (List Int)) (l : List Int) : row (L ++ [l]) L.length = l := by
  simp [row, List.getD_eq_getElem?_getD]
theorem sg_row (k i : Nat) : (row (sg k) i).length ≤ 1 := by
  induction k with
  | zero => simp [sg, row]
  | succ k ih =>
    show (row (sg k ++ [[(k : Int)]]) i).length ≤ 1
    by_cases h : i < k
    · rw [row_app_lt (by rw [sg_length]; exact h)]; exact ih
    · by_cases h2 : i = k
      · have e := row_app_eq (sg k) [(k : Int)]
        rw [sg_length] at e
        rw [h2, e]; simp
      · rw [row_none (by simp [sg_length]; omega)]; simp
def sgR (f : Int) : List (List Int) := if wfB f then sg f.toNat else []
theorem wf_parts {f : Int} (h : wfB f = true) : 1 ≤ f ∧ f ≤ 10 := by simpa [wfB] using h
theorem sgR_length (f : Int) : (sgR f).length ≤ 1000 := by
  unfold sgR; split
  · rename_i h; have := wf_parts h; rw [sg_length]; omega
  · simp
theorem sgR_row (f : Int) (i : Nat) : (row (sgR f) i).length ≤ 1000 := by
  unfold sgR; split
  · exact Nat.le_trans (sg_row _ i) (by omega)
  · simp [row]

set_option maxRecDepth 20000 in
theorem specSg_any (w : World) (f : Int) :
    Calls Try.prog 20 #[.int .i64 f] w fun e w' => ∃ v X, e = .returned (.tuple #[v, .bool (wfB f)]) ∧ OwnSS w' w.heap.size v X (sgR f) ∧ Below w.heap.size w w' := by
  obtain ⟨i0, hi, hz0, hz1, hz2⟩ := info_parts info27
  cases hw : wfB f
  · have hR : sgR f = [] := by simp [sgR, hw]
    rw [hR]
    have Hw := Lib.hid hw
    go_enter Try.func20, Try.ntmps20
    go_wp2_with fail
    refine (wiWires_any f w).mono ?_
    rintro e w' ⟨rfl, rfl⟩
    rw [Hw.out]
    go_wp2_with fail
    go_ret2
    exact ⟨_, [], rfl, OwnSS.nil _ _, Below.refl _ _⟩
  · have hf := wf_parts hw
    obtain ⟨n, rfl⟩ := Int.eq_ofNat_of_zero_le (a := f) (by omega)
    have hR : sgR (n : Int) = sg n := by simp [sgR, hw]
    rw [hR]
    have Hw := Lib.hid hw
    have hn1 : 1 ≤ n := by omega
    have hn10 : n ≤ 10 := by omega
    clear hf hw hR
    go_enter Try.func20, Try.ntmps20
    go_wp2_with fail
    refine (wiWires_any (n : Int) w).mono ?_
    rintro e w' ⟨rfl, rfl⟩
    rw [Hw.out]
    go_wp2_with fail
    go_loopw [4, 5] (fun v i wr => ∃ (k : Nat) (X : List Value), k ≤ n ∧ i = .int .i64 k ∧ OwnSS wr w.heap.size v X (sg k) ∧ Below w.heap.size w wr) (fun _ i _ => n - (intOf i).toNat)
    case atStart => exact ⟨0, [], Nat.zero_le _, rfl, OwnSS.nil _ _, Below.refl _ _⟩
    case round =>
      obtain ⟨k, X, hk, rfl, hor, hbel⟩ := hrel
      by_cases hlt : k < n
      · have hsz := hbel.size
        obtain ⟨ao, cap, rfl, _⟩ := hor.reads
        rw [sg_length] at hor ⊢
        have HL : Hid ((sg k).length = k) := sg_length k
        have bd := (Below.refl wr.heap.size wr).alloc (Nat.le_refl _) (.cells #[.int .i64 (k : Int)] 3)
        have HP := Lib.hid (newRow hor hsz bd (litRow wr k))
        have hs1 : (wr.alloc (.cells #[.int .i64 (k : Int)] 3)).heap.size = wr.heap.size + 1 := by simp
        rw [hs1] at HP
        have Hb5 := Lib.hid ((hbel.trans (bd.mono hsz)).alloc (by rw [hs1]; omega) (.cells #[.slice (some ⟨wr.heap.size, 0, none⟩) 1 1] 27))
        have hs5 : ((wr.alloc (.cells #[.int .i64 (k : Int)] 3)).alloc (.cells #[.slice (some ⟨wr.heap.size, 0, none⟩) 1 1] 27)).heap.size = wr.heap.size + 2 := by simp
        clear hor hbel bd
        go_wp2_with (at_builtin; refine push_row _ rfl _ _ 22 rfl w.heap.size i0 Try.underlying22 hi hz0 hz1 hz2 _ X (sg k) k HL.out rfl HP.out.own (by omega) (.slice (some ⟨wr.heap.size, 0, none⟩) 1 1) [(k : Int)] HP.out.new HP.out.hv HP.out.hX 1 (wr.heap.size + 1) rfl HP.out.cell rfl HP.out.size ?_)
        intro v6 w6 own6 hgr6 hat6
        have Ho6 : Hid (OwnSS w6 w.heap.size v6 (X ++ [.slice (some ⟨wr.heap.size, 0, none⟩) 1 1]) (sg (k + 1))) := own6
        have Hb6 := Lib.hid (Hb5.out.grown hgr6 (by rw [hs5]; omega) (fun bb hb => (HP.out.own.1.lt bb hb).1))
        clear own6 hgr6 hat6 Hb5
        go_wp2_with fail
        go_roundw
        case rel => exact ⟨k + 1, _, by omega, by go_num, Ho6.out, Hb6.out⟩
        case measure => simp [intOf]; omega
      · obtain rfl : k = n := by omega
        have Hor := Lib.hid hor
        clear hor
        go_wp2_with fail
        go_ret2
        exact ⟨_, X, rfl, Hor.out, hbel⟩

set_option maxRecDepth 20000 in
theorem implSg_any (w : World) (f : Int) :
    Calls Try.prog 21 #[.int .i64 f] w fun e w' => ∃ v X, e = .returned (.tuple #[v, .bool (wfB f)]) ∧ OwnSS w' w.heap.size v X (sgR f) ∧ Below w.heap.size w w' := by
  obtain ⟨i0, hi, hz0, hz1, hz2⟩ := info_parts info27
  cases hw : wfB f
  · have hR : sgR f = [] := by simp [sgR, hw]
    rw [hR]
    have Hw := Lib.hid hw
    go_enter Try.func21, Try.ntmps21
    go_wp2_with fail
    refine (canBeTested_any f w).mono ?_
    rintro e w' ⟨rfl, rfl⟩
    rw [Hw.out]
    go_wp2_with fail
    go_ret2
    exact ⟨_, [], rfl, OwnSS.nil _ _, Below.refl _ _⟩
  · have hf := wf_parts hw
    obtain ⟨n, rfl⟩ := Int.eq_ofNat_of_zero_le (a := f) (by omega)
    have hR : sgR (n : Int) = sg n := by simp [sgR, hw]
    rw [hR]
    have Hw := Lib.hid hw
    have hn1 : 1 ≤ n := by omega
    have hn10 : n ≤ 10 := by omega
    clear hf hw hR
    go_enter Try.func21, Try.ntmps21
    go_wp2_with fail
    refine (canBeTested_any (n : Int) w).mono ?_
    rintro e w' ⟨rfl, rfl⟩
    rw [Hw.out]
    go_wp2_with fail
    go_loopw [4, 10] (fun v i wr => ∃ (k : Nat) (X : List Value), k ≤ n ∧ i = .int .i64 k ∧ OwnSS wr w.heap.size v X (sg k) ∧ Below w.heap.size w wr) (fun _ i _ => n - (intOf i).toNat)
    case atStart => exact ⟨0, [], Nat.zero_le _, rfl, OwnSS.nil _ _, Below.refl _ _⟩
    case round =>
      obtain ⟨k, X, hk, rfl, hor, hbel⟩ := hrel
      by_cases hlt : k < n
      · have hsz := hbel.size
        obtain ⟨ao, cap, rfl, _⟩ := hor.reads
        rw [sg_length] at hor ⊢
        have HL : Hid ((sg k).length = k) := sg_length k
        have bd := (Below.refl wr.heap.size wr).alloc (Nat.le_refl _) (.cells #[.int .i64 (k : Int)] 3)
        have HP := Lib.hid (newRow hor hsz bd (litRow wr k))
        have hs1 : (wr.alloc (.cells #[.int .i64 (k : Int)] 3)).heap.size = wr.heap.size + 1 := by simp
        rw [hs1] at HP
        have Hb5 := Lib.hid ((hbel.trans (bd.mono hsz)).alloc (by rw [hs1]; omega) (.cells #[.slice (some ⟨wr.heap.size, 0, none⟩) 1 1] 27))
        have hs5 : ((wr.alloc (.cells #[.int .i64 (k : Int)] 3)).alloc (.cells #[.slice (some ⟨wr.heap.size, 0, none⟩) 1 1] 27)).heap.size = wr.heap.size + 2 := by simp
        clear hor hbel bd
        go_wp2_with (at_builtin; refine push_row _ rfl _ _ 22 rfl w.heap.size i0 Try.underlying22 hi hz0 hz1 hz2 _ X (sg k) k HL.out rfl HP.out.own (by omega) (.slice (some ⟨wr.heap.size, 0, none⟩) 1 1) [(k : Int)] HP.out.new HP.out.hv HP.out.hX 1 (wr.heap.size + 1) rfl HP.out.cell rfl HP.out.size ?_)
        intro v6 w6 own6 hgr6 hat6
        have Ho6 : Hid (OwnSS w6 w.heap.size v6 (X ++ [.slice (some ⟨wr.heap.size, 0, none⟩) 1 1]) (sg (k + 1))) := own6
        have Hb6 := Lib.hid (Hb5.out.grown hgr6 (by rw [hs5]; omega) (fun bb hb => (HP.out.own.1.lt bb hb).1))
        clear own6 hgr6 hat6 Hb5
        go_wp2_with fail
        go_roundw
        case rel => exact ⟨k + 1, _, by omega, by go_num, Ho6.out, Hb6.out⟩
        case measure => simp [intOf]; omega
      · obtain rfl : k = n := by omega
        have Hor := Lib.hid hor
        clear hor
        go_wp2_with fail
        go_ret2
        exact ⟨_, X, rfl, Hor.out, hbel⟩

end Go.Proofs.Ytejmlhhblckddaa
