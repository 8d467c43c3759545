/- Stairs: the model and the program. -/
import Derived.Test.YtoaobdeigangfaaRn
namespace Go.Proofs.Ytoaobdeigangfaa
open Go.ChangeShapes Go.WideShapes Go.ChangeAt Go.RowKit
set_option linter.unusedVariables false


/-- The first grouping of stairs, of so many groups. -/
def stA (g : Nat) : List Int := (List.range g).flatMap fun i => List.replicate (i + 1) (i : Int)

/-- How far each wire is from the last one of its group. -/
def stB (g : Nat) : List Int := (List.range g).flatMap fun i => (List.range (i + 1)).map fun (j : Nat) => (i : Int) - (j : Int)

theorem stA_succ (g : Nat) : stA (g + 1) = stA g ++ List.replicate (g + 1) (g : Int) := by simp [stA, List.range_succ]

theorem stB_succ (g : Nat) : stB (g + 1) = stB g ++ (List.range (g + 1)).map fun (j : Nat) => (g : Int) - (j : Int) := by
  simp [stB, List.range_succ]

/-- Stairs, and j wires of the next group. -/
def tA (g j : Nat) : List Int := stA g ++ List.replicate j (g : Int)

def tB (g j : Nat) : List Int := stB g ++ (List.range j).map fun (q : Nat) => (g : Int) - (q : Int)

theorem tA_len (g j : Nat) : (tA g j).length = (stA g).length + j := by simp [tA]
theorem tB_len (g j : Nat) : (tB g j).length = (stB g).length + j := by simp [tB]
theorem tA_succ (g j : Nat) : tA g j ++ [(g : Int)] = tA g (j + 1) := by unfold tA; rw [List.append_assoc, List.replicate_succ']
theorem tB_succ (g j : Nat) : tB g j ++ [(g : Int) - (j : Int)] = tB g (j + 1) := by unfold tB; rw [List.range_succ, List.map_append, List.append_assoc]; rfl
theorem tA_zero (g : Nat) : tA g 0 = stA g := by simp [tA]
theorem tB_zero (g : Nat) : tB g 0 = stB g := by simp [tB]
theorem tA_all (g : Nat) : tA g (g + 1) = stA (g + 1) := (stA_succ g).symm
theorem tB_all (g : Nat) : tB g (g + 1) = stB (g + 1) := (stB_succ g).symm

theorem stA_le : ∀ g : Fin 5, (stA g.val).length ≤ 10 := by decide +kernel
theorem stB_le : ∀ g : Fin 5, (stB g.val).length = (stA g.val).length := by decide +kernel

def stOK (s : Int) : Bool := decide (1 ≤ s ∧ s ≤ 4)

def stRA (s : Int) : List Int := if stOK s then stA s.toNat else []

def stRB (s : Int) : List Int := if stOK s then anL (stB s.toNat) else []

theorem stRA_len (s : Int) : (stRA s).length ≤ 1000 := by
  unfold stRA
  split
  · rename_i h
    simp only [stOK, decide_eq_true_eq] at h
    have := stA_le ⟨s.toNat, by omega⟩
    simp only at this; omega
  · simp

theorem stRB_len (s : Int) : (stRB s).length ≤ 1000 := by
  unfold stRB
  split
  · rename_i h
    simp only [stOK, decide_eq_true_eq] at h
    have h1 := stA_le ⟨s.toNat, by omega⟩
    have h2 := stB_le ⟨s.toNat, by omega⟩
    simp only at h1 h2
    rw [anL_length]; omega
  · simp

set_option maxHeartbeats 1600000 in
set_option maxRecDepth 20000 in
theorem specSt_yes (w : World) (s : Nat) (h1 : 1 ≤ s) (h4 : s ≤ 4) :
    Calls Try.prog 32 #[.int .i64 (s : Int)] w fun e w' => ∃ v u, e = .returned (.tuple #[v, u, .bool true]) ∧ w'.ownsRow w.heap.size 3 1 v (stA s).length (ns (stA s)) ∧ w'.ownsRow w.heap.size 3 1 u (anL (stB s)).length (ns (anL (stB s))) ∧ Ap v u ∧ Below w.heap.size w w' := by
  obtain ⟨i3, hi3, hz30, hz31, hz32⟩ := info_parts info3
  have Hd : Hid (decide (1 ≤ (s : Int) ∧ (s : Int) ≤ 4) = true) := by show _ = _; simp only [decide_eq_true_eq]; omega
  have hs1 : ¬ (s : Int) < 1 := by omega
  have hs4 : ¬ (s : Int) > 4 := by omega
  go_enter Try.func32, Try.ntmps32
  go_wp2_with fail
  refine (l1In_any (s : Int) 1 4 w).mono ?_
  rintro e w' ⟨rfl, rfl⟩
  rw [Hd.out]
  go_wp2_with fail
  go_loopw [5, 6, 7] (fun v u i wr => ∃ (g m : Nat), g ≤ s ∧ i = .int .i64 g ∧ Hid (m = (stA g).length) ∧ wr.ownsRow w.heap.size 3 1 v m (ns (stA g)) ∧ wr.ownsRow w.heap.size 3 1 u m (ns (stB g)) ∧ Ap v u ∧ Below w.heap.size w wr) (fun _ _ i _ => s - (intOf i).toNat)
  case atStart => exact ⟨0, 0, Nat.zero_le _, rfl, rfl, World.ownsRow_nil _ _ _ _, World.ownsRow_nil _ _ _ _, Ap.nil _, Below.refl _ _⟩
  case round =>
    obtain ⟨g, m0, hg, rfl, HM0, hoa, hob, hap, hbel⟩ := hrel
    by_cases hlt : g < s
    · have Hoa := Lib.hid hoa
      have Hob := Lib.hid hob
      have Hap := Lib.hid hap
      have Hbel := Lib.hid hbel
      have hm10 : m0 ≤ 10 := by rw [HM0.out]; exact stA_le ⟨g, by omega⟩
      clear hoa hob hap hbel
      go_wp2_with fail
      go_loopw [5, 6, 8] (fun v u i wr => ∃ (j : Nat), j ≤ g + 1 ∧ i = .int .i64 ((g : Int) - (j : Int)) ∧ wr.ownsRow w.heap.size 3 1 v (m0 + j) (ns (tA g j)) ∧ wr.ownsRow w.heap.size 3 1 u (m0 + j) (ns (tB g j)) ∧ Ap v u ∧ Below w.heap.size w wr) (fun _ _ i _ => (intOf i + 1).toNat)
      case atStart => exact ⟨0, Nat.zero_le _, by simp, by rw [tA_zero]; exact Hoa.out, by rw [tB_zero]; exact Hob.out, Hap.out, Hbel.out⟩
      case round =>
        obtain ⟨j, hj, rfl, hoa, hob, hap, hbel⟩ := hrel
        by_cases hjl : j < g + 1
        · have hge : (0 : Int) ≤ (g : Int) - (j : Int) := by omega
          have hba : (stB g).length = m0 := by rw [HM0.out]; exact stB_le ⟨g, by omega⟩
          obtain ⟨aoA, capA, rfl, _⟩ := nums_shape hoa (by rw [tA_len, ← HM0.out])
          obtain ⟨aoB, capB, rfl, _⟩ := nums_shape hob (by rw [tB_len, hba])
          have hea := tA_succ g j
          have heb := tB_succ g j
          have Hea := Lib.hid hea
          have Heb := Lib.hid heb
          have hsz := hbel.size
          have bd : Below wr.heap.size wr (wr.alloc (.cells #[.int .i64 (g : Int)] 3)) := (Below.refl wr.heap.size wr).alloc (Nat.le_refl _) _
          have HrowA := Lib.hid (own_later hoa bd)
          have HrowB := Lib.hid (own_later hob bd)
          have Hap := Lib.hid hap
          have Hb7 := Lib.hid (hbel.trans (bd.mono hsz))
          have hszW : (wr.alloc (.cells #[.int .i64 (g : Int)] 3)).heap.size = wr.heap.size + 1 := by simp
          have hck : (wr.alloc (.cells #[.int .i64 (g : Int)] 3)).cell? ⟨wr.heap.size, 0, none⟩ = some (.int .i64 (g : Int)) := by rw [cell_of_row _ _ _ _ _ _ (heap_alloc_new wr _)]; rfl
          have Hck := Lib.hid hck
          clear hoa hob hap hbel bd hck hea heb hba
          go_wp2_with (at_builtin; refine push_num _ rfl _ _ 22 rfl w.heap.size i3 Try.underlying22 hi3 hz30 hz31 hz32 (.slice aoA (m0 + j) capA) _ (m0 + j) rfl HrowA.out (by omega) (g : Int) 1 wr.heap.size rfl Hck.out (by rw [hszW]; omega) ?_)
          intro g9 cap9 w9 own9 hgr9 hat9
          rw [Hea.out] at own9
          have hs9 : w.heap.size ≤ w9.heap.size := Nat.le_trans (by rw [hszW]; omega) hgr9.size
          have hob9 := Hap.out.kept HrowB.out hgr9
          have hap9 := Hap.out.grow (m := m0 + j + 1) (c := cap9) HrowB.out hat9 (by rw [hszW]; exact Nat.le_refl _)
          have hb9 := Hb7.out.grown hgr9 (by rw [hszW]; omega) (fun bb hb => (HrowA.out.lt bb hb).1)
          have bd9 : Below w9.heap.size w9 (w9.alloc (.cells #[.int .i64 ((g : Int) - (j : Int))] 3)) := (Below.refl w9.heap.size w9).alloc (Nat.le_refl _) _
          have HA9 := Lib.hid (own_later own9 bd9)
          have HB9 := Lib.hid (own_later hob9 bd9)
          have Hap9 := Lib.hid hap9
          have Hb9 := Lib.hid (hb9.trans (bd9.mono hs9))
          have hszW9 : (w9.alloc (.cells #[.int .i64 ((g : Int) - (j : Int))] 3)).heap.size = w9.heap.size + 1 := by simp
          have hck9 : (w9.alloc (.cells #[.int .i64 ((g : Int) - (j : Int))] 3)).cell? ⟨w9.heap.size, 0, none⟩ = some (.int .i64 ((g : Int) - (j : Int))) := by rw [cell_of_row _ _ _ _ _ _ (heap_alloc_new w9 _)]; rfl
          have Hck9 := Lib.hid hck9
          clear own9 hgr9 hat9 hob9 hap9 hb9 bd9 hck9 HrowA HrowB Hap Hb7 hszW Hck
          go_wp2_with (at_builtin; refine push_num _ rfl _ _ 22 rfl w.heap.size i3 Try.underlying22 hi3 hz30 hz31 hz32 (.slice aoB (m0 + j) capB) _ (m0 + j) rfl HB9.out (by omega) ((g : Int) - (j : Int)) 1 w9.heap.size rfl Hck9.out (by rw [hszW9]; omega) ?_)
          intro g8 cap8 w8 own8 hgr8 hat8
          rw [Heb.out] at own8
          have HA8 := Lib.hid (Hap9.out.symm.kept HA9.out hgr8)
          have Hap8 := Lib.hid (Hap9.out.symm.grow (m := m0 + j + 1) (c := cap8) HA9.out hat8 (by rw [hszW9]; exact Nat.le_refl _)).symm
          have Hb8 := Lib.hid (Hb9.out.grown hgr8 (by rw [hszW9]; omega) (fun bb hb => (HB9.out.lt bb hb).1))
          have HB8 := Lib.hid own8
          clear own8 hgr8 hat8 HA9 HB9 Hap9 Hb9 Hck9
          go_wp2_with fail
          go_roundw
          case rel => exact ⟨j + 1, by omega, by go_num, HA8.out, HB8.out, Hap8.out, Hb8.out⟩
          case measure => simp [intOf]; omega
        · obtain rfl : j = g + 1 := by omega
          have hge : ¬ (0 : Int) ≤ (g : Int) - ((g + 1 : Nat) : Int) := by omega
          rw [tA_all] at hoa
          rw [tB_all] at hob
          have HM1 : Hid (m0 + (g + 1) = (stA (g + 1)).length) := by show _ = _; rw [stA_succ, List.length_append, List.length_replicate, ← HM0.out]
          have Hoa := Lib.hid hoa
          have Hob := Lib.hid hob
          have Hap := Lib.hid hap
          clear hoa hob hap
          go_wp2_with fail
          go_roundw
          case rel => exact ⟨g + 1, m0 + (g + 1), by omega, by go_num, HM1, Hoa.out, Hob.out, Hap.out, hbel⟩
          case measure => simp [intOf]; omega
    · obtain rfl : g = s := by omega
      have hba : m0 = (stB g).length := by rw [HM0.out]; exact (stB_le ⟨g, by omega⟩).symm
      have Hba := Lib.hid hba
      have hm10 : m0 ≤ 10 := by rw [HM0.out]; exact stA_le ⟨g, by omega⟩
      have hm0 : 0 < m0 := by
        rw [HM0.out]
        obtain ⟨q, rfl⟩ : ∃ q, g = q + 1 := ⟨g - 1, by omega⟩
        rw [stA_succ]; simp; omega
      obtain ⟨aoA, capA, rfl, _⟩ := nums_shape hoa HM0.out
      obtain ⟨aoB, capB, rfl, hnb⟩ := nums_shape hob hba
      have Hnb := Lib.hid hnb
      have Hoa := Lib.hid hoa
      have hsz := hbel.size
      have Hbel := Lib.hid hbel
      clear hoa hob hnb hap hbel hba
      go_wp2_with fail
      refine (cbAnew_any aoB capB (stB g) m0 wr Hba (by omega) hm0 Hnb.out).mono ?_
      rintro e w3 ⟨v, rfl, hO, hb3⟩
      have HO := Lib.hid (own_base hsz hO)
      have Hoa3 := Lib.hid (own_later Hoa.out hb3)
      have Hb3 := Lib.hid (Hbel.out.trans (hb3.mono hsz))
      have Hap3 : Hid (Ap (.slice aoA m0 capA) v) := fun b hb hv => by
        have h1 := (Hoa.out.lt b hb).2
        have h2 := (hO.lt b hv).1
        omega
      clear hO hb3 Hoa
      go_wp2_with fail
      go_ret3
      exact ⟨_, v, rfl, by rw [← HM0.out]; exact Hoa3.out, by rw [anL_length, ← Hba.out]; exact HO.out, Hap3.out, Hb3.out⟩

theorem specSt_no (w : World) (s : Int) (h : ¬ (1 ≤ s ∧ s ≤ 4)) :
    Calls Try.prog 32 #[.int .i64 s] w fun e w' => e = .returned (.tuple #[.slice none 0 0, .slice none 0 0, .bool false]) ∧ w = w' := by
  have Hd : Hid (decide (1 ≤ s ∧ s ≤ 4) = false) := by show _ = _; simpa only [decide_eq_false_iff_not] using h
  go_enter Try.func32, Try.ntmps32
  go_wp2_with fail
  refine (l1In_any s 1 4 w).mono ?_
  rintro e w' ⟨rfl, rfl⟩
  rw [Hd.out]
  go_wp2_with fail
  go_ret3
  exact ⟨rfl, rfl⟩

theorem specSt_any (w : World) (s : Int) :
    Calls Try.prog 32 #[.int .i64 s] w fun e w' => ∃ v u, e = .returned (.tuple #[v, u, .bool (stOK s)]) ∧ w'.ownsRow w.heap.size 3 1 v (stRA s).length (ns (stRA s)) ∧ w'.ownsRow w.heap.size 3 1 u (stRB s).length (ns (stRB s)) ∧ Ap v u ∧ Below w.heap.size w w' := by
  by_cases h : 1 ≤ s ∧ s ≤ 4
  · obtain ⟨q, rfl⟩ := Int.eq_ofNat_of_zero_le (show 0 ≤ s by omega)
    have hB : stOK (q : Int) = true := by simp only [stOK, decide_eq_true_eq]; exact h
    have hA : stRA (q : Int) = stA q := by simp [stRA, hB]
    have hA2 : stRB (q : Int) = anL (stB q) := by simp [stRB, hB]
    rw [hA, hA2, hB]
    exact specSt_yes w q (by omega) (by omega)
  · have hB : stOK s = false := by simp only [stOK, decide_eq_false_iff_not]; exact h
    have hA : stRA s = [] := by simp [stRA, hB]
    have hA2 : stRB s = [] := by simp [stRB, hB]
    rw [hA, hA2, hB]
    refine (specSt_no w s h).mono ?_
    rintro e w' ⟨rfl, rfl⟩
    exact ⟨_, _, rfl, World.ownsRow_nil _ _ _ _, World.ownsRow_nil _ _ _ _, Ap.nil _, Below.refl _ _⟩

set_option maxHeartbeats 1600000 in
set_option maxRecDepth 20000 in
theorem implSt_yes (w : World) (s : Nat) (h1 : 1 ≤ s) (h4 : s ≤ 4) :
    Calls Try.prog 33 #[.int .i64 (s : Int)] w fun e w' => ∃ v u, e = .returned (.tuple #[v, u, .bool true]) ∧ w'.ownsRow w.heap.size 3 1 v (stA s).length (ns (stA s)) ∧ w'.ownsRow w.heap.size 3 1 u (anL (stB s)).length (ns (anL (stB s))) ∧ Ap v u ∧ Below w.heap.size w w' := by
  obtain ⟨i3, hi3, hz30, hz31, hz32⟩ := info_parts info3
  have Hd : Hid (decide (1 ≤ (s : Int) ∧ (s : Int) ≤ 4) = true) := by show _ = _; simp only [decide_eq_true_eq]; omega
  have hs1 : ¬ (s : Int) < 1 := by omega
  have hs4 : ¬ (s : Int) > 4 := by omega
  go_enter Try.func33, Try.ntmps33
  go_wp2_with fail
  go_loopw [5, 6, 16] (fun v u i wr => ∃ (g m : Nat), g ≤ s ∧ i = .int .i64 g ∧ Hid (m = (stA g).length) ∧ wr.ownsRow w.heap.size 3 1 v m (ns (stA g)) ∧ wr.ownsRow w.heap.size 3 1 u m (ns (stB g)) ∧ Ap v u ∧ Below w.heap.size w wr) (fun _ _ i _ => s - (intOf i).toNat)
  case atStart => exact ⟨0, 0, Nat.zero_le _, rfl, rfl, World.ownsRow_nil _ _ _ _, World.ownsRow_nil _ _ _ _, Ap.nil _, Below.refl _ _⟩
  case round =>
    obtain ⟨g, m0, hg, rfl, HM0, hoa, hob, hap, hbel⟩ := hrel
    by_cases hlt : g < s
    · have Hoa := Lib.hid hoa
      have Hob := Lib.hid hob
      have Hap := Lib.hid hap
      have Hbel := Lib.hid hbel
      have hm10 : m0 ≤ 10 := by rw [HM0.out]; exact stA_le ⟨g, by omega⟩
      clear hoa hob hap hbel
      go_wp2_with fail
      go_loopw [5, 6, 8] (fun v u i wr => ∃ (j : Nat), j ≤ g + 1 ∧ i = .int .i64 ((g : Int) - (j : Int)) ∧ wr.ownsRow w.heap.size 3 1 v (m0 + j) (ns (tA g j)) ∧ wr.ownsRow w.heap.size 3 1 u (m0 + j) (ns (tB g j)) ∧ Ap v u ∧ Below w.heap.size w wr) (fun _ _ i _ => (intOf i + 1).toNat)
      case atStart => exact ⟨0, Nat.zero_le _, by simp, by rw [tA_zero]; exact Hoa.out, by rw [tB_zero]; exact Hob.out, Hap.out, Hbel.out⟩
      case round =>
        obtain ⟨j, hj, rfl, hoa, hob, hap, hbel⟩ := hrel
        by_cases hjl : j < g + 1
        · have hge : (0 : Int) ≤ (g : Int) - (j : Int) := by omega
          have hba : (stB g).length = m0 := by rw [HM0.out]; exact stB_le ⟨g, by omega⟩
          obtain ⟨aoA, capA, rfl, _⟩ := nums_shape hoa (by rw [tA_len, ← HM0.out])
          obtain ⟨aoB, capB, rfl, _⟩ := nums_shape hob (by rw [tB_len, hba])
          have hea := tA_succ g j
          have heb := tB_succ g j
          have Hea := Lib.hid hea
          have Heb := Lib.hid heb
          have hsz := hbel.size
          have bd : Below wr.heap.size wr (wr.alloc (.cells #[.int .i64 (g : Int)] 3)) := (Below.refl wr.heap.size wr).alloc (Nat.le_refl _) _
          have HrowA := Lib.hid (own_later hoa bd)
          have HrowB := Lib.hid (own_later hob bd)
          have Hap := Lib.hid hap
          have Hb7 := Lib.hid (hbel.trans (bd.mono hsz))
          have hszW : (wr.alloc (.cells #[.int .i64 (g : Int)] 3)).heap.size = wr.heap.size + 1 := by simp
          have hck : (wr.alloc (.cells #[.int .i64 (g : Int)] 3)).cell? ⟨wr.heap.size, 0, none⟩ = some (.int .i64 (g : Int)) := by rw [cell_of_row _ _ _ _ _ _ (heap_alloc_new wr _)]; rfl
          have Hck := Lib.hid hck
          clear hoa hob hap hbel bd hck hea heb hba
          go_wp2_with (at_builtin; refine push_num _ rfl _ _ 22 rfl w.heap.size i3 Try.underlying22 hi3 hz30 hz31 hz32 (.slice aoA (m0 + j) capA) _ (m0 + j) rfl HrowA.out (by omega) (g : Int) 1 wr.heap.size rfl Hck.out (by rw [hszW]; omega) ?_)
          intro g9 cap9 w9 own9 hgr9 hat9
          rw [Hea.out] at own9
          have hs9 : w.heap.size ≤ w9.heap.size := Nat.le_trans (by rw [hszW]; omega) hgr9.size
          have hob9 := Hap.out.kept HrowB.out hgr9
          have hap9 := Hap.out.grow (m := m0 + j + 1) (c := cap9) HrowB.out hat9 (by rw [hszW]; exact Nat.le_refl _)
          have hb9 := Hb7.out.grown hgr9 (by rw [hszW]; omega) (fun bb hb => (HrowA.out.lt bb hb).1)
          have bd9 : Below w9.heap.size w9 (w9.alloc (.cells #[.int .i64 ((g : Int) - (j : Int))] 3)) := (Below.refl w9.heap.size w9).alloc (Nat.le_refl _) _
          have HA9 := Lib.hid (own_later own9 bd9)
          have HB9 := Lib.hid (own_later hob9 bd9)
          have Hap9 := Lib.hid hap9
          have Hb9 := Lib.hid (hb9.trans (bd9.mono hs9))
          have hszW9 : (w9.alloc (.cells #[.int .i64 ((g : Int) - (j : Int))] 3)).heap.size = w9.heap.size + 1 := by simp
          have hck9 : (w9.alloc (.cells #[.int .i64 ((g : Int) - (j : Int))] 3)).cell? ⟨w9.heap.size, 0, none⟩ = some (.int .i64 ((g : Int) - (j : Int))) := by rw [cell_of_row _ _ _ _ _ _ (heap_alloc_new w9 _)]; rfl
          have Hck9 := Lib.hid hck9
          clear own9 hgr9 hat9 hob9 hap9 hb9 bd9 hck9 HrowA HrowB Hap Hb7 hszW Hck
          go_wp2_with (at_builtin; refine push_num _ rfl _ _ 22 rfl w.heap.size i3 Try.underlying22 hi3 hz30 hz31 hz32 (.slice aoB (m0 + j) capB) _ (m0 + j) rfl HB9.out (by omega) ((g : Int) - (j : Int)) 1 w9.heap.size rfl Hck9.out (by rw [hszW9]; omega) ?_)
          intro g8 cap8 w8 own8 hgr8 hat8
          rw [Heb.out] at own8
          have HA8 := Lib.hid (Hap9.out.symm.kept HA9.out hgr8)
          have Hap8 := Lib.hid (Hap9.out.symm.grow (m := m0 + j + 1) (c := cap8) HA9.out hat8 (by rw [hszW9]; exact Nat.le_refl _)).symm
          have Hb8 := Lib.hid (Hb9.out.grown hgr8 (by rw [hszW9]; omega) (fun bb hb => (HB9.out.lt bb hb).1))
          have HB8 := Lib.hid own8
          clear own8 hgr8 hat8 HA9 HB9 Hap9 Hb9 Hck9
          go_wp2_with fail
          go_roundw
          case rel => exact ⟨j + 1, by omega, by go_num, HA8.out, HB8.out, Hap8.out, Hb8.out⟩
          case measure => simp [intOf]; omega
        · obtain rfl : j = g + 1 := by omega
          have hge : ¬ (0 : Int) ≤ (g : Int) - ((g + 1 : Nat) : Int) := by omega
          rw [tA_all] at hoa
          rw [tB_all] at hob
          have HM1 : Hid (m0 + (g + 1) = (stA (g + 1)).length) := by show _ = _; rw [stA_succ, List.length_append, List.length_replicate, ← HM0.out]
          have Hoa := Lib.hid hoa
          have Hob := Lib.hid hob
          have Hap := Lib.hid hap
          clear hoa hob hap
          go_wp2_with fail
          go_roundw
          case rel => exact ⟨g + 1, m0 + (g + 1), by omega, by go_num, HM1, Hoa.out, Hob.out, Hap.out, hbel⟩
          case measure => simp [intOf]; omega
    · obtain rfl : g = s := by omega
      have hba : m0 = (stB g).length := by rw [HM0.out]; exact (stB_le ⟨g, by omega⟩).symm
      have Hba := Lib.hid hba
      have hm10 : m0 ≤ 10 := by rw [HM0.out]; exact stA_le ⟨g, by omega⟩
      have hm0 : 0 < m0 := by
        rw [HM0.out]
        obtain ⟨q, rfl⟩ : ∃ q, g = q + 1 := ⟨g - 1, by omega⟩
        rw [stA_succ]; simp; omega
      obtain ⟨aoA, capA, rfl, _⟩ := nums_shape hoa HM0.out
      obtain ⟨aoB, capB, rfl, hnb⟩ := nums_shape hob hba
      have Hnb := Lib.hid hnb
      have Hoa := Lib.hid hoa
      have hsz := hbel.size
      have Hbel := Lib.hid hbel
      clear hoa hob hnb hap hbel hba
      go_wp2_with fail
      refine (toldAnew_any aoB capB (stB g) m0 wr Hba (by omega) hm0 Hnb.out).mono ?_
      rintro e w3 ⟨v, rfl, hO, hb3⟩
      have HO := Lib.hid (own_base hsz hO)
      have Hoa3 := Lib.hid (own_later Hoa.out hb3)
      have Hb3 := Lib.hid (Hbel.out.trans (hb3.mono hsz))
      have Hap3 : Hid (Ap (.slice aoA m0 capA) v) := fun b hb hv => by
        have h1 := (Hoa.out.lt b hb).2
        have h2 := (hO.lt b hv).1
        omega
      clear hO hb3 Hoa
      go_wp2_with fail
      go_ret3
      exact ⟨_, v, rfl, by rw [← HM0.out]; exact Hoa3.out, by rw [anL_length, ← Hba.out]; exact HO.out, Hap3.out, Hb3.out⟩

theorem implSt_no (w : World) (s : Int) (h : ¬ (1 ≤ s ∧ s ≤ 4)) :
    Calls Try.prog 33 #[.int .i64 s] w fun e w' => e = .returned (.tuple #[.slice none 0 0, .slice none 0 0, .bool false]) ∧ w = w' := by
  by_cases h1 : s < 1
  · go_enter Try.func33, Try.ntmps33
    go_wp2_with fail
    go_ret3
    exact ⟨rfl, rfl⟩
  · have h2 : s > 4 := by omega
    go_enter Try.func33, Try.ntmps33
    go_wp2_with fail
    go_ret3
    exact ⟨rfl, rfl⟩

theorem implSt_any (w : World) (s : Int) :
    Calls Try.prog 33 #[.int .i64 s] w fun e w' => ∃ v u, e = .returned (.tuple #[v, u, .bool (stOK s)]) ∧ w'.ownsRow w.heap.size 3 1 v (stRA s).length (ns (stRA s)) ∧ w'.ownsRow w.heap.size 3 1 u (stRB s).length (ns (stRB s)) ∧ Ap v u ∧ Below w.heap.size w w' := by
  by_cases h : 1 ≤ s ∧ s ≤ 4
  · obtain ⟨q, rfl⟩ := Int.eq_ofNat_of_zero_le (show 0 ≤ s by omega)
    have hB : stOK (q : Int) = true := by simp only [stOK, decide_eq_true_eq]; exact h
    have hA : stRA (q : Int) = stA q := by simp [stRA, hB]
    have hA2 : stRB (q : Int) = anL (stB q) := by simp [stRB, hB]
    rw [hA, hA2, hB]
    exact implSt_yes w q (by omega) (by omega)
  · have hB : stOK s = false := by simp only [stOK, decide_eq_false_iff_not]; exact h
    have hA : stRA s = [] := by simp [stRA, hB]
    have hA2 : stRB s = [] := by simp [stRB, hB]
    rw [hA, hA2, hB]
    refine (implSt_no w s h).mono ?_
    rintro e w' ⟨rfl, rfl⟩
    exact ⟨_, _, rfl, World.ownsRow_nil _ _ _ _, World.ownsRow_nil _ _ _ _, Ap.nil _, Below.refl _ _⟩

end Go.Proofs.Ytoaobdeigangfaa
