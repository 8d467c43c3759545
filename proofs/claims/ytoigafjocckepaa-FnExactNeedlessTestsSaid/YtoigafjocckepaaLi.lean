/- Lists of wires in the program: one more, is it there, the end, told out. -/
import Derived.Test.YtoigafjocckepaaLi0
import Derived.Test.YtoigafjocckepaaRs0
import Derived.Deep.RegionWith
import Derived.Lib.Tables
namespace Go.Proofs.Ytoigafjocckepaa
open Go.ChangeShapes Go.WideShapes Go.ChangeAt Go.RowKit
set_option linter.unusedVariables false


theorem cell1_set {W : World} {g : Nat} {a : Value} {t : TypeId} (h : W.heap[g]? = some (.cells #[a] t (0, 0))) (v : Value) : (W.setCell ⟨g, 0, none⟩ v).heap[g]? = some (.cells #[v] t (0, 0)) :=
  heap_setCell_same W g 0 #[a] t v h
set_option maxRecDepth 20000 in
theorem with_any (n x : Nat) (hn : n < 1024) (hx : x < 10) (w : World) :
    Calls Try.prog 49 #[wv n, .int .i64 (x : Int)] w fun e w' => e = .returned (wv (n ||| 2 ^ x)) ∧ Below w.heap.size w w' := by
  have hor := bits_or16 n (2 ^ x) hn (pow_small x hx)
  obtain ⟨R, hR⟩ : ∃ R : Int, ((n ||| 2 ^ x : Nat) : Int) = R := ⟨_, rfl⟩
  have hB := fun W => bitOf_any x hx W
  obtain ⟨P, hP⟩ : ∃ P : Int, ((2 ^ x : Nat) : Int) = P := ⟨_, rfl⟩
  simp only [hP] at hB
  rw [hP, hR] at hor
  simp only [wv, hR]
  clear hR hP
  go_enter Try.func49, Try.ntmps49
  go_wp2_with fail
  obtain ⟨W, hWd⟩ : ∃ W, (w.alloc (Obj.cells #[Value.int IntKind.u16 n] 52)).alloc (Obj.cells #[Value.int IntKind.u16 0] 52) = W := ⟨_, rfl⟩
  have hb2 : Below w.heap.size w W := by rw [← hWd]; go_grown
  have c0 : W.cell? ⟨w.heap.size, 0, none⟩ = some (.int .u16 n) := by rw [← hWd]; simp
  have c1 : W.heap[w.heap.size + 1]? = some (.cells #[.int .u16 0] 52 (0, 0)) := by rw [← hWd]; exact heap_new (by simp)
  rw [hWd]
  have Hb := Lib.hid hb2
  have H1 := Lib.hid c1
  clear hWd hb2 c1
  have z0 : W.cell? ⟨w.heap.size + 1, 0, none⟩ = some (.int .u16 0) := by rw [cell_of_row _ _ _ _ _ _ H1.out]; rfl
  have z1 := frozen_of_row W (w.heap.size + 1) 0 _ _ H1.out
  have hh : (W.setCell ⟨w.heap.size + 1, 0, none⟩ (.int .u16 R)).drew.heap[w.heap.size + 1]? = some (.cells #[.int .u16 R] 52 (0, 0)) := cell1_set H1.out _
  have hbf : Below w.heap.size w (W.setCell ⟨w.heap.size + 1, 0, none⟩ (.int .u16 R)).drew := (Hb.out.setCell (p := ⟨w.heap.size + 1, 0, none⟩) (by show w.heap.size ≤ w.heap.size + 1; omega) _).drew
  have HH := Lib.hid hh
  have HBF := Lib.hid hbf
  clear hh hbf
  go_region_with (go_at_call 69; refine (hB _).mono ?_; rintro e w4 ⟨rfl, rfl⟩)
  all_goals (go_wp2_with fail)
  all_goals (refine bodyPost_ret (results_cell_row rfl _ _ (w.heap.size + 1) 52 _ (0, 0) _ rfl HH.out Try.underlying52 rfl (by kernel_rfl)) rfl ⟨rfl, HBF.out⟩)

set_option maxRecDepth 20000 in
theorem has_any (n x : Nat) (hn : n < 1024) (hx : x < 10) (w : World) :
    Calls Try.prog 58 #[wv n, .int .i64 (x : Int)] w fun e w' => e = .returned (.bool (n.testBit x)) ∧ Below w.heap.size w w' := by
  have hq := eqWL (n : Int) ((n ||| 2 ^ x : Nat) : Int)
  have hce := or_same n x
  obtain ⟨r, hr⟩ : ∃ r, n.testBit x = r := ⟨_, rfl⟩
  rw [hr] at hce ⊢
  rw [hce] at hq
  have hW := fun W => with_any n x hn hx W
  obtain ⟨C, hC⟩ : ∃ C : Int, ((n ||| 2 ^ x : Nat) : Int) = C := ⟨_, rfl⟩
  simp only [wv] at hW
  rw [hC] at hq
  simp only [hC] at hW
  clear hr hce hC
  go_enter Try.func58, Try.ntmps58
  go_wp2_with fail
  obtain ⟨W, hWd⟩ : ∃ W, w.alloc (Obj.cells #[Value.int IntKind.u16 n] 52) = W := ⟨_, rfl⟩
  have hb2 : Below w.heap.size w W := by rw [← hWd]; go_grown
  have c0 : W.cell? ⟨w.heap.size, 0, none⟩ = some (.int .u16 n) := by rw [← hWd]; simp
  rw [hWd]
  have Hb := Lib.hid hb2
  have H0 := Lib.hid c0
  clear hWd hb2
  go_region_held3 (fun w' => w'.cell? ⟨w.heap.size, 0, none⟩ = some (.int .u16 n) ∧ Hid (Below W.heap.size W w'))
    (first
      | exact ⟨H0.out, (Below.refl _ _).drew⟩
      | assumption
      | (go_split_ands
         exact ⟨cell_old hbn (by assumption), hb9⟩))
    (first
      | (go_at_call 49; refine (hW _).mono ?_; rintro e w3 ⟨rfl, hbn⟩; (have hb9 : Hid (Below W.heap.size W w3) := Lib.hid (by go_split_ands; exact Below.trans (Hid.out (by assumption)) (hbn.mono (Hid.out (by assumption : Hid (Below W.heap.size W _))).size))))
      | fail)
  rename_i hS
  have hb6 : Below w.heap.size w w3 := Hb.out.trans (hS.2.out.mono Hb.out.size)
  clear hS hb9
  go_wp2_with fail
  go_ret
  exact ⟨by first | rfl | simp, hb6⟩

set_option maxRecDepth 20000 in
theorem len16_any (n : Nat) (hn : n < 1024) (w : World) :
    Calls Try.prog 73 #[.int .u16 (n : Int)] w fun e w' => e = .returned (.int .i64 ((e16 n : Nat) : Int)) ∧ w = w' := by
  have hall := e16_all ⟨n, hn⟩
  by_cases h : n < 256
  · have h4 := hall.2.2.2
    have hm : n % 256 = n := by omega
    simp only [hm] at h4
    have he : ((e16 n : Nat) : Int) = Lib.len8 (n : Int) := by unfold e16; rw [if_pos h]; omega
    rw [he]
    have hd : decide ((n : Int) ≥ 256) = false := by simp; omega
    have hw8 : IntKind.u8.wrap (n : Int) = n := by rw [IntKind.wrap_u8]; omega
    have h0 : (0 : Int) ≤ n := by omega
    have h1 : (n : Int) ≤ 255 := by omega
    obtain ⟨c, hc⟩ : ∃ c, Lib.len8 (n : Int) = c := ⟨_, rfl⟩
    have hix : ∀ W : World, (Instr.index 9 (.string Lib.len8tab) (.int .u8 (n : Int))).run Try.prog W = .ok (.int .u8 c) W := fun W => by rw [← hc]; exact Lib.run_index_len8tab W 9 .u8 (n : Int) Try.underlying9 h0 h1
    rw [hc] at h4 ⊢
    have hw1 : IntKind.i64.wrap c = c := IntWalk.i64_in _ (by omega)
    have hw2 : IntKind.i64.wrap (0 + c) = c := by rw [Int.zero_add]; exact hw1
    clear hall he hc hm
    go_enter Try.func73, Try.ntmps73
    go_wp2_with fail
    go_ret
    exact ⟨ret_int (by first | rfl | (simp [hw1]; done) | (unfold wrap64; omega)), rfl⟩
  · have hn4 : n / 256 < 4 := by omega
    have hv : ∀ k : Fin 4, 0 ≤ Lib.len8 ((k.val : Nat) : Int) ∧ Lib.len8 ((k.val : Nat) : Int) ≤ 2 := by decide +kernel
    have h4 := hv ⟨n / 256, hn4⟩
    simp only at h4
    have he : ((e16 n : Nat) : Int) = 8 + Lib.len8 ((n / 256 : Nat) : Int) := by unfold e16; rw [if_neg h]; omega
    rw [he]
    have hd : decide ((n : Int) ≥ 256) = true := by simp only [decide_eq_true_eq]; omega
    obtain ⟨q, hq⟩ : ∃ q, n / 256 = q := ⟨_, rfl⟩
    rw [hq] at h4 hn4 ⊢
    have hsh : (n : Int) / 2 ^ 8 = (q : Int) := by omega
    have hsh2 : (n : Int) / 256 = (q : Int) := by omega
    have hw8 : IntKind.u8.wrap (q : Int) = q := by rw [IntKind.wrap_u8]; omega
    have h0 : (0 : Int) ≤ q := by omega
    have h1 : (q : Int) ≤ 255 := by omega
    obtain ⟨c, hc⟩ : ∃ c, Lib.len8 (q : Int) = c := ⟨_, rfl⟩
    have hix : ∀ W : World, (Instr.index 9 (.string Lib.len8tab) (.int .u8 (q : Int))).run Try.prog W = .ok (.int .u8 c) W := fun W => by rw [← hc]; exact Lib.run_index_len8tab W 9 .u8 (q : Int) Try.underlying9 h0 h1
    rw [hc] at h4 ⊢
    have hw1 : IntKind.i64.wrap c = c := IntWalk.i64_in _ (by omega)
    have hw2 : IntKind.i64.wrap (8 + c) = 8 + c := IntWalk.i64_in _ (by omega)
    clear hall he hc hq hv
    go_enter Try.func73, Try.ntmps73
    go_wp2_with fail
    go_ret
    exact ⟨ret_int (by first | rfl | (simp [hw1, hw2]; done) | (unfold wrap64; omega)), rfl⟩

theorem end_any (n : Nat) (hn : n < 1024) (w : World) :
    Calls Try.prog 57 #[wv n] w fun e w' => e = .returned (.int .i64 ((e16 n : Nat) : Int)) ∧ Below w.heap.size w w' := by
  go_enter Try.func57, Try.ntmps57
  go_wp2_with fail
  refine (len16_any n hn _).mono ?_
  rintro e w' ⟨rfl, rfl⟩
  go_wp2_with fail
  go_ret
  exact ⟨rfl, by go_grown⟩

set_option maxHeartbeats 800000 in
set_option maxRecDepth 20000 in
theorem list_any (n : Nat) (hn : n < 1024) (w : World) :
    Calls Try.prog 37 #[wv n] w fun e w' => ∃ v, e = .returned v ∧ w'.ownsRow w.heap.size 3 1 v (lsT n 10).length (ns (lsT n 10)) ∧ Below w.heap.size w w' := by
  obtain ⟨i3, hi3, hz30, hz31, hz32⟩ := info_parts info3
  have he10 := e16_le hn
  have Hall := Lib.hid (ls_all hn)
  obtain ⟨E, hE⟩ : ∃ E, e16 n = E := ⟨_, rfl⟩
  rw [hE] at he10 Hall
  have hEn := fun W => end_any n hn W
  simp only [hE, wv] at hEn
  rw [← Hall.out]
  clear hE
  go_enter Try.func37, Try.ntmps37
  go_wp2_with fail
  refine (hEn _).mono ?_
  rintro e w1 ⟨rfl, hb1⟩
  have hba : Below w.heap.size w (w.alloc (Obj.cells #[Value.int IntKind.u16 n] 52)) := by go_grown
  have hsa : (w.alloc (Obj.cells #[Value.int IntKind.u16 n] 52)).heap.size = w.heap.size + 1 := by simp
  have c0 : w1.cell? ⟨w.heap.size, 0, none⟩ = some (.int .u16 n) := cell_old hb1 (by simp)
  have Hb1 := Lib.hid (hba.trans (hb1.mono (by rw [hsa]; omega)))
  have hs1 : w.heap.size + 1 ≤ w1.heap.size := by have := hb1.size; rw [hsa] at this; exact this
  have HC0 := Lib.hid c0
  clear hb1 hba hsa c0 hEn
  go_wp2_with fail
  go_loopw [3, 7] (fun v i wr => ∃ k : Nat, k ≤ E ∧ i = .int .i64 k ∧ wr.ownsRow (w.heap.size + 1) 3 1 v (lsT n k).length (ns (lsT n k)) ∧ wr.cell? ⟨w.heap.size, 0, none⟩ = some (.int .u16 n) ∧ Below w.heap.size w wr ∧ w.heap.size + 1 ≤ wr.heap.size) (fun _ i _ => E - (intOf i).toNat)
  case atStart => exact ⟨0, Nat.zero_le _, rfl, World.ownsRow_nil _ _ _ _, HC0.out, Hb1.out, hs1⟩
  case round =>
    obtain ⟨k, hk, rfl, hor, hcb, hbel, hsz⟩ := hrel
    by_cases hlt : k < E
    · have hH := fun W => has_any n k hn (by omega) W
      simp only [wv] at hH
      have hki : (k : Int) < E := by omega
      have Hor := Lib.hid hor
      have Hbel := Lib.hid hbel
      have Hcb := Lib.hid hcb
      have hszb := hbel.size
      have hlen := lsT_len n k
      cases hb : n.testBit k
      · have Hs := Lib.hid (lsT_no hb)
        simp only [hb] at hH
        clear hor hbel hb
        go_wp2_with fail
        refine (hH _).mono ?_
        rintro e w3 ⟨rfl, hb3⟩
        have Ho3 := Lib.hid (own_later Hor.out hb3)
        have Hc3 := Lib.hid (cell_old hb3 Hcb.out)
        have Hb3 := Lib.hid (Hbel.out.trans (hb3.mono hszb))
        have hs3 : w.heap.size + 1 ≤ w3.heap.size := Nat.le_trans hsz hb3.size
        clear hb3 hcb hH
        go_wp2_with fail
        go_roundw
        case rel => exact ⟨k + 1, by omega, by go_num, by rw [Hs.out]; exact Ho3.out, Hc3.out, Hb3.out, hs3⟩
        case measure => simp [intOf]; omega
      · have Hs := Lib.hid (lsT_yes hb)
        simp only [hb] at hH
        obtain ⟨m, hm⟩ : ∃ m, (lsT n k).length = m := ⟨_, rfl⟩
        rw [hm] at Hor hlen
        have Hm := Lib.hid hm
        clear hor hbel hb hm
        go_wp2_with fail
        refine (hH _).mono ?_
        rintro e w3 ⟨rfl, hb3⟩
        have Hc3 := Lib.hid (cell_old hb3 Hcb.out)
        have Hb3 := Lib.hid (Hbel.out.trans (hb3.mono hszb))
        have hs3 : w.heap.size + 1 ≤ w3.heap.size := Nat.le_trans hsz hb3.size
        have bd : Below w3.heap.size w3 (w3.alloc (.cells #[.int .i64 (k : Int)] 3)) := (Below.refl w3.heap.size w3).alloc (Nat.le_refl _) _
        have Hrow7 := Lib.hid (own_later (own_later Hor.out hb3) bd)
        have Hb7 := Lib.hid (Hb3.out.trans (bd.mono (by omega)))
        have Hc7 := Lib.hid (cell_old bd Hc3.out)
        have hszW : (w3.alloc (.cells #[.int .i64 (k : Int)] 3)).heap.size = w3.heap.size + 1 := by simp
        have hck : (w3.alloc (.cells #[.int .i64 (k : Int)] 3)).cell? ⟨w3.heap.size, 0, none⟩ = some (.int .i64 (k : Int)) := by rw [cell_of_row _ _ _ _ _ _ (heap_alloc_new w3 _)]; rfl
        have Hck := Lib.hid hck
        clear hb3 bd hck hcb hH
        go_wp2_with (at_builtin; refine push_num _ rfl _ _ 36 rfl (w.heap.size + 1) i3 Try.underlying36 hi3 hz30 hz31 hz32 _ (lsT n k) m rfl Hrow7.out (by omega) (k : Int) 1 w3.heap.size rfl Hck.out (by rw [hszW]; omega) ?_)
        intro g9 c9 w9 own9 hgr9 hat9
        have Ho9 : Hid (w9.ownsRow (w.heap.size + 1) 3 1 (.slice (some ⟨g9, 0, none⟩) (m + 1) c9) (lsT n (k + 1)).length (ns (lsT n (k + 1)))) := by
          show World.ownsRow _ _ _ _ _ _ _
          rw [Hs.out, List.length_append, Hm.out]; exact own9
        have Hb9 := Lib.hid (Hb7.out.grown hgr9 (by rw [hszW]; omega) (fun bb hb => by have := (Hrow7.out.lt bb hb).1; omega))
        have Hc9 : Hid (w9.cell? ⟨w.heap.size, 0, none⟩ = some (.int .u16 n)) := (World.cell?_of_block (a := ⟨w.heap.size, 0, none⟩) (hgr9.block w.heap.size (by rw [hszW]; omega) (fun h => by have := (Hrow7.out.lt _ h.symm).1; omega))).trans Hc7.out
        have hs9 : w.heap.size + 1 ≤ w9.heap.size := by have := hgr9.size; omega
        clear own9 hgr9 hat9 Hb7
        go_wp2_with fail
        go_roundw
        case rel => exact ⟨k + 1, by omega, by go_num, Ho9.out, Hc9.out, Hb9.out, hs9⟩
        case measure => simp [intOf]; omega
    · obtain rfl : k = E := by omega
      have Hor := Lib.hid (own_base (Nat.le_succ w.heap.size) hor)
      clear hor
      go_wp2_with fail
      go_ret
      exact ⟨_, rfl, Hor.out, hbel⟩

end Go.Proofs.Ytoigafjocckepaa
