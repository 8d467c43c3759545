/- What all casts agree in. -/
import Derived.Test.YtaangjidkkpogaaFl
namespace Go.Proofs.Ytaangjidkkpogaa
open Go.ChangeShapes Go.WideShapes Go.ChangeAt Go.RowKit
set_option linter.unusedVariables false


/-- In all (1), in none (-1), or in some. -/
def agN (q n : Nat) : Int := if q = n then 1 else if q = 0 then -1 else 0
def agB (L : List (List Bool)) (p : List Bool → Bool) : Int := agN (L.countP p) L.length
theorem cnt_take (L : List (List Bool)) (p : List Bool → Bool) (k : Nat) (h : k < L.length) : (L.take (k + 1)).countP p = (L.take k).countP p + if p L[k] then 1 else 0 := by
  rw [List.take_succ_eq_append_getElem h, List.countP_append]
  congr 1
  cases hp : p L[k] <;> simp [hp]

set_option maxRecDepth 20000 in
theorem agI_any (w : World) (g cap M : Nat) (L : List (List Bool)) (HM : Hid (M = L.length)) (hM : M ≤ 256) (hcap : M ≤ cap) (hM1 : 1 ≤ M) (HC : Hid (∀ j, (hj : j < L.length) → w.cell? ⟨g, j, none⟩ = some (.string (cbs L[j])))) (x : Int) (p : List Bool → Bool)
    (HP : Hid (∀ c ∈ L, ∀ w : World, Calls Try.prog 52 #[.string (cbs c), .int .i64 x] w fun e w' => e = .returned (.bool (p c)) ∧ Below w.heap.size w w')) :
    Calls Try.prog 51 #[.slice (some ⟨g, 0, none⟩) M cap, .func (.func 52) #[] #[], .int .i64 x] w fun e w' => e = .returned (.int .i64 (agB L p)) ∧ Below w.heap.size w w' := by
  have hb : g < w.heap.size := World.block_lt_of_cell? w _ (HC.out 0 (by rw [← HM.out]; omega))
  have e57 : ∀ args w, (callFunc 52 args).run Try.prog w = .ok (.enter 52 args) w := enters_of Try.func52 (by kernel_rfl) rfl
  obtain ⟨r, hr⟩ : ∃ r, agB L p = r := ⟨_, rfl⟩
  rw [hr]
  have HR := Lib.hid hr
  obtain ⟨H, hH⟩ : ∃ H, w.heap.size = H := ⟨_, rfl⟩
  have HH := Lib.hid hH
  
  rw [hH] at hb ⊢
  clear hr hH
  go_enter Try.func51, Try.ntmps51
  go_wp2_with fail
  go_loopw [7, 12] (fun v i wr => ∃ k q : Nat, k ≤ M ∧ i = .int .i64 k ∧ Hid (q = (L.take k).countP p) ∧ v = .int .i64 (q : Int) ∧ Below H w wr ) (fun _ i _ => M - (intOf i).toNat)
  case atStart => exact ⟨0, 0, Nat.zero_le _, rfl, Lib.hid rfl, rfl, by rw [← HH.out]; exact Below.refl _ _⟩
  case round =>
    obtain ⟨k, q, hk, rfl, HQ, rfl, hb3 ⟩ := hrel
    have hqk : q ≤ k := by rw [HQ.out]; refine Nat.le_trans List.countP_le_length ?_; simp; omega
    by_cases hlt : k < M
    · have hkl : k < L.length := by rw [← HM.out]; exact hlt
      have hc := (hb3.cell (p := ⟨g, k, none⟩) hb).trans (HC.out k hkl)
      have HV := Lib.hid (HP.out L[k] (List.getElem_mem hkl))
      have hT := cnt_take L p k hkl
      rw [← HQ.out] at hT
      generalize cbs L[k] = s at hc HV
      have hsz : H ≤ wr.heap.size := by have := hb3.size; have := HH.out; omega
      have Hb3 := Lib.hid hb3
      clear hb3
      cases hp : p L[k]
      · rw [hp] at HV hT
        have HT : Hid (q = (L.take (k + 1)).countP p) := Lib.hid (by rw [hT]; rfl)
        clear hT hp
        go_wp2_with (go_at_fn 52; refine (HV.out _).mono ?_; rintro e w4 ⟨rfl, hb4⟩)
        have Hb4 := Lib.hid (Hb3.out.trans (hb4.mono hsz))
        
        clear hb4
        go_wp2_with fail
        go_roundw
        case rel => exact ⟨k + 1, q, by omega, by go_num, HT, rfl, Hb4.out ⟩
        case measure => simp [intOf]; omega
      · rw [hp] at HV hT
        have HT : Hid (q + 1 = (L.take (k + 1)).countP p) := Lib.hid (by rw [hT]; rfl)
        clear hT hp
        go_wp2_with (go_at_fn 52; refine (HV.out _).mono ?_; rintro e w4 ⟨rfl, hb4⟩)
        have Hb4 := Lib.hid (Hb3.out.trans (hb4.mono hsz))
        
        clear hb4
        go_wp2_with fail
        go_roundw
        case rel => exact ⟨k + 1, q + 1, by omega, by go_num, HT, by go_num, Hb4.out ⟩
        case measure => simp [intOf]; omega
    · have hkM : k = M := by omega
      have HE : Hid (r = agN q M) := Lib.hid (by rw [← HR.out, HQ.out, hkM, HM.out, List.take_of_length_le (Nat.le_refl _)]; rfl)
      clear HQ 
      by_cases h1 : q = M
      · have HE2 : Hid (r = 1) := Lib.hid (by rw [HE.out, agN, if_pos h1])
        have hq1 : ((q : Int) == (M : Int)) = true := by simp; omega
        go_wp2_with fail
        go_ret
        exact ⟨ret_int HE2.out.symm, hb3⟩
      · have hq1 : ((q : Int) == (M : Int)) = false := by simp; omega
        by_cases h0 : q = 0
        · have HE2 : Hid (r = -1) := Lib.hid (by rw [HE.out, agN, if_neg h1, if_pos h0])
          have hq0 : ((q : Int) == 0) = true := by simp; omega
          go_wp2_with fail
          go_ret
          exact ⟨ret_int HE2.out.symm, hb3⟩
        · have HE2 : Hid (r = 0) := Lib.hid (by rw [HE.out, agN, if_neg h1, if_neg h0])
          have hq0 : ((q : Int) == 0) = false := by simp; omega
          go_wp2_with fail
          go_ret
          exact ⟨ret_int HE2.out.symm, hb3⟩

set_option maxRecDepth 20000 in
theorem agC_any (w : World) (g cap M : Nat) (L : List (List Bool)) (HM : Hid (M = L.length)) (hM : M ≤ 256) (hcap : M ≤ cap) (hM1 : 1 ≤ M) (HC : Hid (∀ j, (hj : j < L.length) → w.cell? ⟨g, j, none⟩ = some (.string (cbs L[j])))) (x y : Int) (h : Bool) (p : List Bool → Bool)
    (HP : Hid (∀ c ∈ L, ∀ w : World, Calls Try.prog 65 #[.string (cbs c), .agg #[.int .i64 x, .int .i64 y, .bool h]] w fun e w' => e = .returned (.bool (p c)) ∧ Below w.heap.size w w')) :
    Calls Try.prog 64 #[.slice (some ⟨g, 0, none⟩) M cap, .func (.func 65) #[] #[], .agg #[.int .i64 x, .int .i64 y, .bool h]] w fun e w' => e = .returned (.int .i64 (agB L p)) ∧ Below w.heap.size w w' := by
  have hb : g < w.heap.size := World.block_lt_of_cell? w _ (HC.out 0 (by rw [← HM.out]; omega))
  have e57 : ∀ args w, (callFunc 65 args).run Try.prog w = .ok (.enter 65 args) w := enters_of Try.func65 (by kernel_rfl) rfl
  obtain ⟨r, hr⟩ : ∃ r, agB L p = r := ⟨_, rfl⟩
  rw [hr]
  have HR := Lib.hid hr
  obtain ⟨H, hH⟩ : ∃ H, w.heap.size = H := ⟨_, rfl⟩
  have HH := Lib.hid hH
  have HB0 : Hid (Below H w (w.alloc (.cells #[.int .i64 x, .int .i64 y, .bool h] 47))) := Lib.hid (by rw [← hH]; exact (Below.refl _ _).alloc (Nat.le_refl _) _)
  have HB1 : Hid ((w.alloc (.cells #[.int .i64 x, .int .i64 y, .bool h] 47)).heap[w.heap.size]? = some (.cells #[.int .i64 x, .int .i64 y, .bool h] 47 (0, 0))) := Lib.hid (heap_alloc_new w _)
  rw [hH] at hb ⊢
  clear hr hH
  go_enter Try.func64, Try.ntmps64
  go_wp2_with fail
  go_loopw [7, 12] (fun v i wr => ∃ k q : Nat, k ≤ M ∧ i = .int .i64 k ∧ Hid (q = (L.take k).countP p) ∧ v = .int .i64 (q : Int) ∧ Below H w wr ∧ wr.cell? ⟨w.heap.size, 0, none⟩ = some (.int .i64 x) ∧ wr.cell? ⟨w.heap.size, 1, none⟩ = some (.int .i64 y) ∧ wr.cell? ⟨w.heap.size, 2, none⟩ = some (.bool h)) (fun _ i _ => M - (intOf i).toNat)
  case atStart => exact ⟨0, 0, Nat.zero_le _, rfl, Lib.hid rfl, rfl, HB0.out, by simp, by simp, by simp⟩
  case round =>
    obtain ⟨k, q, hk, rfl, HQ, rfl, hb3 , c0, c1, c2⟩ := hrel
    have hqk : q ≤ k := by rw [HQ.out]; refine Nat.le_trans List.countP_le_length ?_; simp; omega
    by_cases hlt : k < M
    · have hkl : k < L.length := by rw [← HM.out]; exact hlt
      have hc := (hb3.cell (p := ⟨g, k, none⟩) hb).trans (HC.out k hkl)
      have HV := Lib.hid (HP.out L[k] (List.getElem_mem hkl))
      have hT := cnt_take L p k hkl
      rw [← HQ.out] at hT
      generalize cbs L[k] = s at hc HV
      have hsz : H ≤ wr.heap.size := by have := hb3.size; have := HH.out; omega
      have Hb3 := Lib.hid hb3
      clear hb3
      cases hp : p L[k]
      · rw [hp] at HV hT
        have HT : Hid (q = (L.take (k + 1)).countP p) := Lib.hid (by rw [hT]; rfl)
        clear hT hp
        go_wp2_with (go_at_fn 65; refine (HV.out _).mono ?_; rintro e w4 ⟨rfl, hb4⟩)
        have Hb4 := Lib.hid (Hb3.out.trans (hb4.mono hsz))
        have d0 := (hb4.cell (p := ⟨w.heap.size, 0, none⟩) (World.block_lt_of_cell? wr _ c0)).trans c0
        have d1 := (hb4.cell (p := ⟨w.heap.size, 1, none⟩) (World.block_lt_of_cell? wr _ c1)).trans c1
        have d2 := (hb4.cell (p := ⟨w.heap.size, 2, none⟩) (World.block_lt_of_cell? wr _ c2)).trans c2
        have D := Lib.hid (And.intro d0 (And.intro d1 d2))
        clear d0 d1 d2
        clear hb4
        go_wp2_with fail
        go_roundw
        case rel => exact ⟨k + 1, q, by omega, by go_num, HT, rfl, Hb4.out , D.out.1, D.out.2.1, D.out.2.2⟩
        case measure => simp [intOf]; omega
      · rw [hp] at HV hT
        have HT : Hid (q + 1 = (L.take (k + 1)).countP p) := Lib.hid (by rw [hT]; rfl)
        clear hT hp
        go_wp2_with (go_at_fn 65; refine (HV.out _).mono ?_; rintro e w4 ⟨rfl, hb4⟩)
        have Hb4 := Lib.hid (Hb3.out.trans (hb4.mono hsz))
        have d0 := (hb4.cell (p := ⟨w.heap.size, 0, none⟩) (World.block_lt_of_cell? wr _ c0)).trans c0
        have d1 := (hb4.cell (p := ⟨w.heap.size, 1, none⟩) (World.block_lt_of_cell? wr _ c1)).trans c1
        have d2 := (hb4.cell (p := ⟨w.heap.size, 2, none⟩) (World.block_lt_of_cell? wr _ c2)).trans c2
        have D := Lib.hid (And.intro d0 (And.intro d1 d2))
        clear d0 d1 d2
        clear hb4
        go_wp2_with fail
        go_roundw
        case rel => exact ⟨k + 1, q + 1, by omega, by go_num, HT, by go_num, Hb4.out , D.out.1, D.out.2.1, D.out.2.2⟩
        case measure => simp [intOf]; omega
    · have hkM : k = M := by omega
      have HE : Hid (r = agN q M) := Lib.hid (by rw [← HR.out, HQ.out, hkM, HM.out, List.take_of_length_le (Nat.le_refl _)]; rfl)
      clear HQ 
      by_cases h1 : q = M
      · have HE2 : Hid (r = 1) := Lib.hid (by rw [HE.out, agN, if_pos h1])
        have hq1 : ((q : Int) == (M : Int)) = true := by simp; omega
        go_wp2_with fail
        go_ret
        exact ⟨ret_int HE2.out.symm, hb3⟩
      · have hq1 : ((q : Int) == (M : Int)) = false := by simp; omega
        by_cases h0 : q = 0
        · have HE2 : Hid (r = -1) := Lib.hid (by rw [HE.out, agN, if_neg h1, if_pos h0])
          have hq0 : ((q : Int) == 0) = true := by simp; omega
          go_wp2_with fail
          go_ret
          exact ⟨ret_int HE2.out.symm, hb3⟩
        · have HE2 : Hid (r = 0) := Lib.hid (by rw [HE.out, agN, if_neg h1, if_neg h0])
          have hq0 : ((q : Int) == 0) = false := by simp; omega
          go_wp2_with fail
          go_ret
          exact ⟨ret_int HE2.out.symm, hb3⟩

end Go.Proofs.Ytaangjidkkpogaa
