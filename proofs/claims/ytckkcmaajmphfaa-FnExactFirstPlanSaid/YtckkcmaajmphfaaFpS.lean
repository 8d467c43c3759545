/- The model's search for the first plan. -/
import Derived.Test.YtckkcmaajmphfaaFp
namespace Go.Proofs.Ytckkcmaajmphfaa
open Go.ChangeShapes Go.WideShapes Go.ChangeAt Go.RowKit
set_option linter.unusedVariables false

set_option maxRecDepth 20000 in
theorem caAll_cells (g cap f : Nat) (s : Nat → Nat) (w : World) (hf : f ≤ 10) (Hc : Hid (∀ i, i < f → w.cell? ⟨g, 0 + i, none⟩ = some (.int .i64 (s i)))) :
    Calls Try.prog 31 #[.slice (some ⟨g, 0, none⟩) f cap] w fun e w' => e = .returned (.bool (allB f s)) ∧ Below w.heap.size w w' := by
  go_enter Try.func31, Try.ntmps31
  go_wp2_with fail
  go_loopw [7] (fun i wr => ∃ k : Nat, k ≤ f ∧ i = .int .i64 k ∧ Hid (∀ i, i < k → s i = 2 ^ f - 1) ∧ Below w.heap.size w wr) (fun i _ => f - (intOf i).toNat)
  case atStart => exact ⟨0, Nat.zero_le _, rfl, fun i hi => absurd hi (by omega), Below.refl _ _⟩
  case round =>
    obtain ⟨k, hk, rfl, hall, hbel⟩ := hrel
    by_cases hlt : k < f
    · have h0 := hbel.cell (p := ⟨g, 0 + k, none⟩) (World.block_lt_of_cell? w _ (Hc.out k hlt))
      rw [Hc.out k hlt, Nat.zero_add] at h0
      cases ht : (s k == 2 ^ f - 1)
      · have htest : ((s k : Int) != wrap64 (wrap64 (2 ^ f) - 1)) = true := by rw [full_test f _ hf, ht]; rfl
        have hno : allB f s = false := by
          unfold allB
          rw [List.all_eq_false]
          exact ⟨k, List.mem_range.2 hlt, by simp [ht]⟩
        have Hno := Lib.hid hno
        clear ht hno
        go_wp2_with fail
        go_ret
        exact ⟨ret_bool Hno.out.symm, hbel⟩
      · have htest : ((s k : Int) != wrap64 (wrap64 (2 ^ f) - 1)) = false := by rw [full_test f _ hf, ht]; rfl
        have hall2 : Hid (∀ i, i < k + 1 → s i = 2 ^ f - 1) := by
          intro i hi
          by_cases hik : i = k
          · subst hik; simpa using ht
          · exact hall.out i (by omega)
        clear ht
        go_wp2_with fail
        go_roundw
        case rel => exact ⟨k + 1, by omega, by go_num, hall2, hbel⟩
        case measure => simp [intOf]; omega
    · obtain rfl : k = f := by omega
      have hyes : allB k s = true := by
        unfold allB
        rw [List.all_eq_true]
        intro i hi
        simpa using hall.out i (List.mem_range.1 hi)
      have Hyes := Lib.hid hyes
      clear hlt hk hyes
      go_wp2_with fail
      go_ret
      exact ⟨ret_bool Hyes.out.symm, hbel⟩


theorem infoC : (Try.prog.info? 50).map (fun i => (i.zero, i.size, i.bytes)) = some (some (.agg #[.int .i64 0, .int .i64 0]), 2, 16) := by kernel_rfl
def SrOk (F n : Nat) : Prop :=
  ∀ (s : Nat → Nat) (g cap : Nat) (w : World), Hid (Gd F s) → Hid (∀ i, i < F → w.cell? ⟨g, 0 + i, none⟩ = some (.int .i64 (s i))) →
    Calls Try.prog 19 #[.slice (some ⟨g, 0, none⟩) F cap, .int .i64 (n : Nat)] w fun e w' => ∃ v, e = .returned (.tuple #[v, .bool (spS F n s).isSome]) ∧ w'.ownsRow w.heap.size 50 2 v ((spS F n s).getD []).length (cs ((spS F n s).getD [])) ∧ Below w.heap.size w w'
theorem mis_step (F : Nat) (s : Nat → Nat) (k : Nat) {b : Bool} (h : (s k == 2 ^ F - 1) = b) : misS F s (k + 1) = misS F s k + (if b then 0 else 1) := by
  have h2 : (s k != 2 ^ F - 1) = !b := by rw [bne, h]
  rw [misS, h2]; cases b <;> rfl
theorem cells_later {F g : Nat} {s : Nat → Nat} {w w' : World} (h : ∀ i, i < F → w.cell? ⟨g, 0 + i, none⟩ = some (.int .i64 (s i))) (hb : Below w.heap.size w w') : ∀ i, i < F → w'.cell? ⟨g, 0 + i, none⟩ = some (.int .i64 (s i)) := fun i hi => cell_below2 hb (h i hi)
theorem not_all {F : Nat} {s : Nat → Nat} (h : allB F s = false) : 0 < misS F s F := by
  apply mis_pos
  simp only [allB, List.all_eq_false, List.mem_range] at h
  obtain ⟨i, hi, h2⟩ := h
  exact ⟨i, hi, by simpa using h2⟩

set_option maxRecDepth 20000 in
theorem search_zero (F : Nat) (h1 : 1 ≤ F) (hF : F ≤ 10) : SrOk F 0 := by
  intro s g cap w Hs Hc
  go_enter Try.func19, Try.ntmps19
  go_wp2_with fail
  refine (caAll_cells g cap F s w hF Hc).mono ?_
  rintro e w1 ⟨rfl, hb1⟩
  cases hall : allB F s
  · have Hr : Hid (spS F 0 s = none) := Lib.hid (by rw [spS, hall]; rfl)
    have Hm := Lib.hid (not_all hall)
    have Hc1 := Lib.hid (cells_later Hc.out hb1)
    have Hb1 := Lib.hid hb1
    have hml := mis_le F s
    have Hml := Lib.hid (hml F)
    have Hmll := Lib.hid hml
    clear hall hb1 hml
    go_wp2_with fail
    go_loopw [6, 20] (fun m i wr => ∃ k : Nat, k ≤ F ∧ i = .int .i64 k ∧ m = .int .i64 (misS F s k) ∧ Below w.heap.size w wr) (fun _ i _ => F - (intOf i).toNat)
    case atStart => exact ⟨0, Nat.zero_le _, rfl, rfl, Hb1.out⟩
    case round =>
      obtain ⟨k, hk, rfl, rfl, hbel⟩ := hrel
      have hmk := Hmll.out k
      by_cases hlt : k < F
      · have h0 := cells_later Hc.out hbel k hlt
        rw [Nat.zero_add] at h0
        cases ht : (s k == 2 ^ F - 1)
        · have htest : ((s k : Int) != wrap64 (wrap64 (2 ^ F) - 1)) = true := by rw [full_test F _ hF, ht]; rfl
          have Hst : Hid (misS F s (k + 1) = misS F s k + 1) := Lib.hid (mis_step F s k ht)
          clear ht
          go_wp2_with fail
          go_roundw
          case rel => exact ⟨k + 1, by omega, by go_num, by rw [Hst.out]; go_num, hbel⟩
          case measure => simp [intOf]; omega
        · have htest : ((s k : Int) != wrap64 (wrap64 (2 ^ F) - 1)) = false := by rw [full_test F _ hF, ht]; rfl
          have Hst : Hid (misS F s (k + 1) = misS F s k + 0) := Lib.hid (mis_step F s k ht)
          clear ht
          go_wp2_with fail
          go_roundw
          case rel => exact ⟨k + 1, by omega, by go_num, by rw [Hst.out]; rfl, hbel⟩
          case measure => simp [intOf]; omega
      · obtain rfl : F = k := by omega
        clear hlt
        have hm0 := Hm.out
        have hmF := Hml.out
        clear hk
        have hgt : ((misS F s F : Nat) : Int) > 0 := by omega
        have hgt2 : (0 : Int) < ((misS F s F : Nat) : Int) := by omega
        go_wp2_with fail
        go_ret2
        exact ⟨.slice none 0 0, by rw [Hr.out]; rfl, by rw [Hr.out]; exact World.ownsRow_nil _ _ _ _, hbel⟩
  · have Hr : Hid (spS F 0 s = some []) := Lib.hid (by rw [spS, hall]; rfl)
    clear hall
    go_wp2_with fail
    go_ret2
    exact ⟨.slice none 0 0, by rw [Hr.out]; rfl, by rw [Hr.out]; exact World.ownsRow_nil _ _ _ _, hb1⟩

theorem fs_some {α : Type} {p : Nat → Option α} {x : α} : ∀ k, fs p k = some x → ∃ i, i < k ∧ p i = some x
  | 0, h => by cases h
  | k + 1, h => by
    cases e : fs p k with
    | some y => rw [fs_keep e] at h; cases h; obtain ⟨i, hi, h2⟩ := fs_some k e; exact ⟨i, by omega, h2⟩
    | none => rw [fs_next e] at h; exact ⟨k, by omega, h⟩

theorem sp_len (F : Nat) : ∀ n s l, spS F n s = some l → l.length ≤ n
  | 0, s, l, h => by
    rw [spS] at h; split at h
    · cases h; exact Nat.le_refl _
    · cases h
  | n + 1, s, l, h => by
    rw [spS] at h
    split at h
    · cases h
    · split at h
      · cases h
      · obtain ⟨a, _, h2⟩ := fs_some _ h
        obtain ⟨b, _, h3⟩ := fs_some _ h2
        unfold tryS at h3
        split at h3
        · cases e : spS F n (stp s ((a : Int), (b : Int))) with
          | none => rw [e] at h3; cases h3
          | some r =>
            rw [e] at h3; cases h3
            have := sp_len F n _ r e
            simp; omega
        · cases h3
theorem own_base {w : World} {base b' : Nat} (hb : b' ≤ base) {e : TypeId} {size : Nat} {v : Value} {n : Nat} {xs : List Value} (h : w.ownsRow base e size v n xs) : w.ownsRow b' e size v n xs := by
  refine ⟨h.1, ?_⟩
  rcases h.2 with h2 | ⟨g, cap, cur, h1, h2, h3⟩
  · exact .inl h2
  · exact .inr ⟨g, cap, cur, h1, Nat.le_trans hb h2, h3⟩

set_option maxHeartbeats 1600000 in
set_option maxRecDepth 20000 in
theorem search_succ (F N : Nat) (h1 : 1 ≤ F) (hF : F ≤ 10) (hN : N ≤ 60) (IH : Hid (SrOk F N)) : SrOk F (N + 1) := by
  intro s g cap w Hs Hc
  obtain ⟨i0, hi, hz0, hz1, hz2⟩ := info_parts infoC
  have Hsm := Lib.hid (gd_small hF Hs.out)
  have hN0 : (((N : Int) + 1) == 0) = false := by simp; omega
  go_enter Try.func19, Try.ntmps19
  go_wp2_with fail
  refine (caAll_cells g cap F s w hF Hc).mono ?_
  rintro e w1 ⟨rfl, hb1⟩
  cases hall : allB F s
  · have HAll : Hid (allB F s = false) := Lib.hid hall
    have Hm := Lib.hid (not_all hall)
    have Hc1 := Lib.hid (cells_later Hc.out hb1)
    have Hb1 := Lib.hid hb1
    have hml := mis_le F s
    have Hml := Lib.hid (hml F)
    have Hmll := Lib.hid hml
    clear hall hb1 hml
    go_wp2_with fail
    go_loopw [6, 20] (fun m i wr => ∃ k : Nat, k ≤ F ∧ i = .int .i64 k ∧ m = .int .i64 (misS F s k) ∧ Below w.heap.size w wr) (fun _ i _ => F - (intOf i).toNat)
    case atStart => exact ⟨0, Nat.zero_le _, rfl, rfl, Hb1.out⟩
    case round =>
      obtain ⟨k, hk, rfl, rfl, hbel⟩ := hrel
      have hmk := Hmll.out k
      by_cases hlt : k < F
      · have h0 := cells_later Hc.out hbel k hlt
        rw [Nat.zero_add] at h0
        cases ht : (s k == 2 ^ F - 1)
        · have htest : ((s k : Int) != wrap64 (wrap64 (2 ^ F) - 1)) = true := by rw [full_test F _ hF, ht]; rfl
          have Hst : Hid (misS F s (k + 1) = misS F s k + 1) := Lib.hid (mis_step F s k ht)
          clear ht
          go_wp2_with fail
          go_roundw
          case rel => exact ⟨k + 1, by omega, by go_num, by rw [Hst.out]; go_num, hbel⟩
          case measure => simp [intOf]; omega
        · have htest : ((s k : Int) != wrap64 (wrap64 (2 ^ F) - 1)) = false := by rw [full_test F _ hF, ht]; rfl
          have Hst : Hid (misS F s (k + 1) = misS F s k + 0) := Lib.hid (mis_step F s k ht)
          clear ht
          go_wp2_with fail
          go_roundw
          case rel => exact ⟨k + 1, by omega, by go_num, by rw [Hst.out]; rfl, hbel⟩
          case measure => simp [intOf]; omega
      · obtain rfl : F = k := by omega
        clear hlt
        have hm0 := Hm.out
        have hmF := Hml.out
        clear hk
        by_cases hp : 2 * (N + 1) < misS F s F
        · have Hr : Hid (spS F (N + 1) s = none) := Lib.hid (by rw [spS, HAll.out, if_pos hp]; rfl)
          have hgt : 2 * ((N : Int) + 1) < ((misS F s F : Nat) : Int) := by omega
          clear hp
          go_wp2_with fail
          go_ret2
          exact ⟨.slice none 0 0, by rw [Hr.out]; rfl, by rw [Hr.out]; exact World.ownsRow_nil _ _ _ _, hbel⟩
        · have Hr : Hid (spS F (N + 1) s = fs (fun a => fs (tryS (spS F N) s a) F) F) := Lib.hid (by rw [spS, HAll.out, if_neg hp]; rfl)
          have hgt : ¬ 2 * ((N : Int) + 1) < ((misS F s F : Nat) : Int) := by omega
          have Hb2 := Lib.hid hbel
          clear hp Hb1 hbel
          go_wp2_with fail
          go_loopw [39] (fun i wr => ∃ a : Nat, a ≤ F ∧ i = .int .i64 a ∧ Hid (fs (fun a => fs (tryS (spS F N) s a) F) a = none) ∧ Below w.heap.size w wr) (fun i _ => F - (intOf i).toNat)
          case atStart => exact ⟨0, Nat.zero_le _, rfl, rfl, Hb2.out⟩
          case round =>
            clear Hb2
            obtain ⟨a, ha, rfl, Hno, hbel⟩ := hrel
            by_cases hla : a < F
            · have Hbel := Lib.hid hbel
              clear hbel
              go_wp2_with fail
              go_loopw [10] (fun i wr => ∃ b : Nat, a + 1 ≤ b ∧ b ≤ F ∧ i = .int .i64 b ∧ Hid (fs (tryS (spS F N) s a) b = none) ∧ Below w.heap.size w wr) (fun i _ => F - (intOf i).toNat)
              case atStart => exact ⟨a + 1, Nat.le_refl _, hla, by go_num, Lib.hid (fs_none _ (fun i hi => by unfold tryS; rw [if_neg (by omega)])), Hbel.out⟩
              case round =>
                clear Hbel
                obtain ⟨b, hb1, hb, rfl, Hnb, hbel⟩ := hrel
                by_cases hlb : b < F
                · have hsz := hbel.size
                  obtain ⟨D, hD⟩ : ∃ D, wr.heap.size = D := ⟨_, rfl⟩
                  obtain ⟨w3, hw3⟩ : ∃ w3, wr.alloc (.cells #[.int .i64 a, .int .i64 b] 50) = w3 := ⟨_, rfl⟩
                  have hrow := heap_alloc_new wr (.cells #[.int .i64 a, .int .i64 b] 50)
                  rw [hw3, hD] at hrow
                  have HD3 := Lib.hid hrow
                  have Hb3 : Hid (Below w.heap.size w w3) := Lib.hid (by rw [← hw3]; exact hbel.alloc hsz _)
                  have HWr := Lib.hid hw3
                  have HDe := Lib.hid hD
                  clear hrow hw3 hD hbel hsz
                  go_upto_region 19 with (fail)
                  rw [HWr.out, HDe.out]
                  have c0 : w3.cell? ⟨D, 0, none⟩ = some (.int .i64 a) := cell_of_row _ _ 0 _ _ _ HD3.out
                  have c1 : w3.cell? ⟨D, 1, none⟩ = some (.int .i64 b) := cell_of_row _ _ 1 _ _ _ HD3.out
                  go_wp2_with fail
                  refine (caMake_int g 0 cap F s (a : Int) (b : Int) w3 Hsm.out hF (by omega) (by omega) (by omega) (Lib.hid (cells_later Hc.out Hb3.out))).mono ?_
                  rintro e w4 ⟨g4, cap4, rfl, own4, hb4⟩
                  have HD4 : Hid (w4.heap[D]? = some (.cells #[.int .i64 a, .int .i64 b] 50 (0, 0))) := Lib.hid ((hb4.block D (Array.getElem?_eq_some_iff.1 HD3.out).1).trans HD3.out)
                  have Hb4 := Lib.hid (Hb3.out.trans (hb4.mono Hb3.out.size))
                  have Hk4 := Lib.hid (kl_cells own4)
                  have HG2 : Hid (Gd F (stp s ((a : Int), (b : Int)))) := Lib.hid (gd_stp Hs.out (by omega) (by omega) (by omega))
                  clear own4 hb4 c0 c1 HD3 Hb3
                  go_wp2_with fail
                  refine (IH.out (stp s ((a : Int), (b : Int))) g4 cap4 w4 HG2 Hk4).mono ?_
                  rintro e w5 ⟨v5, rfl, own5, hb5⟩
                  have HD5 : Hid (w5.heap[D]? = some (.cells #[.int .i64 a, .int .i64 b] 50 (0, 0))) := Lib.hid ((hb5.block D (Array.getElem?_eq_some_iff.1 HD4.out).1).trans HD4.out)
                  have Hb5 := Lib.hid (Hb4.out.trans (hb5.mono Hb4.out.size))
                  have own5 := own_base Hb4.out.size own5
                  have htr : tryS (spS F N) s a b = (spS F N (stp s ((a : Int), (b : Int)))).map (((a : Int), (b : Int)) :: ·) := by unfold tryS; rw [if_pos (by omega)]
                  have hsl := sp_len F N (stp s ((a : Int), (b : Int)))
                  obtain ⟨res, hres⟩ : ∃ res, spS F N (stp s ((a : Int), (b : Int))) = res := ⟨_, rfl⟩
                  rw [hres] at own5 htr hsl ⊢
                  have Htr := Lib.hid htr
                  clear hb5 HD4 Hb4 Hk4 HG2 hres htr
                  rcases res with _ | l
                  · have Hnb2 : Hid (fs (tryS (spS F N) s a) (b + 1) = none) := Lib.hid (by rw [fs_next Hnb.out, Htr.out]; rfl)
                    clear own5 hsl
                    go_wp2_with fail
                    go_roundw
                    case rel => exact ⟨b + 1, by omega, by omega, by go_num, Hnb2, Hb5.out⟩
                    case measure => simp [intOf]; omega
                  · have hll : l.length ≤ N := hsl l rfl
                    have Hfin : Hid (spS F (N + 1) s = some (((a : Int), (b : Int)) :: l)) := Lib.hid (by rw [Hr.out]; exact fs_at Hno.out hla (fs_at Hnb.out hlb (by rw [Htr.out]; rfl)))
                    have own5 : w5.ownsRow w.heap.size 50 2 v5 l.length (cs l) := own5
                    have c0 : w5.cell? ⟨D, 0, none⟩ = some (.int .i64 a) := cell_of_row _ _ 0 _ _ _ HD5.out
                    have c1 : w5.cell? ⟨D, 1, none⟩ = some (.int .i64 b) := cell_of_row _ _ 1 _ _ _ HD5.out
                    have hs5 := Hb5.out.size
                    have Hlit : Hid ((w5.alloc (.cells #[.int .i64 a, .int .i64 b] 50)).ownsRow w.heap.size 50 2 (.slice (some ⟨w5.heap.size, 0, none⟩) 1 1) 1 [.int .i64 a, .int .i64 b]) := Lib.hid (World.ownsRow_lit w5 #[.int .i64 a, .int .i64 b] 1 hs5 (by unfold maxLen; omega) rfl)
                    have Hb6 : Hid (Below w.heap.size w (w5.alloc (.cells #[.int .i64 a, .int .i64 b] 50))) := Lib.hid (Hb5.out.alloc hs5 _)
                    have own6 := own5.alloc (.cells #[.int .i64 a, .int .i64 b] 50)
                    have hes : ∀ l2, cs (((a : Int), (b : Int)) :: l2) = [.int .i64 a, .int .i64 b] ++ cs l2 := fun _ => rfl
                    have Hes := Lib.hid hes
                    clear hes hsl
                    rcases own6.2 with ⟨hv, h0⟩ | ⟨g5, cap5, cur, hv, _⟩
                    · subst hv
                      have hl0 : l = [] := List.eq_nil_of_length_eq_zero h0
                      subst hl0
                      clear own5 own6 h0
                      go_wp2_with (at_builtin; refine wpList_append_own_none rfl _ _ 22 rfl w.heap.size 50 i0 2 Try.underlying22 hi _ _ _ rfl Hlit.out rfl ?_)
                      go_ret2
                      exact ⟨.slice (some ⟨w5.heap.size, 0, none⟩) 1 1, by rw [Hfin.out]; rfl, by rw [Hfin.out]; exact Hlit.out, Hb6.out⟩
                    · subst hv
                      obtain ⟨n5, hn5⟩ : ∃ n5, l.length = n5 := ⟨_, rfl⟩
                      have Hn5 := Lib.hid hn5
                      rw [hn5] at own6 hll ⊢
                      have Hnw := Lib.hid (own6.cells (g := g5) rfl)
                      clear own5 own6 hn5
                      go_wp2_with (at_builtin; refine wpList_append_own _ rfl _ _ 22 rfl w.heap.size 50 i0 (.agg #[.int .i64 0, .int .i64 0]) 2 16 Try.underlying22 hi hz0 hz1 hz2 rfl (by decide) _ _ _ rfl Hlit.out ⟨g5, 0, none⟩ n5 _ (cs l) rfl ?c0 ?c1 ?c2 ?c3 ?c4 ?c5 ?_)
                      case c0 => rw [cs_length, Hn5.out]
                      case c1 => exact Hnw.out
                      case c2 => exact cs_one _
                      case c3 => unfold maxLen; omega
                      case c4 => omega
                      case c5 => exact Hb6.out.size
                      intro v' w7 hown' hgr hnil
                      have Hown : Hid (w7.ownsRow w.heap.size 50 2 v' (((a : Int), (b : Int)) :: l).length (cs (((a : Int), (b : Int)) :: l))) := Lib.hid (by rw [Hes.out, List.length_cons, Hn5.out, Nat.add_comm]; exact hown')
                      have Hbel := Lib.hid (Hb6.out.grown hgr Hb6.out.size (fun q hq => (Hlit.out.lt q hq).1))
                      clear hown' hgr hnil
                      go_wp2_with fail
                      go_ret2
                      exact ⟨v', by rw [Hfin.out]; rfl, by rw [Hfin.out]; exact Hown.out, Hbel.out⟩
                · obtain rfl : F = b := by omega
                  have Hno2 : Hid (fs (fun a => fs (tryS (spS F N) s a) F) (a + 1) = none) := Lib.hid (by rw [fs_next Hno.out]; exact Hnb.out)
                  clear hlb
                  go_wp2_with fail
                  go_roundw
                  case rel => exact ⟨a + 1, by omega, by go_num, Hno2, hbel⟩
                  case measure => simp [intOf]; omega
            · obtain rfl : F = a := by omega
              have Hr2 : Hid (spS F (N + 1) s = none) := Lib.hid (by rw [Hr.out]; exact Hno.out)
              clear hla
              go_wp2_with fail
              go_ret2
              exact ⟨.slice none 0 0, by rw [Hr2.out]; rfl, by rw [Hr2.out]; exact World.ownsRow_nil _ _ _ _, hbel⟩
  · have Hr : Hid (spS F (N + 1) s = none) := Lib.hid (by rw [spS, hall]; rfl)
    clear hall
    go_wp2_with fail
    go_ret2
    exact ⟨.slice none 0 0, by rw [Hr.out]; rfl, by rw [Hr.out]; exact World.ownsRow_nil _ _ _ _, hb1⟩

theorem search_any (F : Nat) (h1 : 1 ≤ F) (hF : F ≤ 10) : ∀ n, n ≤ 60 → SrOk F n
  | 0, _ => search_zero F h1 hF
  | n + 1, h => search_succ F n h1 hF (by omega) (Lib.hid (search_any F h1 hF n (by omega)))

end Go.Proofs.Ytckkcmaajmphfaa
