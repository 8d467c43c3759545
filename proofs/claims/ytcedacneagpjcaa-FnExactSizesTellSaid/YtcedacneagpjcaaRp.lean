/- A number told so many times: the library. -/
import Derived.Test.YtcedacneagpjcaaLf
import Derived.Laws.CopyOwn
import Derived.Deep.RegionLaw
namespace Go.Proofs.Ytcedacneagpjcaa
open Go.ChangeShapes Go.WideShapes Go.ChangeAt Go.RowKit
set_option linter.unusedVariables false
theorem own_heap {w : World} {base g m : Nat} {xs : List Value} (h : w.ownsRow base 3 1 (.slice (some ⟨g, 0, none⟩) m m) m xs) : w.heap[g]? = some (.cells xs.toArray 3 (0, 0)) := by
  have hl := h.1
  rcases h.2 with ⟨hv, _⟩ | ⟨g', cap', cur, hv, hb, hg, h1, h2, h3, h4⟩
  · cases hv
  · cases hv
    rw [hg]
    have : cur.toList = xs := by
      rw [← h4]
      exact (List.take_of_length_le (by simp; omega)).symm
    rw [← this]

theorem heap_own {w : World} {base g m : Nat} {xs : List Value} (hb : base ≤ g) (hg : w.heap[g]? = some (.cells xs.toArray 3 (0, 0))) (hl : xs.length = m) (hm : m ≤ 1000) : w.ownsRow base 3 1 (.slice (some ⟨g, 0, none⟩) m m) m xs := by
  refine ⟨by omega, .inr ⟨g, m, xs.toArray, rfl, hb, hg, Nat.le_refl _, by unfold maxLen; omega, by simp; omega, ?_⟩⟩
  rw [Nat.mul_one, ← hl]; simp

theorem mul64_any (m : Nat) (h1 : 1 ≤ m) (h12 : m ≤ 12) (w : World) : Calls Try.prog 78 #[.int .u64 1, .int .u64 (m : Int)] w fun e w' => e = .returned (.tuple #[.int .u64 0, .int .u64 (m : Int)]) ∧ w = w' := by
  have h : m = 1 ∨ m = 2 ∨ m = 3 ∨ m = 4 ∨ m = 5 ∨ m = 6 ∨ m = 7 ∨ m = 8 ∨ m = 9 ∨ m = 10 ∨ m = 11 ∨ m = 12 := by omega
  rcases h with rfl | rfl | rfl | rfl | rfl | rfl | rfl | rfl | rfl | rfl | rfl | rfl
  all_goals
    go_enter Try.func78, Try.ntmps78
    go_wp2
    go_ret2
    exact ⟨rfl, rfl⟩

theorem mul_any (m : Nat) (h1 : 1 ≤ m) (h12 : m ≤ 12) (w : World) : Calls Try.prog 73 #[.int .u64 1, .int .u64 (m : Int)] w fun e w' => e = .returned (.tuple #[.int .u64 0, .int .u64 (m : Int)]) ∧ w = w' := by
  go_enter Try.func73, Try.ntmps73
  go_wp2_with fail
  refine (mul64_any m h1 h12 w).mono ?_
  rintro e w' ⟨rfl, rfl⟩
  go_wp2_with fail
  go_ret2
  exact ⟨rfl, rfl⟩

/-- The first k cells are filled. -/
def rpL (m k : Nat) (x : Int) : List Value := ns (List.replicate k x ++ List.replicate (m - k) 0)

theorem rpL_len (m k : Nat) (x : Int) (h : k ≤ m) : (rpL m k x).length = m := by unfold rpL; rw [ns_length]; simp; omega

theorem rp_splice (m k j : Nat) (x : Int) (h : k + j ≤ m) : splice (rpL m k x) k (ns (List.replicate j x)) = rpL m (k + j) x := by
  unfold splice rpL
  rw [ns_length, List.length_replicate]
  have e1 : (ns (List.replicate k x ++ List.replicate (m - k) 0)).take k = ns (List.replicate k x) := by
    rw [ns_append]
    exact List.take_left' (by rw [ns_length]; simp)
  have e2 : (ns (List.replicate k x ++ List.replicate (m - k) 0)).drop (k + j) = ns (List.replicate (m - (k + j)) 0) := by
    have : List.replicate k x ++ List.replicate (m - k) (0 : Int) = (List.replicate k x ++ List.replicate j 0) ++ List.replicate (m - (k + j)) 0 := by
      rw [List.append_assoc, List.replicate_append_replicate]
      congr 2; omega
    rw [this, ns_append]
    exact List.drop_left' (by rw [ns_length]; simp)
  rw [e1, e2, ← ns_append, ← ns_append, ← List.append_assoc, List.replicate_append_replicate]

theorem sizeOf3' : (Try.prog.info? 3).map (·.size) = some 1 := by kernel_rfl

set_option maxHeartbeats 1600000 in
set_option maxRecDepth 20000 in
theorem repeat_any (w : World) (b off c : Nat) (x : Int) (m : Nat) (h1 : 1 ≤ m) (h12 : m ≤ 12) (h0 : w.cell? ⟨b, off, none⟩ = some (.int .i64 x)) :
    Calls Try.prog 64 #[.slice (some ⟨b, off, none⟩) 1 c, .int .i64 (m : Int)] w fun e w' => ∃ g, e = .returned (.slice (some ⟨g, 0, none⟩) m m) ∧ w'.ownsRow w.heap.size 3 1 (.slice (some ⟨g, 0, none⟩) m m) m (ns (List.replicate m x)) ∧ Below w.heap.size w w' := by
  obtain ⟨i3, hi3, hz30, hz31, hz32⟩ := info_parts info3
  have Hz := Lib.hid (And.intro hz30 (And.intro hz31 hz32))
  have hm0 : ¬ (m : Int) < 0 := by omega
  have hmx : ¬ (m : Int) > 9223372036854775807 := by omega
  have hmx2 : (m : Int) ≤ 9223372036854775807 := by omega
  have hw1 : IntKind.u64.wrap (m : Int) = (m : Int) := by simp only [IntKind.wrap, IntKind.signed, IntKind.bits]; simp; omega
  have hw2 : IntKind.i64.wrap (m : Int) = (m : Int) := IntWalk.i64_in _ (by omega)
  have H0 := Lib.hid h0
  clear hz30 hz31 hz32
  go_enter Try.func64, Try.ntmps64
  go_wp2_with fail
  refine (mul_any m h1 h12 w).mono ?_
  rintro e w' ⟨rfl, rfl⟩
  go_wp2_with (refine wpList_make_full _ rfl _ _ 22 rfl w.heap.size 3 i3 (.int .i64 0) 1 Try.underlying22 hi3 Hz.out.1 Hz.out.2.1 .i64 .i64 _ _ m rfl rfl rfl rfl ?_ ?_ ?_ ?_)
  · rw [Hz.out.2.2]; omega
  · unfold maxLen; omega
  · exact Nat.le_refl _
  intro w1 hown hgr
  have hown2 : w1.ownsRow w.heap.size 3 1 (.slice (some ⟨w.heap.size, 0, none⟩) m m) m (ns (List.replicate m 0)) := by rw [← zero_nums, Nat.mul_one]; simpa using hown
  have hh0 := own_heap hown2
  have HH0 : Hid (w1.heap[w.heap.size]? = some (.cells (rpL m 0 x).toArray 3 (0, 0))) := by show _ = _; rw [hh0]; simp [rpL]
  have HB0 : Hid (Below w.heap.size w w1) := (Below.refl _ _).grown hgr (Nat.le_refl _) (fun _ h => by cases h)
  have HC0 : Hid (w1.cell? ⟨b, off, none⟩ = some (.int .i64 x)) := cell_old HB0.out H0.out
  obtain ⟨g, hge⟩ : ∃ g, g = w.heap.size := ⟨_, rfl⟩
  have hgw : w.heap.size ≤ g := by omega
  rw [← hge] at HH0 ⊢
  have Hge := Lib.hid hge
  have hmin : ([Value.int .i64 x]).length = Nat.min 1 m := by simp [Nat.min_def]; omega
  have Hmin := Lib.hid hmin
  clear hown hgr hown2 hh0 hge hmin h0
  have Hsrc : Hid (∀ j v, [Value.int .i64 x][j]? = some v → w1.cell? ((⟨b, off, none⟩ : Addr).add j) = some v) := fun j v hj => by
    cases j with
    | zero => simp at hj; subst hj; rw [show (⟨b, off, none⟩ : Addr).add 0 = ⟨b, off, none⟩ by unfold Addr.add; split <;> simp_all]; exact HC0.out
    | succ j => simp at hj
  have Hfit0 : Hid (0 + [Value.int .i64 x].length ≤ (rpL m 0 x).length) := by show _ ≤ _; rw [rpL_len m 0 x (Nat.zero_le _)]; simp; omega
  have Hone : Hid (∀ v ∈ [Value.int .i64 x], v.oneCell' = true) := fun v hv => by simp at hv; subst hv; rfl
  go_wp2_with (refine wpList_copy_splice rfl _ _ 22 22 rfl 3 Try.underlying22 sizeOf3' (some ⟨g, 0, none⟩) (some ⟨b, off, none⟩) m m 1 c rfl rfl g 0 (rpL m 0 x) 3 HH0.out [.int .i64 x] Hmin.out (fun _ => ⟨rfl, _, rfl, Hsrc.out⟩) Hfit0.out Hone.out w.heap.size w HB0.out hgw ?_)
  intro w2 hh2 hb2
  have HH1 : Hid (w2.heap[g]? = some (.cells (rpL m 1 x).toArray 3 (0, 0))) := by
    have h := hh2.out
    have e := rp_splice m 0 1 x (by omega)
    rw [Nat.zero_add] at e
    show _ = _
    rw [← e]; exact h
  have HB2 := Lib.hid hb2
  clear hh2 hb2 HH0 HB0 HC0 Hsrc Hfit0 Hone
  go_wp2_with fail
  go_loopw [8] (fun v wr => ∃ k : Nat, 1 ≤ k ∧ k ≤ m ∧ v = .int .i64 k ∧ Hid (wr.heap[g]? = some (.cells (rpL m k x).toArray 3 (0, 0))) ∧ Below w.heap.size w wr) (fun v _ => m - (intOf v).toNat)
  case atStart => exact ⟨1, Nat.le_refl _, h1, rfl, HH1, HB2.out⟩
  case round =>
    obtain ⟨k, hk1, hkm, rfl, HK, hbel⟩ := hrel
    by_cases hlt : k < m
    · obtain ⟨j, hj⟩ : ∃ j, j = Nat.min k (m - k) := ⟨_, rfl⟩
      have hj2 : j ≤ k ∧ j ≤ m - k ∧ 1 ≤ j := by rw [hj]; simp [Nat.min_def]; split <;> omega
      have HKd : Hid (wr.drew.heap[g]? = some (.cells (rpL m k x).toArray 3 (0, 0))) := HK.out
      have Hbd : Hid (Below w.heap.size w wr.drew) := hbel.drew
      have Hcell : Hid (∀ q v, (ns (List.replicate j x))[q]? = some v → wr.drew.cell? ((⟨g, 0, none⟩ : Addr).add q) = some v) := fun q v hq => by
        have hql := (List.getElem?_eq_some_iff.1 hq).1
        rw [ns_length, List.length_replicate] at hql
        rw [show (⟨g, 0, none⟩ : Addr).add q = ⟨g, q, none⟩ by unfold Addr.add; split <;> simp_all]
        rw [cell_of_row _ _ _ _ _ _ HKd.out, List.getElem?_toArray, ← hq]
        unfold rpL
        rw [ns_append, List.getElem?_append_left (by rw [ns_length]; simp; omega)]
        unfold ns
        rw [List.getElem?_map, List.getElem?_map, List.getElem?_replicate, List.getElem?_replicate, if_pos (by omega), if_pos hql]
      obtain ⟨CS, hCS⟩ : ∃ CS, CS = ns (List.replicate j x) := ⟨_, rfl⟩
      have hcl : CS.length = j := by rw [hCS, ns_length, List.length_replicate]
      rw [← hCS] at Hcell
      have Hlen : Hid (CS.length = Nat.min k (m - k)) := by show _ = _; rw [hcl]; exact hj
      have Hfit : Hid (k + CS.length ≤ (rpL m k x).length) := by show _ ≤ _; rw [hcl, rpL_len m k x hkm]; omega
      have Hone2 : Hid (∀ v ∈ CS, v.oneCell' = true) := by show ∀ v ∈ CS, _; rw [hCS]; exact ns_one _
      have HCS := Lib.hid hCS
      have Hj2 := Lib.hid hj2
      have Hmk : Hid (¬ m = k) := by show ¬ m = k; omega
      have hp0 : (0 : Int) ≤ (k : Int) := by omega
      have hp1 : (k : Int) ≤ (m : Int) := by omega
      have hkj : k + j ≤ m := by omega
      have hj1 : 1 ≤ j := hj2.2.2
      have hwk : IntKind.i64.wrap ((k : Int) + (j : Int)) = (k : Int) + (j : Int) := IntWalk.i64_in _ (by omega)
      clear hj hj2 HK hbel hCS
      go_wp2_with fail
      go_region_law (refine step_copy_splice rfl (.tmp 41) (.tmp 44) 22 22 rfl 3 Try.underlying22 sizeOf3' (if m = k then some ⟨g, 0, none⟩ else some ⟨g, k, none⟩) (some ⟨g, 0, none⟩) (m - k) (m - k) k m (by simp [Act.eval, Act.put]) (by simp [Act.eval, Act.put]) g k (rpL m k x) 3 HKd.out CS Hlen.out (fun _ => ⟨if_neg Hmk.out, _, rfl, Hcell.out⟩) Hfit.out Hone2.out w.heap.size w Hbd.out hgw ?_; intro w4 hh4 hb4)
      all_goals
        have HH4 : Hid (w4.heap[g]? = some (.cells (rpL m (k + j) x).toArray 3 (0, 0))) := by
          have h := hh4.out
          rw [HCS.out, rp_splice m k j x hkj] at h
          exact h
        have Hb4 := Lib.hid hb4
        clear hh4 hb4
        go_wp2_with fail
        go_roundw
        case rel => exact ⟨k + j, by omega, hkj, by first | rfl | simp, HH4, Hb4.out⟩
        case measure => simp [intOf] <;> omega
    · obtain rfl : k = m := by omega
      have Hown : Hid (wr.ownsRow w.heap.size 3 1 (.slice (some ⟨g, 0, none⟩) k k) k (ns (List.replicate k x))) := by
        have h := heap_own (base := w.heap.size) hgw HK.out (rpL_len k k x (Nat.le_refl _)) (by omega)
        have e : rpL k k x = ns (List.replicate k x) := by unfold rpL; simp
        show World.ownsRow _ _ _ _ _ _ _
        rw [← e]; exact h
      clear HK
      go_wp2_with fail
      go_ret
      exact ⟨g, rfl, Hown.out, hbel⟩

end Go.Proofs.Ytcedacneagpjcaa
