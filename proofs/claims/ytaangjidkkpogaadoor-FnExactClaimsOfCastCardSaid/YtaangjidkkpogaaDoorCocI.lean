/- ClaimsOfCast, the program's way. -/
import Derived.Test.YtaangjidkkpogaaDoorCocS
namespace Go.Proofs.YtaangjidkkpogaaDoor
open Go.ChangeShapes Go.WideShapes Go.ChangeAt Go.RowKit
set_option linter.unusedVariables false


set_option maxHeartbeats 400000 in
set_option maxRecDepth 20000 in
theorem implCoc_any (w : World) (s : ByteArray) (hs : s.size ≤ 1048576) :
    Calls Tryd.prog 14 #[.string s] w fun e w' => ∃ v, e = .returned (.tuple #[v, .bool (castB s)]) ∧ w'.ownsRow w.heap.size 48 3 v (cocR s).length (ss (cocR s)) ∧ Below w.heap.size w w' := by
  obtain ⟨i0, hi, hz0, hz1, hz2⟩ := info_parts infoCL
  have Hz := Lib.hid (And.intro hz0 (And.intro hz1 hz2))
  have HC := Lib.hid (isCast_any s w hs)
  cases hca : castB s
  · have hr : cocR s = [] := by unfold cocR; rw [hca]; rfl
    rw [hr]
    rw [hca] at HC
    clear hr hca
    go_enter Tryd.func14, Tryd.ntmps14
    go_wp2_with fail
    refine HC.out.mono ?_
    rintro e w1 ⟨rfl, hb1⟩
    go_wp2_with fail
    go_ret2
    exact ⟨.slice none 0 0, rfl, World.ownsRow_nil _ _ _ _, hb1⟩
  · rw [hca] at HC
    obtain ⟨hsc, hlen, h1, h8⟩ := cast_of hca
    have hr : cocR s = cocL (cOf s) (s.size - 1) := by unfold cocR; rw [hca]; rfl
    rw [hr, cocL_len]
    obtain ⟨z, hz⟩ : ∃ z, s.size = z + 1 := ⟨s.size - 1, by omega⟩
    rw [hz, Nat.add_sub_cancel]
    have HS : Hid (∀ k : Nat, k < z → ∀ w, Calls Tryd.prog 36 #[.string s, .agg #[.int .i64 (k : Int), .int .i64 ((k : Int) + 1), .bool true]] w fun e w' => e = .returned (.bool (sm (cocL (cOf s) z) k)) ∧ Below w.heap.size w w') := Lib.hid (fun k hk w => by
      have h := says_any (cOf s) (k : Int) ((k : Int) + 1) true w (by omega) (by omega) (by omega)
      rw [← hsc, say_true] at h
      rw [(cocL_at (cOf s) z k hk).2.2]
      exact h)
    have Hset : Hid (∀ k, k < z → (spart (cocL (cOf s) z) k).set k ((k : Int), (k : Int) + 1, sm (cocL (cOf s) z) k) = spart (cocL (cOf s) z) (k + 1)) := Lib.hid (fun k hk => by
      have h := spart_set (cocL (cOf s) z) k (by rw [cocL_len]; exact hk)
      rw [(cocL_at (cOf s) z k hk).1, (cocL_at (cOf s) z k hk).2.1] at h
      exact h)
    have HLl : Hid ((cocL (cOf s) z).length = z) := Lib.hid (cocL_len _ _)
    generalize cocL (cOf s) z = L at HS Hset HLl ⊢
    have hz7 : z ≤ 7 := by omega
    have hp0 : (0 : Int) ≤ (z : Int) + 1 - 1 := by omega
    obtain ⟨H, hH⟩ : ∃ H, w.heap.size = H := ⟨_, rfl⟩
    rw [hH] at HC ⊢
    have HH := Lib.hid hH
    clear hr hca hsc hlen h1 hH hz0 hz1 hz2
    go_enter Tryd.func14, Tryd.ntmps14
    go_wp2_with fail
    refine HC.out.mono ?_
    rintro e w1 ⟨rfl, hb1⟩
    have hsz1 : H ≤ w1.heap.size := by have := hb1.size; have := HH.out; omega
    have Hb1 := Lib.hid hb1
    clear hb1
    go_wp2_with (refine wpList_make_full _ rfl _ _ 26 rfl H 48 i0 (.agg #[.int .i64 0, .int .i64 0, .bool false]) 3 Tryd.underlying26 hi Hz.out.1 Hz.out.2.1 .i64 .i64 _ _ z rfl rfl rfl rfl ?_ ?_ ?_ ?_)
    · rw [Hz.out.2.2]; omega
    · unfold maxLen; omega
    · exact hsz1
    intro w2 hown hgr
    have Hown0 : Hid (w2.ownsRow H 48 3 (.slice (some ⟨w1.heap.size, 0, none⟩) z z) z (ss (spart L 0))) := Lib.hid (by rw [spart_zero, HLl.out, ← zero_sends]; exact hown)
    have Hb2 : Hid (Below H w w2) := Lib.hid (Hb1.out.grown hgr hsz1 (fun _ h => by cases h))
    obtain ⟨g, hg⟩ : ∃ g, w1.heap.size = g := ⟨_, rfl⟩
    rw [hg] at Hown0 hsz1 ⊢
    clear hown hgr hg
    go_wp2_with fail
    go_loopw [16] (fun i wr => ∃ k : Nat, k ≤ z ∧ i = .int .i64 k ∧ wr.ownsRow H 48 3 (.slice (some ⟨g, 0, none⟩) z z) z (ss (spart L k)) ∧ Below H w wr) (fun i _ => z - (intOf i).toNat)
    case atStart => exact ⟨0, Nat.zero_le _, rfl, Hown0.out, Hb2.out⟩
    case round =>
      obtain ⟨k, hk, rfl, hor, hb3⟩ := hrel
      by_cases hlt : k < z
      · have HV := Lib.hid (HS.out k hlt)
        have HSet := Lib.hid (Hset.out k hlt)
        generalize sm L k = b at HV HSet
        have hsz : H ≤ wr.heap.size := by have := hb3.size; have := HH.out; omega
        have hgr := (hor.lt g rfl).2
        have hor2 := hor.alloc (.cells #[.int .i64 (k : Int), .int .i64 ((k : Int) + 1), .bool true] 48)
        have hb4 := hb3.alloc hsz (.cells #[.int .i64 (k : Int), .int .i64 ((k : Int) + 1), .bool true] 48)
        have hc0 : (wr.alloc (.cells #[.int .i64 (k : Int), .int .i64 ((k : Int) + 1), .bool true] 48)).cell? ⟨wr.heap.size, 0, none⟩ = some (.int .i64 (k : Int)) := by rw [cell_of_row _ _ _ _ _ _ (heap_alloc_new wr _)]; rfl
        have hc1 : (wr.alloc (.cells #[.int .i64 (k : Int), .int .i64 ((k : Int) + 1), .bool true] 48)).cell? ⟨wr.heap.size, 1, none⟩ = some (.int .i64 ((k : Int) + 1)) := by rw [cell_of_row _ _ _ _ _ _ (heap_alloc_new wr _)]; rfl
        have hc2 : (wr.alloc (.cells #[.int .i64 (k : Int), .int .i64 ((k : Int) + 1), .bool true] 48)).cell? ⟨wr.heap.size, 2, none⟩ = some (.bool true) := by rw [cell_of_row _ _ _ _ _ _ (heap_alloc_new wr _)]; rfl
        have hfz : (wr.alloc (.cells #[.int .i64 (k : Int), .int .i64 ((k : Int) + 1), .bool true] 48)).heap[wr.heap.size]? = some (.cells #[.int .i64 (k : Int), .int .i64 ((k : Int) + 1), .bool true] 48 (0, 0)) := heap_alloc_new wr _
        have Hor2 := Lib.hid hor2
        have Hb4 := Lib.hid hb4
        have HCc := Lib.hid (And.intro hc0 (And.intro hc1 (And.intro hc2 hfz)))
        have hszA : H ≤ (wr.alloc (.cells #[.int .i64 (k : Int), .int .i64 ((k : Int) + 1), .bool true] 48)).heap.size := Nat.le_trans hsz (by simp)
        have hBA : wr.heap.size < (wr.alloc (.cells #[.int .i64 (k : Int), .int .i64 ((k : Int) + 1), .bool true] 48)).heap.size := by simp
        clear hor hb3 hor2 hb4 hc0 hc1 hc2 hfz
        go_wp2_with fail
        refine (HV.out _).mono ?_
        rintro e w4 ⟨rfl, hb5⟩
        obtain ⟨B, hB⟩ : ∃ B, wr.heap.size = B := ⟨_, rfl⟩
        have hBg : g ≠ B := by omega
        have d0 := (hb5.cell (p := ⟨wr.heap.size, 0, none⟩) hBA).trans HCc.out.1
        have d1 := (hb5.cell (p := ⟨wr.heap.size, 1, none⟩) hBA).trans HCc.out.2.1
        have d2 := (hb5.cell (p := ⟨wr.heap.size, 2, none⟩) hBA).trans HCc.out.2.2.1
        have hrow4 := (hb5.block wr.heap.size hBA).trans HCc.out.2.2.2
        have hor4 := own_later Hor2.out hb5
        have Hb6 := Lib.hid (Hb4.out.trans (hb5.mono hszA))
        rw [hB] at d0 d1 d2 hrow4 hBA ⊢
        have hfz2 : w4.frozen? ⟨B, 2, none⟩ = false := by simp [World.frozen?, hrow4]
        have hor5 := hor4.kept (grown_set (g := B) ⟨rfl, rfl, rfl, Nat.le_refl _, fun _ _ _ => rfl⟩ 2 (.bool b)) (.inr (by show some g ≠ some B; intro e; cases e; exact hBg rfl))
        obtain ⟨u0, z0⟩ := own_some hor5 (k * 3) (by omega)
        obtain ⟨u1, z1⟩ := own_some hor5 (k * 3 + 1) (by omega)
        obtain ⟨u2, z2⟩ := own_some hor5 (k * 3 + 2) (by omega)
        have zf0 := hor5.frozenAt (k * 3)
        have zf1 := hor5.frozenAt (k * 3 + 1)
        have zf2 := hor5.frozenAt (k * 3 + 2)
        have hor6 := own_set3 hor5 k (k : Int) ((k : Int) + 1) b
        rw [HSet.out] at hor6
        have Hor6 := Lib.hid hor6
        have hHB : H ≤ B := by omega
        clear hor4 hor5 hor6 hb5 hrow4 hB
        go_wp2_with fail
        go_roundw
        case rel => exact ⟨k + 1, by omega, by go_num, Hor6.out, (((Hb6.out.setCell hHB _).setCell hsz1 _).setCell hsz1 _).setCell hsz1 _⟩
        case measure => simp [intOf]; omega
      · have hkz : k = z := by omega
        have hp : spart L k = L := by rw [hkz, ← HLl.out, spart_all]
        rw [hp] at hor
        have Hor := Lib.hid hor
        clear hor hp hkz
        go_wp2_with fail
        go_ret2
        exact ⟨_, rfl, Hor.out, hb3⟩

end Go.Proofs.YtaangjidkkpogaaDoor
