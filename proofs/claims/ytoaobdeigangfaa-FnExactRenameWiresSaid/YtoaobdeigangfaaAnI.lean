/- Groups told anew: the program. -/
import Derived.Test.YtoaobdeigangfaaAn
namespace Go.Proofs.Ytoaobdeigangfaa
open Go.ChangeShapes Go.WideShapes Go.ChangeAt Go.RowKit
set_option linter.unusedVariables false


set_option maxHeartbeats 1600000 in
set_option maxRecDepth 20000 in
theorem toldAnew_pos (b off cap : Nat) (l : List Int) (n : Nat) (w : World) (Hn : Hid (n = l.length)) (hl : n ≤ 1000) (h1 : 0 < n)
    (Hc : Hid (∀ i, i < n → w.cell? ⟨b, off + i, none⟩ = some (.int .i64 (na l i)))) :
    Calls Try.prog 56 #[.slice (some ⟨b, off, none⟩) n cap] w fun e w' => ∃ v, e = .returned v ∧ w'.ownsRow w.heap.size 3 1 v n (ns (anL l)) ∧ Below w.heap.size w w' := by
  obtain ⟨i3, hi3, hz30, hz31, hz32⟩ := info_parts info3
  have Hz := Lib.hid (And.intro hz30 (And.intro hz31 hz32))
  have hbw : b < w.heap.size := World.block_lt_of_cell? w _ (Hc.out 0 h1)
  go_enter Try.func56, Try.ntmps56
  go_wp2_with (refine wpList_make_full _ rfl _ _ 22 rfl w.heap.size 3 i3 (.int .i64 0) 1 Try.underlying22 hi3 Hz.out.1 Hz.out.2.1 .i64 .i64 _ _ n rfl rfl rfl rfl ?_ ?_ ?_ ?_)
  · rw [Hz.out.2.2]; omega
  · unfold maxLen; omega
  · exact Nat.le_refl _
  intro w1 hown hgr
  have hown2 : w1.ownsRow w.heap.size 3 1 (.slice (some ⟨w.heap.size, 0, none⟩) n n) n (ns (List.replicate n 0)) := by rw [← zero_nums, Nat.mul_one]; simpa using hown
  have HA0 : Hid (w1.ownsRow w.heap.size 3 1 (.slice (some ⟨w.heap.size, 0, none⟩) n n) n (ns (npart (anL l) 0))) := by show World.ownsRow _ _ _ _ _ _ _; rw [npart_zero, anL_length, ← Hn.out]; exact hown2
  have HB0 : Hid (Below w.heap.size w w1) := (Below.refl _ _).grown hgr (Nat.le_refl _) (fun _ h => by cases h)
  have hg1 : w.heap.size < w1.heap.size := (HA0.out.lt _ rfl).2
  obtain ⟨g, hg⟩ : ∃ g, g = w.heap.size := ⟨_, rfl⟩
  have hgw : w.heap.size ≤ g := by omega
  rw [← hg] at HA0 hg1 ⊢
  rw [← hg] at hbw
  have Hg0 := Lib.hid hg
  clear hown hgr hown2 hg
  go_wp2_with fail
  go_loopw [3, 12] (fun v i wr => ∃ (k m : Nat), k ≤ n ∧ i = .int .i64 k ∧ Hid (m = (ord l k).length) ∧ wr.ownsRow (g + 1) 3 1 v m (ns (ord l k)) ∧ wr.ownsRow g 3 1 (.slice (some ⟨g, 0, none⟩) n n) n (ns (npart (anL l) k)) ∧ Below w.heap.size w wr) (fun _ i _ => n - (intOf i).toNat)
  case atStart => exact ⟨0, 0, Nat.zero_le _, rfl, rfl, World.ownsRow_nil _ _ _ _, HA0.out, HB0.out⟩
  case round =>
    obtain ⟨k, m, hk, rfl, HL, hor, hoa, hbel⟩ := hrel
    by_cases hlt : k < n
    · have hkl : k < l.length := by have := Hn.out; omega
      have h0 := cell_old hbel (Hc.out k hlt)
      obtain ⟨x, hx⟩ : ∃ x, na l k = x := ⟨_, rfl⟩
      have HX := Lib.hid hx
      rw [hx] at h0
      have hmk : m ≤ k := by rw [HL.out]; exact ord_len l k
      obtain ⟨Q, hQ⟩ : ∃ Q, (ord l (k + 1)).idxOf x = Q := ⟨_, rfl⟩
      have HQ := Lib.hid hQ
      have Hfi : Hid (fi (ord l (k + 1)) x = (Q : Nat)) := by show _ = _; rw [fi_mem (by rw [← hx]; exact ord_mem l k), hQ]
      obtain ⟨ao6, cap6, rfl, hna⟩ := nums_shape hor HL.out
      have HNa := Lib.hid hna
      have Ho6 := Lib.hid hor
      have Ha6 := Lib.hid hoa
      have hsz := hbel.size
      have Hb6 := Lib.hid hbel
      have hgr2 : g < wr.heap.size := (hoa.lt g rfl).2
      clear hor hoa hbel hna hx hQ
      go_wp2_with fail
      refine (contains_any ao6 cap6 (ord l k) m x wr HL (by omega) HNa.out).mono ?_
      rintro e w' ⟨rfl, rfl⟩
      by_cases hm : x ∈ ord l k
      · have hR : decide (x ∈ ord l k) = true := by simpa using hm
        rw [hR]
        have hoe : ord l (k + 1) = ord l k := by simp only [ord, HX.out, hm, if_true]
        have HLo : Hid (m = (ord l (k + 1)).length) := by show _ = _; rw [hoe]; exact HL.out
        obtain ⟨m6, hm6⟩ : ∃ m6, m6 = m := ⟨_, rfl⟩
        obtain ⟨w6, hw6⟩ : ∃ w6, w6 = wr := ⟨_, rfl⟩
        rw [← hoe] at Ho6
        subst hm6
        subst hw6
        clear hR hoe hm
        have hm2 := HNa
        clear hm2 HNa
        obtain ⟨ao6', cap6', hve, hm3⟩ := nums_shape Ho6.out HLo.out
        simp only [Value.slice.injEq, true_and] at hve
        have hao : ao6 = ao6' := hve.1
        have HM2 : Hid (NumsAt w6 ao6 (ord l (k + 1))) := by rw [hao]; exact hm3
        clear hve hao hm3
        skip
        go_wp2_with fail
        refine (index_any _ cap6 (ord l (k + 1)) m6 x w6 HLo (by omega) HM2.out).mono ?_
        rintro e w' ⟨rfl, rfl⟩
        rw [Hfi.out]
        obtain ⟨u0, z0⟩ := own_some Ha6.out k (by omega)
        have zf0 := Ha6.out.frozenAt k
        have hst := (Ha6.out.stored k (.int .i64 (Q : Nat))).1
        rw [ns_set] at hst
        have hset : (npart (anL l) k).set k ((Q : Nat) : Int) = npart (anL l) (k + 1) := by
          rw [← npart_set (anL l) k (by rw [anL_length]; omega), anL_at l k hkl, HX.out, HQ.out]
        rw [hset] at hst
        have Hst := Lib.hid hst
        have Hos : Hid ((w6.setCell ⟨g, k, none⟩ (.int .i64 (Q : Nat))).ownsRow (g + 1) 3 1 (.slice ao6 m6 cap6) m6 (ns (ord l (k + 1)))) := Ho6.out.kept (grown_one w6 g k _) (by
          cases hv : (Value.slice ao6 m6 cap6).ownBlock with
          | none => exact .inl rfl
          | some bb => exact .inr (fun e => by have := (Ho6.out.lt bb hv).1; injection e with e; omega))
        have Hbs : Hid (Below w.heap.size w (w6.setCell ⟨g, k, none⟩ (.int .i64 (Q : Nat)))) := Hb6.out.setCell (p := ⟨g, k, none⟩) hgw _
        clear hst hset Ho6 Ha6 Hb6
        go_wp2_with fail
        go_roundw
        case rel => exact ⟨k + 1, m6, by omega, by go_num, HLo, Hos.out, Hst.out, Hbs.out⟩
        case measure => simp [intOf]; omega
      · have hR : decide (x ∈ ord l k) = false := by simpa using hm
        rw [hR]
        have hoe : ord l (k + 1) = ord l k ++ [x] := by simp only [ord, HX.out, hm, if_false]
        have HOE := Lib.hid hoe
        have bd : Below wr.heap.size wr (wr.alloc (.cells #[.int .i64 x] 3)) := (Below.refl wr.heap.size wr).alloc (Nat.le_refl _) _
        have Hrow7 := Lib.hid (own_later Ho6.out bd)
        have Ha7 := Lib.hid (own_later Ha6.out bd)
        have Hb7 := Lib.hid (Hb6.out.trans (bd.mono hsz))
        have hszW : (wr.alloc (.cells #[.int .i64 x] 3)).heap.size = wr.heap.size + 1 := by simp
        have hck : (wr.alloc (.cells #[.int .i64 x] 3)).cell? ⟨wr.heap.size, 0, none⟩ = some (.int .i64 x) := by rw [cell_of_row _ _ _ _ _ _ (heap_alloc_new wr _)]; rfl
        have Hck := Lib.hid hck
        clear hR hoe hm bd hck Ho6 Ha6 Hb6
        go_wp2_with (at_builtin; refine push_num _ rfl _ _ 22 rfl (g + 1) i3 Try.underlying22 hi3 hz30 hz31 hz32 (.slice ao6 m cap6) (ord l k) m rfl Hrow7.out (by omega) x 1 wr.heap.size rfl Hck.out (by rw [hszW]; omega) ?_)
        intro g9 cap9 w6 own9 hgr9 hat9
        rw [← HOE.out] at own9
        have hlow : ∀ bb, (Value.slice ao6 m cap6).ownBlock = some bb → g + 1 ≤ bb := fun bb hb => (Hrow7.out.lt bb hb).1
        have Ha6 := Lib.hid (Ha7.out.kept hgr9 (.inr (fun h => by have := hlow g h.symm; omega)))
        have Hb6 := Lib.hid (Hb7.out.grown hgr9 (by rw [hszW]; omega) (fun bb hb => by have := hlow bb hb; omega))
        have Ho6 := Lib.hid own9
        have HLo : Hid (m + 1 = (ord l (k + 1)).length) := by show _ = _; rw [HOE.out, List.length_append, ← HL.out]; rfl
        clear own9 hgr9 hat9 hlow Hrow7 Ha7 Hb7 HNa
        have hm2 := nums_at Ho6.out HLo.out
        have HM2 := Lib.hid hm2
        clear hm2
        go_wp2_with fail
        refine (index_any _ cap9 (ord l (k + 1)) (m + 1) x w6 HLo (by omega) HM2.out).mono ?_
        rintro e w' ⟨rfl, rfl⟩
        rw [Hfi.out]
        obtain ⟨u0, z0⟩ := own_some Ha6.out k (by omega)
        have zf0 := Ha6.out.frozenAt k
        have hst := (Ha6.out.stored k (.int .i64 (Q : Nat))).1
        rw [ns_set] at hst
        have hset : (npart (anL l) k).set k ((Q : Nat) : Int) = npart (anL l) (k + 1) := by
          rw [← npart_set (anL l) k (by rw [anL_length]; omega), anL_at l k hkl, HX.out, HQ.out]
        rw [hset] at hst
        have Hst := Lib.hid hst
        have Hos : Hid ((w6.setCell ⟨g, k, none⟩ (.int .i64 (Q : Nat))).ownsRow (g + 1) 3 1 (.slice (some ⟨g9, 0, none⟩) (m + 1) cap9) (m + 1) (ns (ord l (k + 1)))) := Ho6.out.kept (grown_one w6 g k _) (by
          cases hv : (Value.slice (some ⟨g9, 0, none⟩) (m + 1) cap9).ownBlock with
          | none => exact .inl rfl
          | some bb => exact .inr (fun e => by have := (Ho6.out.lt bb hv).1; injection e with e; omega))
        have Hbs : Hid (Below w.heap.size w (w6.setCell ⟨g, k, none⟩ (.int .i64 (Q : Nat)))) := Hb6.out.setCell (p := ⟨g, k, none⟩) hgw _
        clear hst hset Ho6 Ha6 Hb6
        go_wp2_with fail
        go_roundw
        case rel => exact ⟨k + 1, m + 1, by omega, by go_num, HLo, Hos.out, Hst.out, Hbs.out⟩
        case measure => simp [intOf]; omega
    · obtain rfl : k = n := by omega
      have hpe : npart (anL l) k = anL l := by
        have h2 : k = (anL l).length := by rw [anL_length]; exact Hn.out
        rw [h2]; exact npart_all _
      rw [hpe] at hoa
      have Hoa := Lib.hid hoa
      clear hoa hpe hor
      go_wp2_with fail
      go_ret
      refine ⟨_, rfl, ?_, hbel⟩
      rw [← Hg0.out]
      exact Hoa.out

end Go.Proofs.Ytoaobdeigangfaa
