/- PassedOn: the program. -/
import Derived.Test.YtaangjidkkpogaaDoorPo
import Derived.Test.YtaangjidkkpogaaDoorNr
import Derived.Test.YtaangjidkkpogaaDoorFit
namespace Go.Proofs.YtaangjidkkpogaaDoor
open Go.ChangeShapes Go.WideShapes Go.ChangeAt Go.RowKit Go.Conc
set_option linter.unusedVariables false


set_option maxHeartbeats 1600000 in
set_option maxRecDepth 20000 in
theorem implPO_go (w : World) (s : ByteArray) (hs : s.size ≤ 1048576) (ao : Option Addr) (cap : Nat) (l : List Int) (n : Nat) (b : Bool) (Hn : Hid (n = l.length)) (hn : n ≤ 1048576) (hc : NumsAt w ao l) (hca : castB s = true) (hpa : pathB s.size l = true) :
    Calls Tryd.prog 19 #[.string s, .slice ao n cap, .bool b] w fun e w' => e = .returned (.tuple #[.bool (pv (cOf s) l b l.length), .bool true]) ∧ Below w.heap.size w w' := by
  have HC := Lib.hid (fun w => isCast_any s w hs)
  rw [hca] at HC
  have HA := Lib.hid hc
  have HPt := Lib.hid (fun w (h : NumsAt w ao l) => isPath_any ao cap s.size l n w Hn hn h)
  rw [hpa] at HPt
  obtain ⟨hsc, hlen, hz1, hz8⟩ := cast_of hca
  have Hin := Lib.hid (path_at hpa).2
  have HH := Lib.hid (fun (u : Nat) w (h : (u : Int) < (s.size : Int)) => isHonest_any (cOf s) u w (by omega) (by omega))
  rw [← hsc] at HH
  obtain ⟨R, hR⟩ : ∃ R, pv (cOf s) l b l.length = R := ⟨_, rfl⟩
  rw [hR]
  have HR := Lib.hid hR
  have HPV : Hid (∀ k, pv (cOf s) l b (k + 1) = (pv (cOf s) l b k == hon (cOf s) (na l k))) := Lib.hid fun k => rfl
  obtain ⟨z, hz⟩ : ∃ z, s.size = z := ⟨_, rfl⟩
  rw [hz] at HPt Hin HH hz8 hz1
  clear hc hca hpa hR hsc hlen
  go_enter Tryd.func19, Tryd.ntmps19
  go_wp2_with fail
  refine (HC.out _).mono ?_
  rintro e w1 ⟨rfl, hb1⟩
  have Hb1 := Lib.hid hb1
  clear hb1
  go_wp2_with fail
  refine (HPt.out _ (HA.out.kept Hb1.out)).mono ?_
  rintro e w' ⟨rfl, rfl⟩
  go_wp2_with fail
  refine (newRumor_any _).mono ?_
  rintro e w2 ⟨c0, c1, rfl, hne, hc0, hc1, hem, hb2⟩
  have hs1 := Hb1.out.size
  have hB0 : w.heap.size ≤ c0 := by omega
  have hB1 : w.heap.size ≤ c1 := by omega
  have hl0 : c0 < w2.heap.size := by obtain ⟨_, _, _, _, h, _⟩ := hem; exact lt_of_heap h
  have hl1 : c1 < w2.heap.size := by obtain ⟨_, _, _, _, _, h⟩ := hem; exact lt_of_heap h
  have hb2' := Hb1.out.trans (hb2.mono hs1)
  have hs2 := hb2'.size
  obtain ⟨g, hg⟩ : ∃ g, w2.heap.size = g := ⟨_, rfl⟩
  have hgn : (w2.alloc (.cells #[.chan (some c0), .chan (some c1)] 59)).heap[g]? = some (.cells #[.chan (some c0), .chan (some c1)] 59) := by rw [← hg]; exact heap_alloc_new w2 _
  have Hem3 : Hid (Emp (w2.alloc (.cells #[.chan (some c0), .chan (some c1)] 59)) c0 c1) := by
    obtain ⟨s1, r1, s2, r2, e1, e2⟩ := hem
    exact ⟨s1, r1, s2, r2, (Below.heap_alloc _ _ _ hl0).trans e1, (Below.heap_alloc _ _ _ hl1).trans e2⟩
  have Hb3 := Lib.hid (hb2'.alloc hs2 (.cells #[.chan (some c0), .chan (some c1)] 59))
  have hq0 : (w2.alloc (.cells #[.chan (some c0), .chan (some c1)] 59)).cell? ⟨g, 0, none⟩ = some (.chan (some c0)) := cell_of_row _ g 0 _ _ _ hgn
  have hq1 : (w2.alloc (.cells #[.chan (some c0), .chan (some c1)] 59)).cell? ⟨g, 1, none⟩ = some (.chan (some c1)) := cell_of_row _ g 1 _ _ _ hgn
  have Hgn := Lib.hid hgn
  have hg0 : g ≠ c0 := by omega
  have hg1 : g ≠ c1 := by omega
  have hgs : g < (w2.alloc (.cells #[.chan (some c0), .chan (some c1)] 59)).heap.size := by simp; omega
  have hsz3 : w.heap.size ≤ (w2.alloc (.cells #[.chan (some c0), .chan (some c1)] 59)).heap.size := by simp; omega
  clear hem hb2 hb2' hgn hc0 hc1 hl0 hl1
  go_wp2_with fail
  refine (tell_any w.heap.size c0 c1 b _ hne hsz3 hB0 hB1 Hem3.out).mono ?_
  rintro e w4 ⟨rfl, hf4, hk4, hb4⟩
  have Hf4 := Lib.hid hf4
  have Hg4 := Lib.hid ((hk4.2 g hgs hg0 hg1).trans Hgn.out)
  have Hb4 := Lib.hid (Hb3.out.trans hb4)
  clear hf4 hk4 hb4 hq0 hq1 hsz3 hgs
  go_wp2_with fail
  go_loopw [27] (fun i wr => ∃ k : Nat, k ≤ n ∧ i = .int .i64 k ∧ Ful wr c0 c1 (pv (cOf s) l b k) ∧ wr.heap[g]? = some (.cells #[.chan (some c0), .chan (some c1)] 59) ∧ Below w.heap.size w wr) (fun i _ => n - (intOf i).toNat)
  case atStart => exact ⟨0, Nat.zero_le _, rfl, Hf4.out, Hg4.out, Hb4.out⟩
  case round =>
    obtain ⟨k, hk, rfl, hful, hgr, hbel⟩ := hrel
    have hsz := hbel.size
    have Hbel := Lib.hid hbel
    have Hgr := Lib.hid hgr
    have hq0 : wr.cell? ⟨g, 0, none⟩ = some (.chan (some c0)) := cell_of_row _ g 0 _ _ _ hgr
    have hq1 : wr.cell? ⟨g, 1, none⟩ = some (.chan (some c1)) := cell_of_row _ g 1 _ _ _ hgr
    have hgs : g < wr.heap.size := lt_of_heap hgr
    have HF := Lib.hid hful
    clear hful hgr
    by_cases hlt : k < n
    · obtain ⟨bb, off, rfl, hcell⟩ : ∃ b off, ao = some ⟨b, off, none⟩ ∧ ∀ i, i < l.length → w.cell? ⟨b, off + i, none⟩ = some (.int .i64 (na l i)) := by
        rcases HA.out with h | h
        · have := Hn.out; rw [h] at this; simp at this; omega
        · exact h
      have hin := Hin.out k (by rw [← Hn.out]; exact hlt)
      obtain ⟨u, eu⟩ := Int.eq_ofNat_of_zero_le hin.1
      have hcu : wr.cell? ⟨bb, off + k, none⟩ = some (.int .i64 (u : Nat)) := by
        have h := hcell k (by rw [← Hn.out]; exact hlt)
        rw [eu] at h
        exact (hbel.cell (World.block_lt_of_cell? _ _ h)).trans h
      have HU := Lib.hid (fun w => HH.out u w (by rw [← eu]; exact hin.2))
      have hpv := HPV.out k
      rw [eu] at hpv
      have Hpv := Lib.hid hpv
      obtain ⟨x, hx⟩ : ∃ x, pv (cOf s) l b k = x := ⟨_, rfl⟩
      obtain ⟨y, hy⟩ : ∃ y, hon (cOf s) (u : Nat) = y := ⟨_, rfl⟩
      rw [hx] at HF Hpv
      rw [hy] at HU Hpv
      have hb0 : (0 : Int) ≤ k := by omega
      have hb1 : (k : Int) < n := by omega
      clear hcell hin eu hpv hx hy hbel
      go_wp2_with fail
      go_region_with (first
        | (go_at_call 41; refine (hear_any w.heap.size c0 c1 x wr.drew hne hsz hB0 hB1 HF.out).mono ?_; rintro e w5 ⟨rfl, he5, hk5, hb5⟩; have HE5 := Lib.hid he5; have Hb5 := Lib.hid (Hbel.out.drew.trans hb5); have Hg5 := Lib.hid ((hk5.2 g hgs hg0 hg1).trans Hgr.out); have p0 := cell_of_row _ g 0 _ _ _ Hg5.out; have p1 := cell_of_row _ g 1 _ _ _ Hg5.out; have hsz5 : w.heap.size ≤ w5.heap.size := Hb5.out.size; have hgs5 := lt_of_heap Hg5.out; simp only [List.getElem?_toArray, List.getElem?_cons_zero, List.getElem?_cons_succ] at p0 p1; clear he5 hk5 hb5)
        | (go_at_call 42; refine (HU.out _).mono ?_; rintro e w6 ⟨rfl, rfl⟩)
        | (go_at_call 40; refine (tell_any w.heap.size c0 c1 (x == y) w6 hne hsz5 hB0 hB1 HE5.out).mono ?_; rintro e w7 ⟨rfl, hf7, hk7, hb7⟩; have HF7 := Lib.hid hf7; have Hb7 := Lib.hid (Hb5.out.trans hb7); have Hg7 := Lib.hid ((hk7.2 g hgs5 hg0 hg1).trans Hg5.out); clear hf7 hk7 hb7)
        | (go_at_call 40; refine (tell_any w.heap.size c0 c1 (x == y) w5 hne hsz5 hB0 hB1 HE5.out).mono ?_; rintro e w7 ⟨rfl, hf7, hk7, hb7⟩; have HF7 := Lib.hid hf7; have Hb7 := Lib.hid (Hb5.out.trans hb7); have Hg7 := Lib.hid ((hk7.2 g hgs5 hg0 hg1).trans Hg5.out); clear hf7 hk7 hb7))
      all_goals go_wp2_with fail
      all_goals go_roundw
      all_goals first
        | exact ⟨k + 1, by omega, by go_num, by rw [Hpv.out]; exact HF7.out, Hg7.out, Hb7.out⟩
        | (simp [intOf]; omega)
    · obtain rfl : k = n := by omega
      have e : pv (cOf s) l b k = R := by rw [Hn.out]; exact HR.out
      rw [e] at HF
      clear e hlt hk hbel
      go_wp2_with fail
      refine (hear_any w.heap.size c0 c1 R _ hne hsz hB0 hB1 HF.out).mono ?_
      rintro e w5 ⟨rfl, _, _, hb5⟩
      have Hb5 := Lib.hid (Hbel.out.trans hb5)
      clear hb5
      go_wp2_with fail
      go_ret2
      exact ⟨rfl, Hb5.out⟩
theorem implPO_any (w : World) (s : ByteArray) (hs : s.size ≤ 1048576) (ao : Option Addr) (cap : Nat) (l : List Int) (n : Nat) (b : Bool) (Hn : Hid (n = l.length)) (hn : n ≤ 1048576) (hc : NumsAt w ao l) :
    Calls Tryd.prog 19 #[.string s, .slice ao n cap, .bool b] w fun e w' => e = .returned (.tuple #[.bool (poR s l b), .bool (poB s l b)]) ∧ Below w.heap.size w w' := by
  have HC := Lib.hid (fun w => isCast_any s w hs)
  have HPt := Lib.hid (fun w (h : NumsAt w ao l) => isPath_any ao cap s.size l n w Hn hn h)
  have HA := Lib.hid hc
  cases hca : castB s
  · have hb : poB s l b = false := by simp [poB, hca]
    rw [po_no hb, hb]
    rw [hca] at HC
    clear hb hca hc
    go_enter Tryd.func19, Tryd.ntmps19
    go_wp2_with fail
    refine (HC.out _).mono ?_
    rintro e w1 ⟨rfl, hb1⟩
    go_wp2_with fail
    go_ret2
    exact ⟨rfl, hb1⟩
  · cases hpa : pathB s.size l
    · have hb : poB s l b = false := by simp [poB, hpa]
      rw [po_no hb, hb]
      rw [hca] at HC
      rw [hpa] at HPt
      obtain ⟨z, hz⟩ : ∃ z, s.size = z := ⟨_, rfl⟩
      rw [hz] at HPt
      clear hb hca hpa hc
      go_enter Tryd.func19, Tryd.ntmps19
      go_wp2_with fail
      refine (HC.out _).mono ?_
      rintro e w1 ⟨rfl, hb1⟩
      have Hb1 := Lib.hid hb1
      clear hb1
      go_wp2_with fail
      refine (HPt.out _ (HA.out.kept Hb1.out)).mono ?_
      rintro e w' ⟨rfl, rfl⟩
      go_wp2_with fail
      go_ret2
      exact ⟨rfl, Hb1.out⟩
    · have hb : poB s l b = true := by simp [poB, hca, hpa]
      rw [po_yes hb, hb]
      exact implPO_go w s hs ao cap l n b Hn hn hc hca hpa

end Go.Proofs.YtaangjidkkpogaaDoor
