/- PassedOn: the model. -/
import Derived.Test.YtaangjidkkpogaaDoorPo
import Derived.Test.YtaangjidkkpogaaDoorFit
namespace Go.Proofs.YtaangjidkkpogaaDoor
open Go.ChangeShapes Go.WideShapes Go.ChangeAt Go.RowKit
set_option linter.unusedVariables false


def inV (lo hi : Int) (v : Nat → Int) (k : Nat) : Bool := (List.range k).all fun i => decide (lo ≤ v i ∧ v i ≤ hi)
set_option maxRecDepth 20000 in
theorem l1All_pos (b off cap : Nat) (v : Nat → Int) (n : Nat) (lo hi : Int) (w : World) (hn : n ≤ 1048576)
    (Hc : Hid (∀ i, i < n → w.cell? ⟨b, off + i, none⟩ = some (.int .i64 (v i)))) :
    Calls Tryd.prog 37 #[.slice (some ⟨b, off, none⟩) n cap, .int .i64 lo, .int .i64 hi] w fun e w' => e = .returned (.bool (inV lo hi v n)) ∧ w = w' := by
  go_enter Tryd.func37, Tryd.ntmps37
  go_wp2_with fail
  go_loop [11] (fun i => ∃ k : Nat, k ≤ n ∧ i = .int .i64 k ∧ Hid (∀ j, j < k → decide (lo ≤ v j ∧ v j ≤ hi) = true)) (fun i => n - (intOf i).toNat)
  case atStart => exact ⟨0, Nat.zero_le _, rfl, fun j hj => absurd hj (by omega)⟩
  case round =>
    obtain ⟨k, hk, rfl, hall⟩ := hrel
    by_cases hlt : k < n
    · have h0 := Hc.out k hlt
      go_wp2_with fail
      refine (l1In_any (v k) lo hi w).mono ?_
      rintro e w' ⟨rfl, rfl⟩
      cases ht : decide (lo ≤ v k ∧ v k ≤ hi)
      · have hno : inV lo hi v n = false := by
          unfold inV
          rw [List.all_eq_false]
          exact ⟨k, List.mem_range.2 hlt, by simp [ht]⟩
        have Hno := Lib.hid hno
        clear hno ht
        go_wp2_with fail
        go_ret
        exact ⟨ret_bool Hno.out.symm, rfl⟩
      · have hall2 : Hid (∀ j, j < k + 1 → decide (lo ≤ v j ∧ v j ≤ hi) = true) := by
          intro j hj
          by_cases hjk : j = k
          · subst hjk; exact ht
          · exact hall.out j (by omega)
        clear ht
        go_wp2_with fail
        go_round
        case rel => exact ⟨k + 1, by omega, by go_num, hall2⟩
        case measure => simp [intOf]; omega
    · obtain rfl : k = n := by omega
      have hyes : inV lo hi v k = true := by
        unfold inV
        rw [List.all_eq_true]
        exact fun j hj => hall.out j (List.mem_range.1 hj)
      have Hyes := Lib.hid hyes
      clear hyes
      go_wp2_with fail
      go_ret
      exact ⟨ret_bool Hyes.out.symm, rfl⟩

theorem inV_path (f : Int) (l : List Int) (h : l.length ≤ 30) : inV 0 (f - 1) (na l) l.length = pathB f l := by
  have e : ∀ x : Int, decide (0 ≤ x ∧ x ≤ f - 1) = inF f x := fun x => by
    unfold inF
    by_cases h1 : 0 ≤ x ∧ x < f
    · rw [decide_eq_true h1, decide_eq_true (by omega)]
    · rw [decide_eq_false h1, decide_eq_false (by omega)]
  rw [pathB, decide_eq_true h, Bool.true_and]
  unfold inV
  congr 1
  funext i
  exact e _
theorem l1P_any (ao : Option Addr) (cap : Nat) (f : Int) (l : List Int) (n : Nat) (w : World) (Hn : Hid (n = l.length)) (hn : n ≤ 30) (hc : NumsAt w ao l) :
    Calls Tryd.prog 37 #[.slice ao n cap, .int .i64 0, .int .i64 (f - 1)] w fun e w' => e = .returned (.bool (pathB f l)) ∧ w = w' := by
  rcases hc with rfl | ⟨b, off, rfl, hc⟩
  · obtain rfl : n = 0 := Hn.out
    have e : pathB f [] = true := rfl
    rw [e]
    go_enter Tryd.func37, Tryd.ntmps37
    go_wp2_with fail
    go_rounds 1
    go_ret
    exact ⟨rfl, rfl⟩
  · have h := l1All_pos b off cap (na l) n 0 (f - 1) w (by omega) (by rw [Hn.out]; exact hc)
    rw [show inV 0 (f - 1) (na l) n = pathB f l by rw [Hn.out]; exact inV_path f l (by rw [← Hn.out]; exact hn)] at h
    exact h
set_option maxHeartbeats 400000 in
set_option maxRecDepth 20000 in
theorem specPO_go (w : World) (s : ByteArray) (hs : s.size ≤ 1048576) (ao : Option Addr) (cap : Nat) (l : List Int) (n : Nat) (b : Bool) (Hn : Hid (n = l.length)) (hn : n ≤ 30) (hc : NumsAt w ao l) (hca : castB s = true) (hpa : pathB s.size l = true) :
    Calls Tryd.prog 17 #[.string s, .slice ao n cap, .bool b] w fun e w' => e = .returned (.tuple #[.bool (pv (cOf s) l b l.length), .bool true]) ∧ Below w.heap.size w w' := by
  have HC := Lib.hid (fun w => liCast_any s w hs)
  rw [hca] at HC
  have HA := Lib.hid hc
  have HPt := Lib.hid (fun w (h : NumsAt w ao l) => l1P_any ao cap s.size l n w Hn hn h)
  rw [hpa] at HPt
  obtain ⟨hsc, hlen, hz1, hz8⟩ := cast_of hca
  have Hin := Lib.hid (path_at hpa).2
  have HX := Lib.hid (fun (x : Int) (h : 0 ≤ x ∧ x < (s.size : Int)) => idx_c (cOf s) x h.1 (by omega))
  rw [← hsc] at HX
  obtain ⟨R, hR⟩ : ∃ R, pv (cOf s) l b l.length = R := ⟨_, rfl⟩
  rw [hR]
  have HR := Lib.hid hR
  have HPV : Hid (∀ k, pv (cOf s) l b (k + 1) = (pv (cOf s) l b k == hon (cOf s) (na l k))) := Lib.hid fun k => rfl
  obtain ⟨z, hz⟩ : ∃ z, s.size = z := ⟨_, rfl⟩
  rw [hz] at HPt Hin HX hz8 hz1
  have hI30 : ¬ (30 : Int) < (n : Int) := by omega
  clear hc hca hpa hR hsc hlen
  go_enter Tryd.func17, Tryd.ntmps17
  go_wp2_with fail
  refine (HC.out _).mono ?_
  rintro e w1 ⟨rfl, hb1⟩
  have Hb1 := Lib.hid hb1
  clear hb1
  go_wp2_with fail
  refine (HPt.out _ (HA.out.kept Hb1.out)).mono ?_
  rintro e w' ⟨rfl, rfl⟩
  go_wp2_with fail
  go_loopw [2, 28] (fun v i wr => ∃ k : Nat, k ≤ n ∧ i = .int .i64 k ∧ v = .bool (pv (cOf s) l b k) ∧ wr = w1) (fun _ i _ => n - (intOf i).toNat)
  case atStart => exact ⟨0, Nat.zero_le _, rfl, rfl, rfl⟩
  case round =>
    obtain ⟨k, hk, rfl, rfl, rfl⟩ := hrel
    by_cases hlt : k < n
    · obtain ⟨bb, off, rfl, hcell⟩ : ∃ b off, ao = some ⟨b, off, none⟩ ∧ ∀ i, i < l.length → w.cell? ⟨b, off + i, none⟩ = some (.int .i64 (na l i)) := by
        rcases HA.out with h | h
        · have := Hn.out; rw [h] at this; simp at this; omega
        · exact h
      have hin := Hin.out k (by rw [← Hn.out]; exact hlt)
      obtain ⟨y, _, hy8, hix⟩ := HX.out (na l k) hin
      have hcu : wr.cell? ⟨bb, off + k, none⟩ = some (.int .i64 (na l k)) := by
        have h := hcell k (by rw [← Hn.out]; exact hlt)
        exact (Hb1.out.cell (World.block_lt_of_cell? _ _ h)).trans h
      have hpv := HPV.out k
      obtain ⟨u, hu⟩ : ∃ u, na l k = u := ⟨_, rfl⟩
      rw [hu] at hin hy8 hix hcu hpv
      obtain ⟨x, hx⟩ : ∃ x, pv (cOf s) l b k = x := ⟨_, rfl⟩
      rw [hx] at hpv ⊢
      have hb0 : (0 : Int) ≤ k := by omega
      have hb1 : (k : Int) < n := by omega
      cases hh : hon (cOf s) u
      · rw [hh] at hpv hy8
        simp only [Bool.not_false] at hy8
        have Hpv := Lib.hid hpv
        clear hcell hin hpv hx hu hh
        go_wp2_with fail
        go_roundw
        case rel => exact ⟨k + 1, by omega, by go_num, by rw [Hpv.out]; cases x <;> rfl, by first | rfl | trivial⟩
        case measure => simp [intOf]; omega
      · rw [hh] at hpv hy8
        simp only [Bool.not_true] at hy8
        have Hpv := Lib.hid hpv
        clear hcell hin hpv hx hu hh
        go_wp2_with fail
        go_roundw
        case rel => exact ⟨k + 1, by omega, by go_num, by rw [Hpv.out]; cases x <;> rfl, by first | rfl | trivial⟩
        case measure => simp [intOf]; omega
    · obtain rfl : k = n := by omega
      have e : pv (cOf s) l b k = R := by rw [Hn.out]; exact HR.out
      rw [e]
      clear e hlt hk
      go_wp2_with fail
      go_ret2
      exact ⟨rfl, Hb1.out⟩
theorem specPO_any (w : World) (s : ByteArray) (hs : s.size ≤ 1048576) (ao : Option Addr) (cap : Nat) (l : List Int) (n : Nat) (b : Bool) (Hn : Hid (n = l.length)) (hn : n ≤ 1048576) (hc : NumsAt w ao l) :
    Calls Tryd.prog 17 #[.string s, .slice ao n cap, .bool b] w fun e w' => e = .returned (.tuple #[.bool (poR s l b), .bool (poB s l b)]) ∧ Below w.heap.size w w' := by
  have HC := Lib.hid (fun w => liCast_any s w hs)
  have HA := Lib.hid hc
  cases hca : castB s
  · have hb : poB s l b = false := by simp [poB, hca]
    rw [po_no hb, hb]
    rw [hca] at HC
    clear hb hca hc
    go_enter Tryd.func17, Tryd.ntmps17
    go_wp2_with fail
    refine (HC.out _).mono ?_
    rintro e w1 ⟨rfl, hb1⟩
    go_wp2_with fail
    go_ret2
    exact ⟨rfl, hb1⟩
  · by_cases h30 : n ≤ 30
    · have HPt := Lib.hid (fun w (h : NumsAt w ao l) => l1P_any ao cap s.size l n w Hn h30 h)
      cases hpa : pathB s.size l
      · have hb : poB s l b = false := by simp [poB, hpa]
        rw [po_no hb, hb]
        rw [hca] at HC
        rw [hpa] at HPt
        obtain ⟨hsc, hlen, hz1, hz8⟩ := cast_of hca
        obtain ⟨z, hz⟩ : ∃ z, s.size = z := ⟨_, rfl⟩
        rw [hz] at HPt hz8 hz1
        have hI30 : ¬ (30 : Int) < (n : Int) := by omega
        clear hb hca hpa hc hsc hlen
        go_enter Tryd.func17, Tryd.ntmps17
        go_wp2_with fail
        refine (HC.out _).mono ?_
        rintro e w1 ⟨rfl, hb1⟩
        have Hb1 := Lib.hid hb1
        clear hb1
        go_wp2_with fail
        refine (HPt.out _ (HA.out.kept Hb1.out)).mono ?_
        rintro e w' ⟨rfl, rfl⟩
        go_wp2_with fail
        go_ret2
        exact ⟨rfl, Hb1.out⟩
      · have hb : poB s l b = true := by simp [poB, hca, hpa]
        rw [po_yes hb, hb]
        exact specPO_go w s hs ao cap l n b Hn h30 hc hca hpa
    · have hb : poB s l b = false := by
        have : pathB s.size l = false := by rw [pathB, decide_eq_false (by rw [← Hn.out]; exact h30), Bool.false_and]
        simp [poB, this]
      rw [po_no hb, hb]
      rw [hca] at HC
      have hI30 : (30 : Int) < (n : Int) := by omega
      clear hb hca hc
      go_enter Tryd.func17, Tryd.ntmps17
      go_wp2_with fail
      refine (HC.out _).mono ?_
      rintro e w1 ⟨rfl, hb1⟩
      go_wp2_with fail
      go_ret2
      exact ⟨rfl, hb1⟩

end Go.Proofs.YtaangjidkkpogaaDoor
