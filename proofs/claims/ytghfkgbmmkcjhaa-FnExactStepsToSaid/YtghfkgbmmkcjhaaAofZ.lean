/- The arrivals of sends, whatever they are. -/
import Derived.Test.YtghfkgbmmkcjhaaAof
namespace Go.Proofs.Ytghfkgbmmkcjhaa
open Go.ChangeShapes Go.WideShapes Go.ChangeAt Go.RowKit
set_option linter.unusedVariables false


set_option maxHeartbeats 2000000 in
set_option maxRecDepth 20000 in
theorem aof_z (w : World) (d P : Int) (ao : Option Addr) (cap : Nat) (l : List Snd) (n : Nat) (Hn0 : Hid (n = 0)) (Hn : Hid (n = l.length)) (hn : n ≤ 1048576) (hcap : n ≤ cap) (hc : SendsAt w ao l) :
    Calls Try.prog 65 #[.int .i64 d, .int .i64 P, .slice ao n cap] w fun e w' => ∃ F : Int → Int, e = .returned (.tuple #[.agg (AA F), .bool (arsB d P l)]) ∧ (arsB d P l = true → ∀ x, F x = fillA d befA l x) ∧ Below w.heap.size w w' := by
  have HC := Lib.hid hc
  clear hc
  have HZ0 : Hid ((w.alloc (.cells ZA 57)).heap[w.heap.size]? = some (.cells ZA 57 (0, 0))) := heap_alloc_new w _
  have HB0 : Hid (Below w.heap.size w (w.alloc (.cells ZA 57))) := (Below.refl _ _).alloc (Nat.le_refl _) _
  rw [ZA_eq] at HZ0 HB0
  cases hA : deB d
  · have hR : arsB d P l = false := by simp [arsB, hA]
    rw [hR]
    have HA := Lib.hid hA
    clear hA hR
    go_enter Try.func65, Try.ntmps65
    go_wp2_with fail
    refine (isDelay_any _ _).mono ?_
    rintro e w' ⟨rfl, rfl⟩
    rw [HA.out]
    go_upto_region 2 with (fail)
    go_wp2_with (with_reducible refine wpList_store_row rfl 57 (.tmp 6) (.tmp 23) rfl w.heap.size #[.int .i64 0, .int .i64 0, .int .i64 0, .int .i64 0, .int .i64 0, .int .i64 0, .int .i64 0, .int .i64 0, .int .i64 0, .int .i64 0, .int .i64 0, .int .i64 0, .int .i64 0, .int .i64 0, .int .i64 0, .int .i64 0, .int .i64 0, .int .i64 0, .int .i64 0, .int .i64 0, .int .i64 0, .int .i64 0, .int .i64 0, .int .i64 0, .int .i64 0, .int .i64 0, .int .i64 0, .int .i64 0, .int .i64 0, .int .i64 0, .int .i64 0, .int .i64 0, .int .i64 0, .int .i64 0, .int .i64 0, .int .i64 0, .int .i64 0, .int .i64 0, .int .i64 0, .int .i64 0] ?_ ?_ 57 _ HZ0.out ?_ ?_ ?_ ?_)
    try any_goals first | exact zero_one | exact infoA2 | (show (AA fun _ => 0).size = _; rw [AA_size]; rfl) | rfl
    first
      | (refine bodyPost_ret (results_row_tmp rfl _ _ w.heap.size 57 _ (0, 0) _ rfl (setRow_heap _ _ _ _ _ _ HZ0.out) Try.underlying57 ⟨_, _, rfl⟩ (by rw [infoA]; rfl)) rfl ?_; exact ⟨fun _ => 0, by rw [← ZA_eq]; rfl, (fun h => by cases h), below_setRow HB0.out (Nat.le_refl _) _⟩)
      | (refine bodyPost_ret (results_row_tmp rfl _ _ w.heap.size 57 _ (0, 0) _ rfl HZ0.out Try.underlying57 ⟨_, _, rfl⟩ (by rw [infoA]; rfl)) rfl ?_; exact ⟨fun _ => 0, by rw [← ZA_eq]; rfl, (fun h => by cases h), HB0.out⟩)
  · cases hB : peB P
    · have hR : arsB d P l = false := by simp [arsB, hB]
      rw [hR]
      have HA := Lib.hid hA
      have HB := Lib.hid hB
      clear hA hB hR
      go_enter Try.func65, Try.ntmps65
      go_wp2_with fail
      refine (isDelay_any _ _).mono ?_
      rintro e w' ⟨rfl, rfl⟩
      rw [HA.out]
      go_wp2_with fail
      refine (canBePeople_any _ _).mono ?_
      rintro e w' ⟨rfl, rfl⟩
      rw [HB.out]
      go_upto_region 2 with (fail)
      go_wp2_with (with_reducible refine wpList_store_row rfl 57 (.tmp 6) (.tmp 23) rfl w.heap.size #[.int .i64 0, .int .i64 0, .int .i64 0, .int .i64 0, .int .i64 0, .int .i64 0, .int .i64 0, .int .i64 0, .int .i64 0, .int .i64 0, .int .i64 0, .int .i64 0, .int .i64 0, .int .i64 0, .int .i64 0, .int .i64 0, .int .i64 0, .int .i64 0, .int .i64 0, .int .i64 0, .int .i64 0, .int .i64 0, .int .i64 0, .int .i64 0, .int .i64 0, .int .i64 0, .int .i64 0, .int .i64 0, .int .i64 0, .int .i64 0, .int .i64 0, .int .i64 0, .int .i64 0, .int .i64 0, .int .i64 0, .int .i64 0, .int .i64 0, .int .i64 0, .int .i64 0, .int .i64 0] ?_ ?_ 57 _ HZ0.out ?_ ?_ ?_ ?_)
      try any_goals first | exact zero_one | exact infoA2 | (show (AA fun _ => 0).size = _; rw [AA_size]; rfl) | rfl
      first
        | (refine bodyPost_ret (results_row_tmp rfl _ _ w.heap.size 57 _ (0, 0) _ rfl (setRow_heap _ _ _ _ _ _ HZ0.out) Try.underlying57 ⟨_, _, rfl⟩ (by rw [infoA]; rfl)) rfl ?_; exact ⟨fun _ => 0, by rw [← ZA_eq]; rfl, (fun h => by cases h), below_setRow HB0.out (Nat.le_refl _) _⟩)
        | (refine bodyPost_ret (results_row_tmp rfl _ _ w.heap.size 57 _ (0, 0) _ rfl HZ0.out Try.underlying57 ⟨_, _, rfl⟩ (by rw [infoA]; rfl)) rfl ?_; exact ⟨fun _ => 0, by rw [← ZA_eq]; rfl, (fun h => by cases h), HB0.out⟩)
    · by_cases h40 : n ≤ 40
      · have hRR : arsB d P l = arB d P l := by simp [arsB, hA, hB]
        rw [hRR]
        have HA := Lib.hid hA
        have HB := Lib.hid hB
        obtain ⟨D, hD, hD1, hD10⟩ := de_in hA
        obtain ⟨N, hN, hN1, hN40⟩ := pe_in hB
        have hdd : 1 ≤ d ∧ d ≤ 10 := by omega
        have hP40 : P ≤ 40 := by omega
        have hgt : decide ((n : Int) > 40) = false := by simp; omega
        have h40l : l.length ≤ 40 := by rw [← Hn.out]; exact h40
        clear hA hB hRR hD hN hD1 hD10 hN1 hN40
        obtain ⟨r, Hr⟩ : ∃ r : Bool, Hid (r = arB d P l) := ⟨_, Lib.hid rfl⟩
        rw [← Hr.out]
        go_enter Try.func65, Try.ntmps65
        go_wp2_with fail
        refine (isDelay_any _ _).mono ?_
        rintro e w' ⟨rfl, rfl⟩
        rw [HA.out]
        go_wp2_with fail
        refine (canBePeople_any _ _).mono ?_
        rintro e w' ⟨rfl, rfl⟩
        rw [HB.out]
        go_wp2_with fail
        go_loopw [26] (fun i wr => ∃ k : Nat, k ≤ n ∧ i = .int .i64 k ∧ Hid (∀ q, q < k → okB P l q = true) ∧ Hid (wr.heap[w.heap.size]? = some (.cells ZA 57 (0, 0))) ∧ Below w.heap.size w wr) (fun i _ => n - (intOf i).toNat)
        case atStart => exact ⟨0, Nat.zero_le _, rfl, (fun q hq => absurd hq (by omega)), by rw [ZA_eq]; exact HZ0, HB0.out⟩
        case round =>
          clear HZ0 HB0
          obtain ⟨k, hk, rfl, hall, HZ, hbel⟩ := hrel
          have hsz := hbel.size
          have hgl := (Array.getElem?_eq_some_iff.1 HZ.out).1
          by_cases hlt : k < n
          · exact absurd hlt (by have := Hn0.out; omega)
          · obtain rfl : k = n := by omega
            have hv : ok1B P l = true := ok1_yes (fun q hq => hall.out q (by rw [Hn.out]; exact hq))
            have Hv := Lib.hid hv
            clear hlt hk hgl hv
            have HB1 := Lib.hid hbel
            have Hsa := Lib.hid (HC.out.kept hbel)
            clear hbel
            go_wp2_with fail
            refine (inOrder_any wr ao cap l k P Hv.out Hn (by omega) Hsa).mono ?_
            rintro e w2 ⟨v, rfl, own2, hb2⟩
            obtain ⟨a2, c2, rfl, hsa2, _⟩ := sown_shape own2 (by rw [ordS_length]; exact Hn.out)
            have hc2 := own_cap3 own2
            have HZ2 : Hid (w2.heap[w.heap.size]? = some (.cells ZA 57 (0, 0))) := (hb2.block _ (Array.getElem?_eq_some_iff.1 HZ.out).1).trans HZ.out
            have HB2 := Lib.hid (HB1.out.trans (hb2.mono HB1.out.size))
            have hsm := small_of hdd hP40 Hv.out
            have HBy := Lib.hid (by_any w2 a2 c2 d (ordS l) k (Lib.hid (by rw [ordS_length]; exact Hn.out)) (by omega) hc2 hdd (Lib.hid hsm.1) (Lib.hid hsm.2) hsa2)
            clear own2 hb2 hsa2 hsm
            go_wp2_with fail
            refine HBy.out.mono ?_
            rintro e w3 ⟨rfl, hb3⟩
            have HZ3 : Hid (w3.heap[w.heap.size]? = some (.cells ZA 57 (0, 0))) := (hb3.block _ (Array.getElem?_eq_some_iff.1 HZ2.out).1).trans HZ2.out
            have HB3 := Lib.hid (HB2.out.trans (hb3.mono HB2.out.size))
            have Hall : Hid (((List.range 40).all fun (i : Nat) => mkA d befA (ordS l) i == fillA d befA (ordS l) i) = r) := by show _ = _; rw [all_ok2 hdd hP40 Hv.out, Hr.out, arB_yes h40l Hv.out]
            rw [Hall.out]
            clear hb3 HBy
            go_wp2_with (refine wpList_store_row rfl 57 (.tmp 6) (.tmp 48) rfl w.heap.size (AA (mkA d befA (ordS l))) ?_ ?_ 57 _ HZ3.out ?_ ?_ ?_ ?_)
            try any_goals first | exact AA_one _ | exact infoA2 | (rw [infoA, AA_size]; done) | (rw [AA_size]; rfl) | (show (AA fun _ => 0).size = _; rw [AA_size, AA_size]; done) | rfl
            refine bodyPost_ret (results_row_tmp rfl _ _ w.heap.size 57 (AA (mkA d befA (ordS l))) (0, 0) _ rfl (setRow_heap _ _ _ _ _ _ HZ3.out) Try.underlying57 ⟨_, _, rfl⟩ (by rw [infoA, AA_size])) rfl ?_
            refine ⟨mkA d befA (ordS l), rfl, (fun h => ?_), below_setRow HB3.out (Nat.le_refl _) _⟩
            rw [Hr.out, arB_yes h40l Hv.out] at h
            exact made_is hdd.1 Hv.out (ordS_perm l) (ordS_at l) h
      · have hR : arsB d P l = false := by
          have : ¬ l.length ≤ 40 := by rw [← Hn.out]; exact h40
          simp [arsB, arB, this]
        rw [hR]
        have HA := Lib.hid hA
        have HB := Lib.hid hB
        have hgt : decide ((n : Int) > 40) = true := by simp; omega
        clear hA hB hR
        go_enter Try.func65, Try.ntmps65
        go_wp2_with fail
        refine (isDelay_any _ _).mono ?_
        rintro e w' ⟨rfl, rfl⟩
        rw [HA.out]
        go_wp2_with fail
        refine (canBePeople_any _ _).mono ?_
        rintro e w' ⟨rfl, rfl⟩
        rw [HB.out]
        go_upto_region 2 with (fail)
        go_wp2_with (with_reducible refine wpList_store_row rfl 57 (.tmp 6) (.tmp 23) rfl w.heap.size #[.int .i64 0, .int .i64 0, .int .i64 0, .int .i64 0, .int .i64 0, .int .i64 0, .int .i64 0, .int .i64 0, .int .i64 0, .int .i64 0, .int .i64 0, .int .i64 0, .int .i64 0, .int .i64 0, .int .i64 0, .int .i64 0, .int .i64 0, .int .i64 0, .int .i64 0, .int .i64 0, .int .i64 0, .int .i64 0, .int .i64 0, .int .i64 0, .int .i64 0, .int .i64 0, .int .i64 0, .int .i64 0, .int .i64 0, .int .i64 0, .int .i64 0, .int .i64 0, .int .i64 0, .int .i64 0, .int .i64 0, .int .i64 0, .int .i64 0, .int .i64 0, .int .i64 0, .int .i64 0] ?_ ?_ 57 _ HZ0.out ?_ ?_ ?_ ?_)
        try any_goals first | exact zero_one | exact infoA2 | (show (AA fun _ => 0).size = _; rw [AA_size]; rfl) | rfl
        first
          | (refine bodyPost_ret (results_row_tmp rfl _ _ w.heap.size 57 _ (0, 0) _ rfl (setRow_heap _ _ _ _ _ _ HZ0.out) Try.underlying57 ⟨_, _, rfl⟩ (by rw [infoA]; rfl)) rfl ?_; exact ⟨fun _ => 0, by rw [← ZA_eq]; rfl, (fun h => by cases h), below_setRow HB0.out (Nat.le_refl _) _⟩)
          | (refine bodyPost_ret (results_row_tmp rfl _ _ w.heap.size 57 _ (0, 0) _ rfl HZ0.out Try.underlying57 ⟨_, _, rfl⟩ (by rw [infoA]; rfl)) rfl ?_; exact ⟨fun _ => 0, by rw [← ZA_eq]; rfl, (fun h => by cases h), HB0.out⟩)

theorem aof_any (w : World) (d P : Int) (ao : Option Addr) (cap : Nat) (l : List Snd) (n : Nat) (Hn : Hid (n = l.length)) (hn : n ≤ 1048576) (hcap : n ≤ cap) (hc : SendsAt w ao l) :
    Calls Try.prog 65 #[.int .i64 d, .int .i64 P, .slice ao n cap] w fun e w' => ∃ F : Int → Int, e = .returned (.tuple #[.agg (AA F), .bool (arsB d P l)]) ∧ (arsB d P l = true → ∀ x, F x = fillA d befA l x) ∧ Below w.heap.size w w' := by
  by_cases h0 : n = 0
  · exact aof_z w d P ao cap l n h0 Hn hn hcap hc
  · rcases hc with h | ⟨b, off, rfl, hcc⟩
    · subst h; exact absurd Hn.out h0
    · exact aof_pos w d P b off cap l n Hn hn hcap (by rw [Hn.out]; exact hcc)

end Go.Proofs.Ytghfkgbmmkcjhaa
