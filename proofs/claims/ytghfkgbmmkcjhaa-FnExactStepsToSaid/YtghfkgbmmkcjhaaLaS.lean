/- deLast, LastArrival of the model. -/
import Derived.Test.YtghfkgbmmkcjhaaLaL
import Derived.Test.YtghfkgbmmkcjhaaAs
namespace Go.Proofs.Ytghfkgbmmkcjhaa
open Go.ChangeShapes Go.WideShapes Go.ChangeAt Go.RowKit
set_option linter.unusedVariables false

/-- Among the first k numbers is this one. -/
def seen (ns' : List Int) (k : Nat) (x : Int) : Bool := (List.range k).any fun i => na ns' i == x
theorem seen_yes {l : List Int} {n k : Nat} {x : Int} (hk : k < n) (h : (na l k == x) = true) : seen l n x = true := by
  unfold seen
  rw [List.any_eq_true]
  exact ⟨k, List.mem_range.2 hk, h⟩
theorem seen_no {l : List Int} {n : Nat} {x : Int} (h : ∀ j, j < n → (na l j == x) = false) : seen l n x = false := by
  unfold seen
  rw [List.any_eq_false]
  intro j hj
  simpa using h j (List.mem_range.1 hj)

set_option maxRecDepth 20000 in
theorem l1Has_pos (b off cap : Nat) (l : List Int) (n : Nat) (x : Int) (w : World) (hn : n ≤ 1048576)
    (Hc : Hid (∀ i, i < n → w.cell? ⟨b, off + i, none⟩ = some (.int .i64 (na l i)))) :
    Calls Try.prog 78 #[.slice (some ⟨b, off, none⟩) n cap, .int .i64 x] w fun e w' => e = .returned (.bool (seen l n x)) ∧ w = w' := by
  go_enter Try.func78, Try.ntmps78
  go_wp2_with fail
  go_loop [9] (fun i => ∃ k : Nat, k ≤ n ∧ i = .int .i64 k ∧ Hid (∀ j, j < k → (na l j == x) = false)) (fun i => n - (intOf i).toNat)
  case atStart => exact ⟨0, Nat.zero_le _, rfl, fun j hj => absurd hj (by omega)⟩
  case round =>
    obtain ⟨k, hk, rfl, hno⟩ := hrel
    by_cases hlt : k < n
    · have h0 := Hc.out k hlt
      cases ht : (na l k == x)
      · have hno2 : Hid (∀ j, j < k + 1 → (na l j == x) = false) := by
          intro j hj
          by_cases hjk : j = k
          · subst hjk; exact ht
          · exact hno.out j (by omega)
        go_wp2_with fail
        go_round
        case rel => exact ⟨k + 1, by omega, by go_num, hno2⟩
        case measure => simp [intOf]; omega
      · have Hyes := Lib.hid (seen_yes (n := n) hlt ht)
        go_wp2_with fail
        go_ret
        exact ⟨ret_bool Hyes.out.symm, rfl⟩
    · obtain rfl : k = n := by omega
      have Hnn := Lib.hid (seen_no hno.out)
      go_wp2_with fail
      go_ret
      exact ⟨ret_bool Hnn.out.symm, rfl⟩

theorem l1Most_any (x y : Int) (w : World) : Calls Try.prog 79 #[.int .i64 x, .int .i64 y] w fun e w' => e = .returned (.int .i64 (max x y)) ∧ w = w' := by
  by_cases h : x > y
  · rw [show max x y = x by omega]
    go_enter Try.func79, Try.ntmps79
    go_wp2_with fail
    go_ret
    exact ⟨rfl, rfl⟩
  · rw [show max x y = y by omega]
    go_enter Try.func79, Try.ntmps79
    go_wp2_with fail
    go_ret
    exact ⟨rfl, rfl⟩

theorem seen_la {d : Int} {Q : Nat} {l : List Snd} {R : List Int} (h : arsB d Q l = true) (hR : ∀ i, i < Q → na R i = av d l i) : laB d Q l = !seen R Q (-1) := by
  rw [Bool.eq_iff_iff]
  simp only [laB, h, Bool.true_and, seen, List.all_eq_true, Bool.not_eq_true', List.any_eq_false, List.mem_range, Int.toNat_natCast, bne_iff_ne, beq_iff_eq, ne_eq]
  constructor
  · intro hh i hi; rw [hR i hi]; exact hh i hi
  · intro hh i hi; rw [← hR i hi]; exact hh i hi

set_option maxRecDepth 20000 in
theorem deLast_any (w : World) (d P : Int) (ao : Option Addr) (cap : Nat) (l : List Snd) (n : Nat) (Hn : Hid (n = l.length)) (hn : n ≤ 1048576) (hcap : n ≤ cap) (hc : SendsAt w ao l) :
    Calls Try.prog 67 #[.int .i64 d, .int .i64 P, .slice ao n cap] w fun e w' => e = .returned (.tuple #[.int .i64 (laR d P l), .bool (laB d P l)]) ∧ Below w.heap.size w w' := by
  cases hA : deB d && peB P
  · have hB : arsB d P l = false := by
      unfold arsB
      cases h1 : deB d
      · rfl
      · rw [h1] at hA; simp at hA; simp [hA]
    have hL : laB d P l = false := by simp [laB, hB]
    have hR : laR d P l = 0 := by unfold laR; rw [hL]; rfl
    rw [hR, hL]
    have HA : Hid ((deB d && peB P) = false) := hA
    clear hA hR hB hL
    go_enter Try.func67, Try.ntmps67
    go_wp2_with fail
    refine (deAsked_any d P w).mono ?_
    rintro e w' ⟨rfl, rfl⟩
    rw [HA.out]
    go_wp2_with fail
    go_ret2
    exact ⟨rfl, Below.refl _ _⟩
  · have HA : Hid ((deB d && peB P) = true) := hA
    simp only [Bool.and_eq_true] at hA
    obtain ⟨D, rfl, hD1, hD10⟩ := de_in hA.1
    obtain ⟨Q, rfl, hQ1, hQ2⟩ := pe_in hA.2
    have hB : arsB (D : Int) (Q : Int) l = arB (D : Int) (Q : Int) l := by simp [arsB, hA.1, hA.2]
    have HX := Lib.hid (deA_any w (D : Int) Q ao cap l n (by omega) hQ1 hQ2 Hn hcap hc)
    clear hc hA
    cases hr : arB (D : Int) (Q : Int) l
    · have hL : laB (D : Int) Q l = false := by simp [laB, hB, hr]
      have hR : laR (D : Int) Q l = 0 := by unfold laR; rw [hL]; rfl
      rw [hR, hL]
      rw [hr] at HX
      clear hr hB hL hR
      go_enter Try.func67, Try.ntmps67
      go_wp2_with fail
      refine (deAsked_any D Q w).mono ?_
      rintro e w' ⟨rfl, rfl⟩
      rw [HA.out]
      go_wp2_with fail
      refine HX.out.mono ?_
      rintro e w1 ⟨v, rfl, own, hb1⟩
      clear own
      go_wp2_with fail
      go_ret2
      exact ⟨rfl, hb1⟩
    · rw [hr] at hB
      have hRR : arR (D : Int) Q l = aL D Q l l.length := by simp [arR, hr]
      obtain ⟨R, HR⟩ : ∃ R : List Int, Hid (R = arR (D : Int) Q l) := ⟨_, Lib.hid rfl⟩
      have hRl : R.length = Q := by rw [HR.out, hRR, aL_length]
      have hRg : ∀ i, i < Q → na R i = av D l i := by intro i hi; rw [HR.out, hRR, aL_get _ _ _ _ _ hi, List.take_length]
      have hsl := seen_la hB hRg
      rw [hr, ← HR.out] at HX
      have HRg := Lib.hid hRg
      clear hr hRR hRg
      cases hs : seen R Q (-1)
      · rw [hs] at hsl
        have hL : laB (D : Int) Q l = true := hsl
        have hR : laR (D : Int) Q l = mxS (fun x => av D l x) Q := by unfold laR; rw [hL, if_pos rfl, Int.toNat_natCast]
        rw [hR, hL]
        obtain ⟨G, hG⟩ : ∃ G : Int → Int, (fun x => av (D : Int) l x) = G := ⟨_, rfl⟩
        have HGg : Hid (∀ i : Nat, i < Q → na R i = G i) := Lib.hid (fun i hi => by rw [HRg.out i hi, ← hG])
        rw [hG]
        have HS := Lib.hid hs
        clear hsl hB hL hR hG hs
        go_enter Try.func67, Try.ntmps67
        go_wp2_with fail
        refine (deAsked_any D Q w).mono ?_
        rintro e w' ⟨rfl, rfl⟩
        rw [HA.out]
        go_wp2_with fail
        refine HX.out.mono ?_
        rintro e w1 ⟨v, rfl, own, hb1⟩
        rw [hRl] at own
        obtain ⟨g2, c2, rfl⟩ := own_apos own (by omega)
        have Hc : Hid (∀ i, i < Q → w1.cell? ⟨g2, 0 + i, none⟩ = some (.int .i64 (na R i))) := Lib.hid (fun i hi => by
          have := own.cellAt i (by omega)
          rw [ns_get _ i (by omega)] at this
          rw [Nat.zero_add]
          exact this)
        have Hb1 := Lib.hid hb1
        clear own hb1 HX
        go_wp2_with fail
        refine (l1Has_pos g2 0 c2 R Q (-1) w1 (by omega) Hc).mono ?_
        rintro e w' ⟨rfl, rfl⟩
        rw [HS.out]
        go_wp2_with fail
        go_loop [10, 32] (fun m i => ∃ k : Nat, k ≤ Q ∧ i = .int .i64 k ∧ m = .int .i64 (mxS G k)) (fun _ i => Q - (intOf i).toNat)
        case atStart => exact ⟨0, Nat.zero_le _, rfl, rfl⟩
        case round =>
          obtain ⟨k, hk, rfl, rfl⟩ := hrel
          by_cases h : k < Q
          · have hcc := Hc.out k h
            rw [HGg.out k h, Nat.zero_add] at hcc
            have hp0 : (0 : Int) ≤ (k : Int) := by omega
            have hp1 : (k : Int) < (Q : Int) := by omega
            obtain ⟨x, hx⟩ : ∃ x, G k = x := ⟨_, rfl⟩
            obtain ⟨y, hy⟩ : ∃ y, mxS G k = y := ⟨_, rfl⟩
            have Hm : Hid (mxS G (k + 1) = max y x) := Lib.hid (by rw [← hx, ← hy]; rfl)
            rw [hx] at hcc
            rw [hy]
            clear hx hy
            go_wp2_with fail
            refine (l1Most_any y x _).mono ?_
            rintro e w' ⟨rfl, rfl⟩
            rw [← Hm.out]
            go_wp2_with fail
            go_round
            case rel => exact ⟨k + 1, by omega, by go_num, rfl⟩
            case measure => simp [intOf]; omega
          · obtain rfl : k = Q := by omega
            go_wp2_with fail
            go_ret2
            exact ⟨rfl, Hb1.out⟩
      · rw [hs] at hsl
        have hL : laB (D : Int) Q l = false := hsl
        have hR : laR (D : Int) Q l = 0 := by unfold laR; rw [hL]; rfl
        rw [hR, hL]
        have HS := Lib.hid hs
        clear hsl hB hL hR hs
        go_enter Try.func67, Try.ntmps67
        go_wp2_with fail
        refine (deAsked_any D Q w).mono ?_
        rintro e w' ⟨rfl, rfl⟩
        rw [HA.out]
        go_wp2_with fail
        refine HX.out.mono ?_
        rintro e w1 ⟨v, rfl, own, hb1⟩
        rw [hRl] at own
        obtain ⟨g2, c2, rfl⟩ := own_apos own (by omega)
        have Hc : Hid (∀ i, i < Q → w1.cell? ⟨g2, 0 + i, none⟩ = some (.int .i64 (na R i))) := Lib.hid (fun i hi => by
          have := own.cellAt i (by omega)
          rw [ns_get _ i (by omega)] at this
          rw [Nat.zero_add]
          exact this)
        have Hb1 := Lib.hid hb1
        clear own hb1 HX
        go_wp2_with fail
        refine (l1Has_pos g2 0 c2 R Q (-1) w1 (by omega) Hc).mono ?_
        rintro e w' ⟨rfl, rfl⟩
        rw [HS.out]
        go_wp2_with fail
        go_ret2
        exact ⟨rfl, Hb1.out⟩

theorem specLA_any (w : World) (d P : Int) (ao : Option Addr) (cap : Nat) (l : List Snd) (n : Nat) (Hn : Hid (n = l.length)) (hn : n ≤ 1048576) (hcap : n ≤ cap) (hc : SendsAt w ao l) :
    Calls Try.prog 38 #[.int .i64 d, .int .i64 P, .slice ao n cap] w fun e w' => e = .returned (.tuple #[.int .i64 (laR d P l), .bool (laB d P l)]) ∧ Below w.heap.size w w' := by
  have HX := Lib.hid (deLast_any w d P ao cap l n Hn hn hcap hc)
  clear hc
  go_enter Try.func38, Try.ntmps38
  go_wp2_with fail
  refine HX.out.mono ?_
  rintro e w1 ⟨rfl, hb1⟩
  go_wp2_with fail
  go_ret2
  exact ⟨rfl, hb1⟩

end Go.Proofs.Ytghfkgbmmkcjhaa
