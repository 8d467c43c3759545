/- Whether a list fits clues, by the program. -/
import Derived.Test.YtmgmkgjefplfdaaVi2
import Derived.Test.YtmgmkgjefplfdaaHlS
import Derived.Test.YtmgmkgjefplfdaaBox
namespace Go.Proofs.Ytmgmkgjefplfdaa
open Go.ChangeShapes Go.WideShapes Go.ChangeAt Go.RowKit
set_option linter.unusedVariables false


/-- The method of a kind, at a list that it is asked of. -/
def TellOk (F n : Nat) (ao : Option Addr) (cap : Nat) (l : List (Int × Int)) (M : Nat) (k a b d V : Int) : Prop :=
  ∀ w1 : World, CallsAt w1 ao l → Calls Try.prog M #[.agg #[.int .i64 (F : Int), .slice ao n cap], .agg #[.int .i64 k, .int .i64 a, .int .i64 b, .int .i64 d]] w1 fun e w' => e = .returned (.int .i64 V) ∧ Below w1.heap.size w1 w'
/-- The number of the method of a kind. -/
def kM_ (k : Nat) : Nat := if k = 0 then 111 else if k = 1 then 112 else if k = 2 then 113 else if k = 3 then 114 else if k = 4 then 115 else 116
theorem tell_any (F n : Nat) (ao : Option Addr) (cap : Nat) (l : List (Int × Int)) (Hn : Hid (n = l.length)) (hcap : n ≤ cap) (hg : gdB (F : Int) l = true) (k a b d : Int) (hm : mB (F : Int) (n : Int) (k, a, b, d) = true) :
    ∃ kk : Nat, kk < 6 ∧ k = (kk : Int) ∧ TellOk F n ao cap l (kM_ kk) k a b d (vlB F l k a b) := by
  have hk : k = 0 ∨ k = 1 ∨ k = 2 ∨ k = 3 ∨ k = 4 ∨ k = 5 := by
    rw [mB_pB] at hm
    simp [pB] at hm
    omega
  rcases hk with rfl | rfl | rfl | rfl | rfl | rfl
  · simp [mB, inB] at hm
    exact ⟨0, by omega, rfl, fun w1 hc => m0_any F ao cap l n w1 Hn hg hc a (by omega) 0 b d⟩
  · simp [mB, inB] at hm
    obtain ⟨x, rfl⟩ := Int.eq_ofNat_of_zero_le (show 0 ≤ a by omega)
    exact ⟨1, by omega, rfl, fun w1 hc => by
      have h := m1_any F ao cap l n w1 Hn hg hc x (by omega) 1 b d
      simpa [vlB, kM_] using h⟩
  · simp [mB, inB] at hm
    obtain ⟨x, rfl⟩ := Int.eq_ofNat_of_zero_le (show 0 ≤ a by omega)
    obtain ⟨y, rfl⟩ := Int.eq_ofNat_of_zero_le (show 0 ≤ b by omega)
    exact ⟨2, by omega, rfl, fun w1 hc => by
      have h := m2_any F ao cap l n w1 Hn hg hc x y (by omega) (by omega) 2 d
      simpa [vlB, kM_] using h⟩
  · exact ⟨3, by omega, rfl, fun w1 hc => m3_any F ao cap l n w1 Hn hg hc hcap 3 a b d⟩
  · simp [mB, inB] at hm
    obtain ⟨x, rfl⟩ := Int.eq_ofNat_of_zero_le (show 0 ≤ a by omega)
    exact ⟨4, by omega, rfl, fun w1 hc => by
      have h := m4_any F ao cap l n w1 Hn hg hc x (by omega) b (by omega) 4 d
      simpa [vlB, kM_] using h⟩
  · exact ⟨5, by omega, rfl, fun w1 hc => m5_any F ao cap l n w1 Hn hg hc 5 a b d⟩
theorem kF_M (k : Nat) : kF k = .func (.func (kM_ k)) #[] #[] := rfl
set_option maxHeartbeats 3200000 in
set_option maxRecDepth 20000 in
theorem fits_any (w : World) (F : Nat) (ao : Option Addr) (cap : Nat) (l : List (Int × Int)) (n : Nat) (ac : Option Addr) (cc NC : Nat) (cl : List Clu) (Hn : Hid (n = l.length)) (hn3 : n ≤ 3) (hcap : n ≤ cap) (Hc : Hid (CallsAt w ao l)) (hg : gdB (F : Int) l = true) (hF : 2 ≤ F ∧ F ≤ 4) (HNC : Hid (NC = cl.length)) (hNC : NC ≤ 1048576) (HC : Hid (CluesAt w ac cl)) (hm : cl.all (mB (F : Int) (n : Int)) = true) :
    Calls Try.prog 79 #[.agg #[.int .i64 (F : Int), .slice ao n cap], .slice ac NC cc] w fun e w' => e = .returned (.bool (fitsB (pf F) cl l)) ∧ Below w.heap.size w w' := by
  obtain ⟨W0, hW, hbW, hsW, rX⟩ := box1 w #[.int .i64 (F : Int), .slice ao n cap] 87
  have HW := Lib.hid hW
  have HX := Lib.hid rX
  have e0 : W0.cell? ⟨w.heap.size, 0, none⟩ = some (.int .i64 (F : Int)) := cell_of_row _ _ _ _ _ _ rX
  have e1 : W0.cell? ⟨w.heap.size, 1, none⟩ = some (.slice ao n cap) := cell_of_row _ _ _ _ _ _ rX
  have Hm := Lib.hid (fun q (hq : q < cl.length) => (List.all_eq_true.1 hm) cl[q] (List.getElem_mem hq))
  have Hg := Lib.hid hg
  clear hW rX hm hg
  go_enter Try.func79, Try.ntmps79
  go_wp2_with fail
  rw [HW.out]
  refine (kindsOf_any (F : Int) (n : Int) W0).mono ?_
  rintro e w1 ⟨rfl, hk1, hb1⟩
  have HK1 := Lib.hid hk1
  have HB1 := Lib.hid (hbW.trans (hb1.mono hbW.size))
  have HX1 := Lib.hid (row_later HX.out hb1)
  have hs1 := HB1.out.size
  clear hk1 hb1 e0 e1
  go_wp2_with fail
  go_loopw [16] (fun i wr => ∃ q : Nat, q ≤ NC ∧ i = .int .i64 q ∧ Hid (∀ k, k < q → pf F (k0 cl k, k1 cl k, k2 cl k, k3 cl k) l = true) ∧ Below w1.heap.size w1 wr) (fun i _ => NC - (intOf i).toNat)
  case atStart => exact ⟨0, Nat.zero_le _, rfl, fun k hk => by omega, Below.refl _ _⟩
  case round =>
    obtain ⟨q, hq, rfl, Hall, hbel⟩ := hrel
    by_cases hlt : q < NC
    · obtain ⟨b', off, rfl, hs⟩ : ∃ b' off, ac = some ⟨b', off, none⟩ ∧ ∀ i, i < NC → Sat4 w b' off cl i := by
        rcases HC.out with h | ⟨b', off, h, hs⟩
        · subst h; have := HNC.out; simp at this; omega
        · exact ⟨b', off, h, fun i hi => hs i (by rw [← HNC.out]; exact hi)⟩
      have hqc : q < cl.length := by rw [← HNC.out]; exact hlt
      have hmq := Hm.out q hqc
      rw [k_get cl q hqc] at hmq
      obtain ⟨kk, hk6, hkk, hT⟩ := tell_any F n ao cap l Hn hcap Hg.out _ _ _ _ hmq
      have hsz := hbel.size
      obtain ⟨h0, h1, h2, h7⟩ := ((hs q hlt).kept HB1.out).kept hbel
      have hpf : pf F (k0 cl q, k1 cl q, k2 cl q, k3 cl q) l = (vlB F l (k0 cl q) (k1 cl q) (k2 cl q) == k3 cl q) := rfl
      obtain ⟨V, hV⟩ : ∃ V, vlB F l (k0 cl q) (k1 cl q) (k2 cl q) = V := ⟨_, rfl⟩
      rw [hV] at hT hpf
      obtain ⟨M, hM⟩ : ∃ M, kM_ kk = M := ⟨_, rfl⟩
      rw [hM] at hT
      have HT := Lib.hid hT
      obtain ⟨wr2, hwr⟩ : ∃ x, x = wr := ⟨_, rfl⟩
      subst hwr
      obtain ⟨W, hWW, hbWW, hsWW, rC⟩ := box1 wr2 #[.int .i64 (k0 cl q), .int .i64 (k1 cl q), .int .i64 (k2 cl q), .int .i64 (k3 cl q)] 25
      have HWW := Lib.hid hWW
      have hkc := ((HK1.out.kept hbel).kept hbWW).cells hk6
      have hcF : W.cell? ⟨W0.heap.size, kk * 5 + 4, none⟩ = some (.func (.func M) #[] #[]) := by rw [hkc.2.2.2.2, kF_M, hM]
      have rXW := row_later (row_later HX1.out hbel) hbWW
      have x0 : W.cell? ⟨w.heap.size, 0, none⟩ = some (.int .i64 (F : Int)) := cell_of_row _ _ _ _ _ _ rXW
      have x1 : W.cell? ⟨w.heap.size, 1, none⟩ = some (.slice ao n cap) := cell_of_row _ _ _ _ _ _ rXW
      have y0 : W.cell? ⟨wr2.heap.size, 0, none⟩ = some (.int .i64 (k0 cl q)) := cell_of_row _ _ _ _ _ _ rC
      have y1 : W.cell? ⟨wr2.heap.size, 1, none⟩ = some (.int .i64 (k1 cl q)) := cell_of_row _ _ _ _ _ _ rC
      have y2 : W.cell? ⟨wr2.heap.size, 2, none⟩ = some (.int .i64 (k2 cl q)) := cell_of_row _ _ _ _ _ _ rC
      have y3 : W.cell? ⟨wr2.heap.size, 3, none⟩ = some (.int .i64 (k3 cl q)) := cell_of_row _ _ _ _ _ _ rC
      have HcW := Lib.hid (((Hc.out.kept HB1.out).kept hbel).kept hbWW)
      have HbW := Lib.hid (hbel.trans (hbWW.mono hsz))
      rw [hkk] at y0
      have hkk2 := Lib.hid hkk
      obtain ⟨A, hA⟩ : ∃ A, k1 cl q = A := ⟨_, rfl⟩
      obtain ⟨B, hB⟩ : ∃ B, k2 cl q = B := ⟨_, rfl⟩
      obtain ⟨D, hD⟩ : ∃ D, k3 cl q = D := ⟨_, rfl⟩
      have HT2 : Hid (TellOk F n ao cap l M (kk : Int) A B D V) := by show TellOk _ _ _ _ _ _ _ _ _ _ _; rw [← hA, ← hB, ← hD, ← hkk]; exact HT.out
      unfold TellOk at HT2
      rw [hA] at y1 h1
      rw [hB] at y2 h2
      have hpf2 : pf F (k0 cl q, k1 cl q, k2 cl q, k3 cl q) l = (V == D) := by rw [hpf, hD]
      rw [hD] at y3 h7
      rw [hkk] at h0
      rw [hkk, hA, hB, hD] at HWW
      have Hpf := Lib.hid hpf2
      clear hWW rC rXW hkc hs hmq hT HT hV hkk hA hB hD hbel hbWW hpf hpf2
      have hkj : kk = 0 ∨ kk = 1 ∨ kk = 2 ∨ kk = 3 ∨ kk = 4 ∨ kk = 5 := by omega
      rcases hkj with rfl | rfl | rfl | rfl | rfl | rfl
      · subst hM
        have HWW : Hid (wr2.alloc (Obj.cells #[.int .i64 0, .int .i64 A, .int .i64 B, .int .i64 D] 25) = W) := HWW
        have y0 : W.cell? ⟨wr2.heap.size, 0, none⟩ = some (.int .i64 0) := y0
        have h0 : wr2.cell? ⟨b', off + q * 4, none⟩ = some (.int .i64 0) := h0
        have hcF : W.cell? ⟨w.heap.size + 1, 4, none⟩ = some (.func (.func 111) #[] #[]) := by have h := hcF; rw [hsW] at h; exact h
        have HT2 : Hid (TellOk F n ao cap l 111 0 A B D V) := HT2
        unfold TellOk at HT2
        cases hp : pf F (k0 cl q, k1 cl q, k2 cl q, k3 cl q) l
        · have Hno := Lib.hid (fits_no q hqc hp)
          have hne : (V != D) = true := by
            have h := Hpf.out
            rw [hp] at h
            simpa using h.symm
          clear hp
          go_wp2_with fail
          rw [HWW.out]
          go_region_held3 (fun w' => w'.cell? ⟨w.heap.size, 0, none⟩ = some (.int .i64 (F : Int)) ∧ w'.cell? ⟨w.heap.size, 1, none⟩ = some (.slice ao n cap) ∧ w'.cell? ⟨wr2.heap.size, 0, none⟩ = some (.int .i64 0) ∧ w'.cell? ⟨wr2.heap.size, 1, none⟩ = some (.int .i64 A) ∧ w'.cell? ⟨wr2.heap.size, 2, none⟩ = some (.int .i64 B) ∧ w'.cell? ⟨wr2.heap.size, 3, none⟩ = some (.int .i64 D) ∧ w'.cell? ⟨w.heap.size + 1, 4, none⟩ = some (.func (.func 111) #[] #[]) ∧ CallsAt w' ao l ∧ Below W.heap.size W w')
            (first
              | exact ⟨x0, x1, y0, y1, y2, y3, hcF, HcW.out, (Below.refl _ _).drew⟩
              | (go_split_ands
                 refine ⟨?_, ?_, ?_, ?_, ?_, ?_, ?_, ?_, ?_⟩
                 all_goals first | assumption | exact cell_old hb2 (by assumption) | exact CallsAt.kept (by assumption) hb2 | exact Below.trans (by assumption) (hb2.mono (Below.size (by assumption))))
              | go_keep)
            (first
              | (go_at_call 111; (with_reducible refine (HT2.out _ ?_).mono ?_); (go_split_ands; assumption); rintro e w5 ⟨rfl, hb2⟩)
              | fail)
          rename_i hh
          have HB := Lib.hid (HB1.out.trans ((HbW.out.trans (hh.2.2.2.2.2.2.2.2.mono HbW.out.size)).mono hs1))
          clear hh
          go_wp2_with fail
          go_ret
          exact ⟨by rw [Hno.out]; rfl, HB.out⟩
        · have hne : (V != D) = false := by
            have h := Hpf.out
            rw [hp] at h
            simpa using h.symm
          have Hall2 : Hid (∀ k, k < q + 1 → pf F (k0 cl k, k1 cl k, k2 cl k, k3 cl k) l = true) := fun k hk => by
            rcases Nat.lt_or_ge k q with h | h
            · exact Hall.out k h
            · have e : k = q := by omega
              rw [e]; exact hp
          clear hp
          go_wp2_with fail
          rw [HWW.out]
          go_region_held3 (fun w' => w'.cell? ⟨w.heap.size, 0, none⟩ = some (.int .i64 (F : Int)) ∧ w'.cell? ⟨w.heap.size, 1, none⟩ = some (.slice ao n cap) ∧ w'.cell? ⟨wr2.heap.size, 0, none⟩ = some (.int .i64 0) ∧ w'.cell? ⟨wr2.heap.size, 1, none⟩ = some (.int .i64 A) ∧ w'.cell? ⟨wr2.heap.size, 2, none⟩ = some (.int .i64 B) ∧ w'.cell? ⟨wr2.heap.size, 3, none⟩ = some (.int .i64 D) ∧ w'.cell? ⟨w.heap.size + 1, 4, none⟩ = some (.func (.func 111) #[] #[]) ∧ CallsAt w' ao l ∧ Below W.heap.size W w')
            (first
              | exact ⟨x0, x1, y0, y1, y2, y3, hcF, HcW.out, (Below.refl _ _).drew⟩
              | (go_split_ands
                 refine ⟨?_, ?_, ?_, ?_, ?_, ?_, ?_, ?_, ?_⟩
                 all_goals first | assumption | exact cell_old hb2 (by assumption) | exact CallsAt.kept (by assumption) hb2 | exact Below.trans (by assumption) (hb2.mono (Below.size (by assumption))))
              | go_keep)
            (first
              | (go_at_call 111; (with_reducible refine (HT2.out _ ?_).mono ?_); (go_split_ands; assumption); rintro e w5 ⟨rfl, hb2⟩)
              | fail)
          rename_i hh
          have HB := Lib.hid (HbW.out.trans (hh.2.2.2.2.2.2.2.2.mono HbW.out.size))
          clear hh
          go_wp2_with fail
          go_roundw
          case rel => exact ⟨q + 1, by omega, by go_num, Hall2, HB.out⟩
          case measure => simp [intOf]; omega
      · subst hM
        have HWW : Hid (wr2.alloc (Obj.cells #[.int .i64 1, .int .i64 A, .int .i64 B, .int .i64 D] 25) = W) := HWW
        have y0 : W.cell? ⟨wr2.heap.size, 0, none⟩ = some (.int .i64 1) := y0
        have h0 : wr2.cell? ⟨b', off + q * 4, none⟩ = some (.int .i64 1) := h0
        have hcF : W.cell? ⟨w.heap.size + 1, 9, none⟩ = some (.func (.func 112) #[] #[]) := by have h := hcF; rw [hsW] at h; exact h
        have HT2 : Hid (TellOk F n ao cap l 112 1 A B D V) := HT2
        unfold TellOk at HT2
        cases hp : pf F (k0 cl q, k1 cl q, k2 cl q, k3 cl q) l
        · have Hno := Lib.hid (fits_no q hqc hp)
          have hne : (V != D) = true := by
            have h := Hpf.out
            rw [hp] at h
            simpa using h.symm
          clear hp
          go_wp2_with fail
          rw [HWW.out]
          go_region_held3 (fun w' => w'.cell? ⟨w.heap.size, 0, none⟩ = some (.int .i64 (F : Int)) ∧ w'.cell? ⟨w.heap.size, 1, none⟩ = some (.slice ao n cap) ∧ w'.cell? ⟨wr2.heap.size, 0, none⟩ = some (.int .i64 1) ∧ w'.cell? ⟨wr2.heap.size, 1, none⟩ = some (.int .i64 A) ∧ w'.cell? ⟨wr2.heap.size, 2, none⟩ = some (.int .i64 B) ∧ w'.cell? ⟨wr2.heap.size, 3, none⟩ = some (.int .i64 D) ∧ w'.cell? ⟨w.heap.size + 1, 9, none⟩ = some (.func (.func 112) #[] #[]) ∧ CallsAt w' ao l ∧ Below W.heap.size W w')
            (first
              | exact ⟨x0, x1, y0, y1, y2, y3, hcF, HcW.out, (Below.refl _ _).drew⟩
              | (go_split_ands
                 refine ⟨?_, ?_, ?_, ?_, ?_, ?_, ?_, ?_, ?_⟩
                 all_goals first | assumption | exact cell_old hb2 (by assumption) | exact CallsAt.kept (by assumption) hb2 | exact Below.trans (by assumption) (hb2.mono (Below.size (by assumption))))
              | go_keep)
            (first
              | (go_at_call 112; (with_reducible refine (HT2.out _ ?_).mono ?_); (go_split_ands; assumption); rintro e w5 ⟨rfl, hb2⟩)
              | fail)
          rename_i hh
          have HB := Lib.hid (HB1.out.trans ((HbW.out.trans (hh.2.2.2.2.2.2.2.2.mono HbW.out.size)).mono hs1))
          clear hh
          go_wp2_with fail
          go_ret
          exact ⟨by rw [Hno.out]; rfl, HB.out⟩
        · have hne : (V != D) = false := by
            have h := Hpf.out
            rw [hp] at h
            simpa using h.symm
          have Hall2 : Hid (∀ k, k < q + 1 → pf F (k0 cl k, k1 cl k, k2 cl k, k3 cl k) l = true) := fun k hk => by
            rcases Nat.lt_or_ge k q with h | h
            · exact Hall.out k h
            · have e : k = q := by omega
              rw [e]; exact hp
          clear hp
          go_wp2_with fail
          rw [HWW.out]
          go_region_held3 (fun w' => w'.cell? ⟨w.heap.size, 0, none⟩ = some (.int .i64 (F : Int)) ∧ w'.cell? ⟨w.heap.size, 1, none⟩ = some (.slice ao n cap) ∧ w'.cell? ⟨wr2.heap.size, 0, none⟩ = some (.int .i64 1) ∧ w'.cell? ⟨wr2.heap.size, 1, none⟩ = some (.int .i64 A) ∧ w'.cell? ⟨wr2.heap.size, 2, none⟩ = some (.int .i64 B) ∧ w'.cell? ⟨wr2.heap.size, 3, none⟩ = some (.int .i64 D) ∧ w'.cell? ⟨w.heap.size + 1, 9, none⟩ = some (.func (.func 112) #[] #[]) ∧ CallsAt w' ao l ∧ Below W.heap.size W w')
            (first
              | exact ⟨x0, x1, y0, y1, y2, y3, hcF, HcW.out, (Below.refl _ _).drew⟩
              | (go_split_ands
                 refine ⟨?_, ?_, ?_, ?_, ?_, ?_, ?_, ?_, ?_⟩
                 all_goals first | assumption | exact cell_old hb2 (by assumption) | exact CallsAt.kept (by assumption) hb2 | exact Below.trans (by assumption) (hb2.mono (Below.size (by assumption))))
              | go_keep)
            (first
              | (go_at_call 112; (with_reducible refine (HT2.out _ ?_).mono ?_); (go_split_ands; assumption); rintro e w5 ⟨rfl, hb2⟩)
              | fail)
          rename_i hh
          have HB := Lib.hid (HbW.out.trans (hh.2.2.2.2.2.2.2.2.mono HbW.out.size))
          clear hh
          go_wp2_with fail
          go_roundw
          case rel => exact ⟨q + 1, by omega, by go_num, Hall2, HB.out⟩
          case measure => simp [intOf]; omega
      · subst hM
        have HWW : Hid (wr2.alloc (Obj.cells #[.int .i64 2, .int .i64 A, .int .i64 B, .int .i64 D] 25) = W) := HWW
        have y0 : W.cell? ⟨wr2.heap.size, 0, none⟩ = some (.int .i64 2) := y0
        have h0 : wr2.cell? ⟨b', off + q * 4, none⟩ = some (.int .i64 2) := h0
        have hcF : W.cell? ⟨w.heap.size + 1, 14, none⟩ = some (.func (.func 113) #[] #[]) := by have h := hcF; rw [hsW] at h; exact h
        have HT2 : Hid (TellOk F n ao cap l 113 2 A B D V) := HT2
        unfold TellOk at HT2
        cases hp : pf F (k0 cl q, k1 cl q, k2 cl q, k3 cl q) l
        · have Hno := Lib.hid (fits_no q hqc hp)
          have hne : (V != D) = true := by
            have h := Hpf.out
            rw [hp] at h
            simpa using h.symm
          clear hp
          go_wp2_with fail
          rw [HWW.out]
          go_region_held3 (fun w' => w'.cell? ⟨w.heap.size, 0, none⟩ = some (.int .i64 (F : Int)) ∧ w'.cell? ⟨w.heap.size, 1, none⟩ = some (.slice ao n cap) ∧ w'.cell? ⟨wr2.heap.size, 0, none⟩ = some (.int .i64 2) ∧ w'.cell? ⟨wr2.heap.size, 1, none⟩ = some (.int .i64 A) ∧ w'.cell? ⟨wr2.heap.size, 2, none⟩ = some (.int .i64 B) ∧ w'.cell? ⟨wr2.heap.size, 3, none⟩ = some (.int .i64 D) ∧ w'.cell? ⟨w.heap.size + 1, 14, none⟩ = some (.func (.func 113) #[] #[]) ∧ CallsAt w' ao l ∧ Below W.heap.size W w')
            (first
              | exact ⟨x0, x1, y0, y1, y2, y3, hcF, HcW.out, (Below.refl _ _).drew⟩
              | (go_split_ands
                 refine ⟨?_, ?_, ?_, ?_, ?_, ?_, ?_, ?_, ?_⟩
                 all_goals first | assumption | exact cell_old hb2 (by assumption) | exact CallsAt.kept (by assumption) hb2 | exact Below.trans (by assumption) (hb2.mono (Below.size (by assumption))))
              | go_keep)
            (first
              | (go_at_call 113; (with_reducible refine (HT2.out _ ?_).mono ?_); (go_split_ands; assumption); rintro e w5 ⟨rfl, hb2⟩)
              | fail)
          rename_i hh
          have HB := Lib.hid (HB1.out.trans ((HbW.out.trans (hh.2.2.2.2.2.2.2.2.mono HbW.out.size)).mono hs1))
          clear hh
          go_wp2_with fail
          go_ret
          exact ⟨by rw [Hno.out]; rfl, HB.out⟩
        · have hne : (V != D) = false := by
            have h := Hpf.out
            rw [hp] at h
            simpa using h.symm
          have Hall2 : Hid (∀ k, k < q + 1 → pf F (k0 cl k, k1 cl k, k2 cl k, k3 cl k) l = true) := fun k hk => by
            rcases Nat.lt_or_ge k q with h | h
            · exact Hall.out k h
            · have e : k = q := by omega
              rw [e]; exact hp
          clear hp
          go_wp2_with fail
          rw [HWW.out]
          go_region_held3 (fun w' => w'.cell? ⟨w.heap.size, 0, none⟩ = some (.int .i64 (F : Int)) ∧ w'.cell? ⟨w.heap.size, 1, none⟩ = some (.slice ao n cap) ∧ w'.cell? ⟨wr2.heap.size, 0, none⟩ = some (.int .i64 2) ∧ w'.cell? ⟨wr2.heap.size, 1, none⟩ = some (.int .i64 A) ∧ w'.cell? ⟨wr2.heap.size, 2, none⟩ = some (.int .i64 B) ∧ w'.cell? ⟨wr2.heap.size, 3, none⟩ = some (.int .i64 D) ∧ w'.cell? ⟨w.heap.size + 1, 14, none⟩ = some (.func (.func 113) #[] #[]) ∧ CallsAt w' ao l ∧ Below W.heap.size W w')
            (first
              | exact ⟨x0, x1, y0, y1, y2, y3, hcF, HcW.out, (Below.refl _ _).drew⟩
              | (go_split_ands
                 refine ⟨?_, ?_, ?_, ?_, ?_, ?_, ?_, ?_, ?_⟩
                 all_goals first | assumption | exact cell_old hb2 (by assumption) | exact CallsAt.kept (by assumption) hb2 | exact Below.trans (by assumption) (hb2.mono (Below.size (by assumption))))
              | go_keep)
            (first
              | (go_at_call 113; (with_reducible refine (HT2.out _ ?_).mono ?_); (go_split_ands; assumption); rintro e w5 ⟨rfl, hb2⟩)
              | fail)
          rename_i hh
          have HB := Lib.hid (HbW.out.trans (hh.2.2.2.2.2.2.2.2.mono HbW.out.size))
          clear hh
          go_wp2_with fail
          go_roundw
          case rel => exact ⟨q + 1, by omega, by go_num, Hall2, HB.out⟩
          case measure => simp [intOf]; omega
      · subst hM
        have HWW : Hid (wr2.alloc (Obj.cells #[.int .i64 3, .int .i64 A, .int .i64 B, .int .i64 D] 25) = W) := HWW
        have y0 : W.cell? ⟨wr2.heap.size, 0, none⟩ = some (.int .i64 3) := y0
        have h0 : wr2.cell? ⟨b', off + q * 4, none⟩ = some (.int .i64 3) := h0
        have hcF : W.cell? ⟨w.heap.size + 1, 19, none⟩ = some (.func (.func 114) #[] #[]) := by have h := hcF; rw [hsW] at h; exact h
        have HT2 : Hid (TellOk F n ao cap l 114 3 A B D V) := HT2
        unfold TellOk at HT2
        cases hp : pf F (k0 cl q, k1 cl q, k2 cl q, k3 cl q) l
        · have Hno := Lib.hid (fits_no q hqc hp)
          have hne : (V != D) = true := by
            have h := Hpf.out
            rw [hp] at h
            simpa using h.symm
          clear hp
          go_wp2_with fail
          rw [HWW.out]
          go_region_held3 (fun w' => w'.cell? ⟨w.heap.size, 0, none⟩ = some (.int .i64 (F : Int)) ∧ w'.cell? ⟨w.heap.size, 1, none⟩ = some (.slice ao n cap) ∧ w'.cell? ⟨wr2.heap.size, 0, none⟩ = some (.int .i64 3) ∧ w'.cell? ⟨wr2.heap.size, 1, none⟩ = some (.int .i64 A) ∧ w'.cell? ⟨wr2.heap.size, 2, none⟩ = some (.int .i64 B) ∧ w'.cell? ⟨wr2.heap.size, 3, none⟩ = some (.int .i64 D) ∧ w'.cell? ⟨w.heap.size + 1, 19, none⟩ = some (.func (.func 114) #[] #[]) ∧ CallsAt w' ao l ∧ Below W.heap.size W w')
            (first
              | exact ⟨x0, x1, y0, y1, y2, y3, hcF, HcW.out, (Below.refl _ _).drew⟩
              | (go_split_ands
                 refine ⟨?_, ?_, ?_, ?_, ?_, ?_, ?_, ?_, ?_⟩
                 all_goals first | assumption | exact cell_old hb2 (by assumption) | exact CallsAt.kept (by assumption) hb2 | exact Below.trans (by assumption) (hb2.mono (Below.size (by assumption))))
              | go_keep)
            (first
              | (go_at_call 114; (with_reducible refine (HT2.out _ ?_).mono ?_); (go_split_ands; assumption); rintro e w5 ⟨rfl, hb2⟩)
              | fail)
          rename_i hh
          have HB := Lib.hid (HB1.out.trans ((HbW.out.trans (hh.2.2.2.2.2.2.2.2.mono HbW.out.size)).mono hs1))
          clear hh
          go_wp2_with fail
          go_ret
          exact ⟨by rw [Hno.out]; rfl, HB.out⟩
        · have hne : (V != D) = false := by
            have h := Hpf.out
            rw [hp] at h
            simpa using h.symm
          have Hall2 : Hid (∀ k, k < q + 1 → pf F (k0 cl k, k1 cl k, k2 cl k, k3 cl k) l = true) := fun k hk => by
            rcases Nat.lt_or_ge k q with h | h
            · exact Hall.out k h
            · have e : k = q := by omega
              rw [e]; exact hp
          clear hp
          go_wp2_with fail
          rw [HWW.out]
          go_region_held3 (fun w' => w'.cell? ⟨w.heap.size, 0, none⟩ = some (.int .i64 (F : Int)) ∧ w'.cell? ⟨w.heap.size, 1, none⟩ = some (.slice ao n cap) ∧ w'.cell? ⟨wr2.heap.size, 0, none⟩ = some (.int .i64 3) ∧ w'.cell? ⟨wr2.heap.size, 1, none⟩ = some (.int .i64 A) ∧ w'.cell? ⟨wr2.heap.size, 2, none⟩ = some (.int .i64 B) ∧ w'.cell? ⟨wr2.heap.size, 3, none⟩ = some (.int .i64 D) ∧ w'.cell? ⟨w.heap.size + 1, 19, none⟩ = some (.func (.func 114) #[] #[]) ∧ CallsAt w' ao l ∧ Below W.heap.size W w')
            (first
              | exact ⟨x0, x1, y0, y1, y2, y3, hcF, HcW.out, (Below.refl _ _).drew⟩
              | (go_split_ands
                 refine ⟨?_, ?_, ?_, ?_, ?_, ?_, ?_, ?_, ?_⟩
                 all_goals first | assumption | exact cell_old hb2 (by assumption) | exact CallsAt.kept (by assumption) hb2 | exact Below.trans (by assumption) (hb2.mono (Below.size (by assumption))))
              | go_keep)
            (first
              | (go_at_call 114; (with_reducible refine (HT2.out _ ?_).mono ?_); (go_split_ands; assumption); rintro e w5 ⟨rfl, hb2⟩)
              | fail)
          rename_i hh
          have HB := Lib.hid (HbW.out.trans (hh.2.2.2.2.2.2.2.2.mono HbW.out.size))
          clear hh
          go_wp2_with fail
          go_roundw
          case rel => exact ⟨q + 1, by omega, by go_num, Hall2, HB.out⟩
          case measure => simp [intOf]; omega
      · subst hM
        have HWW : Hid (wr2.alloc (Obj.cells #[.int .i64 4, .int .i64 A, .int .i64 B, .int .i64 D] 25) = W) := HWW
        have y0 : W.cell? ⟨wr2.heap.size, 0, none⟩ = some (.int .i64 4) := y0
        have h0 : wr2.cell? ⟨b', off + q * 4, none⟩ = some (.int .i64 4) := h0
        have hcF : W.cell? ⟨w.heap.size + 1, 24, none⟩ = some (.func (.func 115) #[] #[]) := by have h := hcF; rw [hsW] at h; exact h
        have HT2 : Hid (TellOk F n ao cap l 115 4 A B D V) := HT2
        unfold TellOk at HT2
        cases hp : pf F (k0 cl q, k1 cl q, k2 cl q, k3 cl q) l
        · have Hno := Lib.hid (fits_no q hqc hp)
          have hne : (V != D) = true := by
            have h := Hpf.out
            rw [hp] at h
            simpa using h.symm
          clear hp
          go_wp2_with fail
          rw [HWW.out]
          go_region_held3 (fun w' => w'.cell? ⟨w.heap.size, 0, none⟩ = some (.int .i64 (F : Int)) ∧ w'.cell? ⟨w.heap.size, 1, none⟩ = some (.slice ao n cap) ∧ w'.cell? ⟨wr2.heap.size, 0, none⟩ = some (.int .i64 4) ∧ w'.cell? ⟨wr2.heap.size, 1, none⟩ = some (.int .i64 A) ∧ w'.cell? ⟨wr2.heap.size, 2, none⟩ = some (.int .i64 B) ∧ w'.cell? ⟨wr2.heap.size, 3, none⟩ = some (.int .i64 D) ∧ w'.cell? ⟨w.heap.size + 1, 24, none⟩ = some (.func (.func 115) #[] #[]) ∧ CallsAt w' ao l ∧ Below W.heap.size W w')
            (first
              | exact ⟨x0, x1, y0, y1, y2, y3, hcF, HcW.out, (Below.refl _ _).drew⟩
              | (go_split_ands
                 refine ⟨?_, ?_, ?_, ?_, ?_, ?_, ?_, ?_, ?_⟩
                 all_goals first | assumption | exact cell_old hb2 (by assumption) | exact CallsAt.kept (by assumption) hb2 | exact Below.trans (by assumption) (hb2.mono (Below.size (by assumption))))
              | go_keep)
            (first
              | (go_at_call 115; (with_reducible refine (HT2.out _ ?_).mono ?_); (go_split_ands; assumption); rintro e w5 ⟨rfl, hb2⟩)
              | fail)
          rename_i hh
          have HB := Lib.hid (HB1.out.trans ((HbW.out.trans (hh.2.2.2.2.2.2.2.2.mono HbW.out.size)).mono hs1))
          clear hh
          go_wp2_with fail
          go_ret
          exact ⟨by rw [Hno.out]; rfl, HB.out⟩
        · have hne : (V != D) = false := by
            have h := Hpf.out
            rw [hp] at h
            simpa using h.symm
          have Hall2 : Hid (∀ k, k < q + 1 → pf F (k0 cl k, k1 cl k, k2 cl k, k3 cl k) l = true) := fun k hk => by
            rcases Nat.lt_or_ge k q with h | h
            · exact Hall.out k h
            · have e : k = q := by omega
              rw [e]; exact hp
          clear hp
          go_wp2_with fail
          rw [HWW.out]
          go_region_held3 (fun w' => w'.cell? ⟨w.heap.size, 0, none⟩ = some (.int .i64 (F : Int)) ∧ w'.cell? ⟨w.heap.size, 1, none⟩ = some (.slice ao n cap) ∧ w'.cell? ⟨wr2.heap.size, 0, none⟩ = some (.int .i64 4) ∧ w'.cell? ⟨wr2.heap.size, 1, none⟩ = some (.int .i64 A) ∧ w'.cell? ⟨wr2.heap.size, 2, none⟩ = some (.int .i64 B) ∧ w'.cell? ⟨wr2.heap.size, 3, none⟩ = some (.int .i64 D) ∧ w'.cell? ⟨w.heap.size + 1, 24, none⟩ = some (.func (.func 115) #[] #[]) ∧ CallsAt w' ao l ∧ Below W.heap.size W w')
            (first
              | exact ⟨x0, x1, y0, y1, y2, y3, hcF, HcW.out, (Below.refl _ _).drew⟩
              | (go_split_ands
                 refine ⟨?_, ?_, ?_, ?_, ?_, ?_, ?_, ?_, ?_⟩
                 all_goals first | assumption | exact cell_old hb2 (by assumption) | exact CallsAt.kept (by assumption) hb2 | exact Below.trans (by assumption) (hb2.mono (Below.size (by assumption))))
              | go_keep)
            (first
              | (go_at_call 115; (with_reducible refine (HT2.out _ ?_).mono ?_); (go_split_ands; assumption); rintro e w5 ⟨rfl, hb2⟩)
              | fail)
          rename_i hh
          have HB := Lib.hid (HbW.out.trans (hh.2.2.2.2.2.2.2.2.mono HbW.out.size))
          clear hh
          go_wp2_with fail
          go_roundw
          case rel => exact ⟨q + 1, by omega, by go_num, Hall2, HB.out⟩
          case measure => simp [intOf]; omega
      · subst hM
        have HWW : Hid (wr2.alloc (Obj.cells #[.int .i64 5, .int .i64 A, .int .i64 B, .int .i64 D] 25) = W) := HWW
        have y0 : W.cell? ⟨wr2.heap.size, 0, none⟩ = some (.int .i64 5) := y0
        have h0 : wr2.cell? ⟨b', off + q * 4, none⟩ = some (.int .i64 5) := h0
        have hcF : W.cell? ⟨w.heap.size + 1, 29, none⟩ = some (.func (.func 116) #[] #[]) := by have h := hcF; rw [hsW] at h; exact h
        have HT2 : Hid (TellOk F n ao cap l 116 5 A B D V) := HT2
        unfold TellOk at HT2
        cases hp : pf F (k0 cl q, k1 cl q, k2 cl q, k3 cl q) l
        · have Hno := Lib.hid (fits_no q hqc hp)
          have hne : (V != D) = true := by
            have h := Hpf.out
            rw [hp] at h
            simpa using h.symm
          clear hp
          go_wp2_with fail
          rw [HWW.out]
          go_region_held3 (fun w' => w'.cell? ⟨w.heap.size, 0, none⟩ = some (.int .i64 (F : Int)) ∧ w'.cell? ⟨w.heap.size, 1, none⟩ = some (.slice ao n cap) ∧ w'.cell? ⟨wr2.heap.size, 0, none⟩ = some (.int .i64 5) ∧ w'.cell? ⟨wr2.heap.size, 1, none⟩ = some (.int .i64 A) ∧ w'.cell? ⟨wr2.heap.size, 2, none⟩ = some (.int .i64 B) ∧ w'.cell? ⟨wr2.heap.size, 3, none⟩ = some (.int .i64 D) ∧ w'.cell? ⟨w.heap.size + 1, 29, none⟩ = some (.func (.func 116) #[] #[]) ∧ CallsAt w' ao l ∧ Below W.heap.size W w')
            (first
              | exact ⟨x0, x1, y0, y1, y2, y3, hcF, HcW.out, (Below.refl _ _).drew⟩
              | (go_split_ands
                 refine ⟨?_, ?_, ?_, ?_, ?_, ?_, ?_, ?_, ?_⟩
                 all_goals first | assumption | exact cell_old hb2 (by assumption) | exact CallsAt.kept (by assumption) hb2 | exact Below.trans (by assumption) (hb2.mono (Below.size (by assumption))))
              | go_keep)
            (first
              | (go_at_call 116; (with_reducible refine (HT2.out _ ?_).mono ?_); (go_split_ands; assumption); rintro e w5 ⟨rfl, hb2⟩)
              | fail)
          rename_i hh
          have HB := Lib.hid (HB1.out.trans ((HbW.out.trans (hh.2.2.2.2.2.2.2.2.mono HbW.out.size)).mono hs1))
          clear hh
          go_wp2_with fail
          go_ret
          exact ⟨by rw [Hno.out]; rfl, HB.out⟩
        · have hne : (V != D) = false := by
            have h := Hpf.out
            rw [hp] at h
            simpa using h.symm
          have Hall2 : Hid (∀ k, k < q + 1 → pf F (k0 cl k, k1 cl k, k2 cl k, k3 cl k) l = true) := fun k hk => by
            rcases Nat.lt_or_ge k q with h | h
            · exact Hall.out k h
            · have e : k = q := by omega
              rw [e]; exact hp
          clear hp
          go_wp2_with fail
          rw [HWW.out]
          go_region_held3 (fun w' => w'.cell? ⟨w.heap.size, 0, none⟩ = some (.int .i64 (F : Int)) ∧ w'.cell? ⟨w.heap.size, 1, none⟩ = some (.slice ao n cap) ∧ w'.cell? ⟨wr2.heap.size, 0, none⟩ = some (.int .i64 5) ∧ w'.cell? ⟨wr2.heap.size, 1, none⟩ = some (.int .i64 A) ∧ w'.cell? ⟨wr2.heap.size, 2, none⟩ = some (.int .i64 B) ∧ w'.cell? ⟨wr2.heap.size, 3, none⟩ = some (.int .i64 D) ∧ w'.cell? ⟨w.heap.size + 1, 29, none⟩ = some (.func (.func 116) #[] #[]) ∧ CallsAt w' ao l ∧ Below W.heap.size W w')
            (first
              | exact ⟨x0, x1, y0, y1, y2, y3, hcF, HcW.out, (Below.refl _ _).drew⟩
              | (go_split_ands
                 refine ⟨?_, ?_, ?_, ?_, ?_, ?_, ?_, ?_, ?_⟩
                 all_goals first | assumption | exact cell_old hb2 (by assumption) | exact CallsAt.kept (by assumption) hb2 | exact Below.trans (by assumption) (hb2.mono (Below.size (by assumption))))
              | go_keep)
            (first
              | (go_at_call 116; (with_reducible refine (HT2.out _ ?_).mono ?_); (go_split_ands; assumption); rintro e w5 ⟨rfl, hb2⟩)
              | fail)
          rename_i hh
          have HB := Lib.hid (HbW.out.trans (hh.2.2.2.2.2.2.2.2.mono HbW.out.size))
          clear hh
          go_wp2_with fail
          go_roundw
          case rel => exact ⟨q + 1, by omega, by go_num, Hall2, HB.out⟩
          case measure => simp [intOf]; omega
    · obtain rfl : q = NC := by omega
      have Hyes := Lib.hid (fits_yes (p1 := pf F) (cl := cl) (l := l) (by rw [← HNC.out]; exact Hall.out))
      have HB := Lib.hid (HB1.out.trans (hbel.mono hs1))
      go_wp2_with fail
      go_ret
      exact ⟨by rw [Hyes.out]; rfl, HB.out⟩

end Go.Proofs.Ytmgmkgjefplfdaa
