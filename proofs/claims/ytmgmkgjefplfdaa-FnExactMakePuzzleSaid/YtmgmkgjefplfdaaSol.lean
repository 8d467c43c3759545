/- The solutions of a puzzle, by the program. -/
import Derived.Test.YtmgmkgjefplfdaaFt
import Derived.Test.YtmgmkgjefplfdaaHlI
import Derived.Test.YtmgmkgjefplfdaaHal
namespace Go.Proofs.Ytmgmkgjefplfdaa
open Go.ChangeShapes Go.WideShapes Go.ChangeAt Go.RowKit
set_option linter.unusedVariables false


/-- The solutions of a puzzle, in order. -/
def sol (F N : Nat) (cl : List Clu) : List (List (Int × Int)) := lk (fitsB (pf F) cl) (chs F) N []
theorem sol_filter (F N : Nat) (cl : List Clu) : sol F N cl = (lv (chs F) N).filter (fitsB (pf F) cl) := by unfold sol; rw [lk_ext, lv_ext]
theorem sol_len (F N : Nat) (cl : List Clu) (hF : F ≤ 4) (hN : N ≤ 3) : (sol F N cl).length ≤ 216 := by
  have h := lk_len (fitsB (pf F) cl) (chs_len ⟨F, by omega⟩).1 N []
  have : (6 : Nat) ^ N ≤ 6 ^ 3 := Nat.pow_le_pow_right (by omega) hN
  unfold sol
  simp only at h
  omega
theorem sol_rows (F N : Nat) (cl : List Clu) (i : Nat) (hi : i < (sol F N cl).length) : (crow (sol F N cl) i).length = N ∧ callsIn F (crow (sol F N cl) i) := by
  have h1 : crow (sol F N cl) i ∈ sol F N cl := by rw [← crow_get hi]; exact List.getElem_mem hi
  obtain ⟨x, hx⟩ : ∃ x, crow (sol F N cl) i = x := ⟨_, rfl⟩
  rw [hx] at h1 ⊢
  rw [sol_filter] at h1
  have h2 := (List.mem_filter.1 h1).1
  rw [lv_ext] at h2
  have h3 := ext_in (chs_in F) N [] (fun x hx => by simp at hx) _ h2
  exact ⟨by simpa using h3.2, h3.1⟩
theorem take_filter {L : List (List (Int × Int))} {p : List (Int × Int) → Bool} {q : Nat} (h : q < L.length) : (L.take (q + 1)).filter p = (L.take q).filter p ++ (if p (crow L q) then [crow L q] else []) := by
  rw [List.take_succ_eq_append_getElem h, List.filter_append, crow_get h]
  congr 1
  cases hp : p (crow L q) <;> simp [hp]
set_option maxHeartbeats 1600000 in
set_option maxRecDepth 20000 in
theorem solOf_any (w : World) (F N : Nat) (ac : Option Addr) (cc NC : Nat) (cl : List Clu) (hF : 2 ≤ F ∧ F ≤ 4) (hN : N ≤ 3) (HNC : Hid (NC = cl.length)) (hNC : NC ≤ 1048576) (HC : Hid (CluesAt w ac cl)) (hm : cl.all (mB (F : Int) (N : Int)) = true) :
    Calls Try.prog 81 #[.agg #[.int .i64 (F : Int), .int .i64 (N : Int), .slice ac NC cc]] w fun e w' => ∃ v X, e = .returned v ∧ OwnCS w' w.heap.size v X (sol F N cl) ∧ Below w.heap.size w w' := by
  obtain ⟨j0, hj, hy0, hy1, hy2⟩ := info_parts info46
  obtain ⟨W0, hW, hbW, hsW, rX⟩ := box1 w #[.int .i64 (F : Int), .int .i64 (N : Int), .slice ac NC cc] 35
  have HW := Lib.hid hW
  have HX := Lib.hid rX
  have HbW := Lib.hid hbW
  have Hm := Lib.hid hm
  have c0 : W0.cell? ⟨w.heap.size, 0, none⟩ = some (.int .i64 (F : Int)) := cell_of_row _ _ _ _ _ _ rX
  have c1 : W0.cell? ⟨w.heap.size, 1, none⟩ = some (.int .i64 (N : Int)) := cell_of_row _ _ _ _ _ _ rX
  have HLn : Hid (∀ i, i < (lv (chs F) N).length → (crow (lv (chs F) N) i).length = N ∧ callsIn F (crow (lv (chs F) N) i)) := fun i hi => by
    have h := ext_in (chs_in F) N [] (fun x hx => by simp at hx) _ (by rw [← lv_ext]; exact List.getElem_mem hi)
    rw [crow_get hi] at h
    exact ⟨by simpa using h.2, h.1⟩
  have hC := chs_len ⟨F, by omega⟩
  simp only at hC
  have hlen : (lv (chs F) N).length ≤ 216 ∧ 0 < (lv (chs F) N).length := ⟨Nat.le_trans (lv_len hC.1 N) (Nat.pow_le_pow_right (by omega) hN), lv_pos (hC.2 hF.1) N⟩
  have HSol : Hid (sol F N cl = (lv (chs F) N).filter (fitsB (pf F) cl)) := sol_filter F N cl
  rw [HSol.out]
  obtain ⟨L, hL⟩ : ∃ L, lv (chs F) N = L := ⟨_, rfl⟩
  have HA := Lib.hid (hiddenLists_any F N W0 hF hN)
  rw [hL] at HLn hlen HA ⊢
  clear hW rX hm hbW hL
  go_enter Try.func81, Try.ntmps81
  go_wp2_with fail
  rw [HW.out]
  refine HA.out.mono ?_
  rintro e w1 ⟨v1, XI, rfl, hO1, hb1⟩
  obtain ⟨gI, capI, rfl, hgI⟩ := hO1.outer hlen.2
  obtain ⟨NN, hNN⟩ : ∃ NN, L.length = NN := ⟨_, rfl⟩
  rw [hNN] at hO1 hlen HLn ⊢
  have HN : Hid (NN = L.length) := hNN.symm
  have HI := Lib.hid hO1
  have HB1 := Lib.hid (HbW.out.trans (hb1.mono HbW.out.size))
  have HX1 := Lib.hid (row_later HX.out hb1)
  have hsw : w.heap.size ≤ W0.heap.size := HbW.out.size
  have hs1 := hb1.size
  have hgI1 := (hO1.1.lt gI rfl).2
  clear hO1 hb1 c0 c1 HA hNN
  go_wp2_with fail
  go_loopw [3, 12] (fun v i wr => ∃ (q : Nat) (X : List Value), q ≤ NN ∧ i = .int .i64 q ∧ OwnCS wr w.heap.size v X ((L.take q).filter (fitsB (pf F) cl)) ∧ Hid (∀ b, v.ownBlock = some b → w1.heap.size ≤ b) ∧ Below w1.heap.size w1 wr ∧ Hid (∀ (i : Nat) (y : Value), X[i]? = some y → ∃ j, j < q ∧ XI[j]? = some y)) (fun _ i _ => NN - (intOf i).toNat)
  case atStart => exact ⟨0, [], Nat.zero_le _, rfl, OwnCS.nil _ _, fun b hb => (by cases hb), Below.refl _ _, fun i y h => (by simp at h)⟩
  case round =>
    obtain ⟨q, X, hq, rfl, hor, Hvb, hbel, HXI⟩ := hrel
    by_cases hlt : q < NN
    · have hsz := hbel.size
      have hqL : q < L.length := by rw [← HN.out]; exact hlt
      obtain ⟨a1, c1, hx1, hc0, own1⟩ := HI.out.cellOf HN.out q hqL
      have hln := HLn.out q hlt
      have Htf := Lib.hid (take_filter (p := fitsB (pf F) cl) hqL)
      obtain ⟨l, hl⟩ : ∃ l, crow L q = l := ⟨_, rfl⟩
      rw [hl] at hx1 hc0 own1 hln Htf
      have hle : l.length = N := hln.1
      rw [hle] at hx1 hc0 own1
      have Hn : Hid (N = l.length) := hle.symm
      have hc1 := cell_old hbel hc0
      have rX1 := row_later HX1.out hbel
      have x0 : wr.cell? ⟨w.heap.size, 0, none⟩ = some (.int .i64 (F : Int)) := cell_of_row _ _ _ _ _ _ rX1
      have x2 : wr.cell? ⟨w.heap.size, 2, none⟩ = some (.slice ac NC cc) := cell_of_row _ _ _ _ _ _ rX1
      have ownr := own_later own1 hbel
      have hcap := own_cap2 own1
      obtain ⟨ax, cx, hvx, hca, _⟩ := own_shape ownr Hn.out
      obtain ⟨rfl, _, rfl⟩ : a1 = ax ∧ N = N ∧ c1 = cx := by simpa using hvx
      have HF := Lib.hid (fits_any wr F a1 c1 l N ac cc NC cl Hn hN hcap hca (good_in hF (by omega) hln.2) hF HNC hNC ((HC.out.kept HB1.out).kept hbel) Hm.out)
      have Hor := Lib.hid hor
      have Hbel := Lib.hid hbel
      have Hx1 := Lib.hid hx1
      have Hownr := Lib.hid ownr
      clear own1 hc0 hor hbel hca hvx ownr hx1 hln hl rX1
      obtain ⟨av, cv, hv, _⟩ := Hor.out.reads
      have hLQ : ((L.take q).filter (fitsB (pf F) cl)).length ≤ 216 := Nat.le_trans (List.length_filter_le _ _) (by rw [List.length_take]; omega)
      obtain ⟨LL, hLL⟩ : ∃ LL, (L.take q).filter (fitsB (pf F) cl) = LL := ⟨_, rfl⟩
      rw [hLL] at Hor Htf hv hLQ
      obtain ⟨LQ, hLQe⟩ : ∃ LQ, LL.length = LQ := ⟨_, rfl⟩
      rw [hLQe] at hv hLQ
      subst hv
      have HLQ := Lib.hid hLQe
      clear hLL hLQe
      cases hp : fitsB (pf F) cl l
      · rw [hp] at HF
        have Htf2 : Hid ((L.take (q + 1)).filter (fitsB (pf F) cl) = LL) := by show _ = _; rw [Htf.out, hp]; simp
        clear hp
        go_wp2_with fail
        refine HF.out.mono ?_
        rintro e w3 ⟨rfl, hb3⟩
        have Ho3 : Hid (OwnCS w3 w.heap.size (.slice av LQ cv) X ((L.take (q + 1)).filter (fitsB (pf F) cl))) := by rw [Htf2.out]; exact Hor.out.later hb3
        have Hb3 := Lib.hid (Hbel.out.trans (hb3.mono hsz))
        have HXI2 : Hid (∀ (i : Nat) (y : Value), X[i]? = some y → ∃ j, j < q + 1 ∧ XI[j]? = some y) := fun i y h => by obtain ⟨j, h1, h2⟩ := HXI.out i y h; exact ⟨j, by omega, h2⟩
        clear hb3
        go_wp2_with fail
        go_roundw
        case rel => exact ⟨q + 1, X, by omega, by go_num, Ho3.out, Hvb, Hb3.out, HXI2⟩
        case measure => simp [intOf]; omega
      · rw [hp] at HF
        have Htf2 : Hid ((L.take (q + 1)).filter (fitsB (pf F) cl) = LL ++ [l]) := by show _ = _; rw [Htf.out, hp]; simp
        clear hp
        go_wp2_with fail
        refine HF.out.mono ?_
        rintro e w3 ⟨rfl, hb3⟩
        have bd : Below w3.heap.size w3 (w3.alloc (.cells #[.slice a1 N c1] 46)) := (Below.refl _ _).alloc (Nat.le_refl _) _
        have s3 := hb3.size
        have Ho3 := Lib.hid ((Hor.out.later hb3).later bd)
        have hB3 := (Hbel.out.trans (hb3.mono hsz)).trans (bd.mono (Nat.le_trans hsz s3))
        have HB3 := Lib.hid hB3
        have HR3 : Hid ((w3.alloc (.cells #[.slice a1 N c1] 46)).ownsRow w.heap.size 83 2 (.slice a1 N c1) l.length (cs l)) := by show World.ownsRow _ _ _ _ _ _ _; rw [← Hn.out]; exact own_base hsw (own_later (own_later Hownr.out hb3) bd)
        have hck : (w3.alloc (.cells #[.slice a1 N c1] 46)).cell? ⟨w3.heap.size, 0, none⟩ = some (.slice a1 N c1) := by rw [cell_of_row _ _ _ _ _ _ (heap_alloc_new w3 _)]; rfl
        have hrb : ∀ b, (Value.slice a1 N c1).ownBlock = some b → b < w1.heap.size := fun b hb => ((HI.out.2.2.1 q _ _ Hx1.out (List.getElem?_eq_getElem hqL)).1.lt b hb).2
        have HD1 : Hid (∀ b, (Value.slice a1 N c1).ownBlock = some b → (Value.slice av LQ cv).ownBlock ≠ some b) := fun b hb e => by have h1 := hrb b hb; have h2 := Hvb.out b e; omega
        have HD2 : Hid (∀ (i : Nat) (y : Value) (b : Nat), X[i]? = some y → y.ownBlock = some b → (Value.slice a1 N c1).ownBlock ≠ some b) := fun i y b hy hb e => by
          obtain ⟨j, hj, hyj⟩ := HXI.out i y hy
          exact HI.out.2.2.2 j q y _ b hj hyj Hx1.out hb e
        have hszB : w.heap.size ≤ (w3.alloc (.cells #[.slice a1 N c1] 46)).heap.size := by simp; omega
        clear hb3 hB3 bd hrb
        go_wp2_with (at_builtin; refine push_row _ rfl _ _ 50 rfl w.heap.size j0 Try.underlying50 hj hy0 hy1 hy2 _ X LL LQ HLQ.out rfl Ho3.out (by omega) (.slice a1 N c1) l HR3.out HD1.out HD2.out 1 w3.heap.size rfl hck rfl hszB ?_)
        intro v6 w6 own6 hgr6 hat6
        rw [← Htf2.out] at own6
        have Ho6 := Lib.hid own6
        have Hb6 := Lib.hid (HB3.out.grown hgr6 (by have := HB3.out.size; omega) (fun b hb => Hvb.out b hb))
        have Hvb6 : Hid (∀ b, v6.ownBlock = some b → w1.heap.size ≤ b) := fun b hb => by
          rcases hat6 with h | h
          · rw [h] at hb; exact Hvb.out b hb
          · rw [h] at hb; simp at hb; omega
        have HXI6 : Hid (∀ (i : Nat) (y : Value), (X ++ [Value.slice a1 N c1])[i]? = some y → ∃ j, j < q + 1 ∧ XI[j]? = some y) := fun i y h => by
          by_cases hi : i < X.length
          · rw [List.getElem?_append_left hi] at h
            obtain ⟨j, h1, h2⟩ := HXI.out i y h
            exact ⟨j, by omega, h2⟩
          · rw [List.getElem?_append_right (by omega)] at h
            have h9 := (List.getElem?_eq_some_iff.1 h).1
            have e : i - X.length = 0 := by simp at h9; omega
            rw [e] at h
            simp at h
            exact ⟨q, by omega, by rw [← h]; exact Hx1.out⟩
        clear own6 hgr6 hat6
        go_wp2_with fail
        go_roundw
        case rel => exact ⟨q + 1, _, by omega, by go_num, Ho6.out, Hvb6, Hb6.out, HXI6⟩
        case measure => simp [intOf]; omega
    · obtain rfl : q = NN := by omega
      have hfe : (L.take q).filter (fitsB (pf F) cl) = L.filter (fitsB (pf F) cl) := by rw [HN.out, List.take_length]
      rw [hfe] at hor
      have Hor := Lib.hid hor
      have HB := Lib.hid (HB1.out.trans (hbel.mono (Nat.le_trans hsw hs1)))
      clear hor hfe
      go_wp2_with fail
      go_ret
      exact ⟨_, X, rfl, Hor.out, HB.out⟩

end Go.Proofs.Ytmgmkgjefplfdaa
