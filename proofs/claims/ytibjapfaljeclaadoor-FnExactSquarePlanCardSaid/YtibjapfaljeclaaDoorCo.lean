/- The calls of all who are put in: the program. -/
import Derived.Test.YtibjapfaljeclaaDoorWi
namespace Go.Proofs.YtibjapfaljeclaaDoor
open Go.ChangeShapes Go.WideShapes Go.ChangeAt Go.RowKit
set_option linter.unusedVariables false


theorem or_in {t x y : Nat} (h : t.testBit y = true) : t ||| (2 ^ (cmm x y).1.toNat ||| 2 ^ (cmm x y).2.toNat) = t ||| 2 ^ x := by
  have e : 2 ^ (cmm x y).1.toNat ||| 2 ^ (cmm x y).2.toNat = 2 ^ x ||| 2 ^ y := by
    unfold cmm
    simp only [Int.toNat_natCast]
    by_cases hl : x ≤ y
    · rw [Nat.min_eq_left hl, Nat.max_eq_right hl]
    · rw [Nat.min_eq_right (by omega), Nat.max_eq_left (by omega), Nat.or_comm]
  rw [e]
  apply Nat.eq_of_testBit_eq
  intro i
  simp only [Nat.testBit_or, Nat.testBit_two_pow]
  by_cases hi : y = i
  · subst hi; simp [h]
  · simp [hi]
theorem pnx_eq {l : List (Int × Int)} {F : Nat} (hg : gdB (F : Int) l = true) {S : Nat → Nat} (hS : ∀ v u, (S v).testBit u = adj l v u) (hs : ∀ v, S v < 1024) (t : Nat) : pnx S t = nxt l F t := by
  rw [pnx, pn_eq hg hS hs t, nxt]
  cases frst (nx l F t) F with
  | none => rfl
  | some v => simp only [low_eq hg hS t v]
theorem na_two (A C : Int) : na [A, C] 0 = A ∧ na [A, C] 1 = C := ⟨rfl, rfl⟩
theorem cmm_two (x y : Nat) (hx : x < 10) (hy : y < 10) (h : x ≠ y) : twoB [cmm x y] := by
  intro i hi
  have : i = 0 := by simp at hi; omega
  subst this
  show 0 ≤ (cmm x y).1 ∧ (cmm x y).1 < (cmm x y).2 ∧ (cmm x y).2 < 10
  unfold cmm
  simp only
  omega
/-- The last call that was found lies apart from those that were. -/
def KC (wr : World) (G : Option Addr) (P : Nat) (A C : Int) : Prop := wr.heap[P]? = some (.cells #[.int .i64 A, .int .i64 C] 35 (0, 0)) ∧ ∀ a, G = some a → a.block ≠ P
theorem bel_alloc {wr : World} (o : Obj) : Below wr.heap.size wr (wr.alloc o) := (Below.refl _ _).alloc (Nat.le_refl _) _

set_option maxHeartbeats 4000000 in
set_option maxRecDepth 20000 in
theorem callsOut_any (F : Nat) (l : List (Int × Int)) (S : Nat → Nat) (t0 : Nat) (w : World) (Hg : Hid (gdB (F : Int) l = true)) (HS : Hid (∀ v u, (S v).testBit u = adj l v u)) (Hs : Hid (∀ v, S v < 1024)) (ht : t0 < 2 ^ F) (HT : Hid (TabHere w)) :
    Calls Tryd.prog 20 #[.agg (LA S), .int .u16 t0] w fun e w' => ∃ v, e = .returned v ∧ w'.ownsRow w.heap.size 35 2 v (tre l F t0).length (cs (tre l F t0)) ∧ Below w.heap.size w w' := by
  obtain ⟨i0, hi, iz0, iz1, iz2⟩ := info_parts info35
  have hF := gd_fr Hg.out
  have hpw := pw (F := F) (by omega)
  have Hd : Hid (∀ v, (S v).testBit v = false) := Lib.hid (fun v => by
    rw [HS.out]
    cases h : adj l v v
    · rfl
    · exact absurd rfl (adj_lt Hg.out h).2.2)
  have Hpe : Hid (∀ t, pnx S t = nxt l F t) := Lib.hid (fun t => pnx_eq Hg.out HS.out Hs.out t)
  have HI0 := Lib.hid (ti_zero l (F := F) (t0 := t0) ht)
  have ht0 : t0 < 1024 := by omega
  obtain ⟨B, hB⟩ : ∃ B, w.heap.size = B := ⟨_, rfl⟩
  have HBe := Lib.hid hB
  obtain ⟨w1, hw1⟩ : ∃ w1, w.alloc (.cells (LA S) 41) = w1 := ⟨_, rfl⟩
  have HK1 : Hid (w1.heap[B]? = some (.cells (LA S) 41 (0, 0))) := Lib.hid (by rw [← hw1, ← hB]; exact heap_alloc_new _ _)
  have Hb1 : Hid (Below w.heap.size w w1) := Lib.hid (by rw [← hw1]; exact bel_alloc _)
  have Hw1 := Lib.hid hw1
  have hB1 : B < w1.heap.size := (Array.getElem?_eq_some_iff.1 HK1.out).1
  clear hw1
  go_enter Tryd.func20, Tryd.ntmps20
  go_upto_region 2 with (fail)
  try rw [Hw1.out]
  try rw [hB]
  clear Hw1 hB
  go_wp2_with (refine wpList_load_row rfl 41 (.tmp 2) rfl B rfl 41 (LA S) (0, 0) _ HK1.out Tryd.underlying41 rfl (by rw [infoL, LA_size]) ?_)
  refine (putIn_any S t0 w1 Hs ht0 Hd (Lib.hid (HT.out.kept Hb1.out))).mono ?_
  rintro e w2 ⟨A, C, ok, rfl, hpr, hb2⟩
  rw [Hpe.out] at hpr
  have Hpr := Lib.hid hpr
  have hb3 := Hb1.out.trans (hb2.mono Hb1.out.size)
  have HK3 : Hid ((w2.alloc (.cells #[.int .i64 A, .int .i64 C] 35)).heap[B]? = some (.cells (LA S) 41 (0, 0))) := Lib.hid ((Below.heap_alloc _ _ _ (by have := hb2.size; omega)).trans ((hb2.block _ hB1).trans HK1.out))
  have HC3 : Hid (KC (w2.alloc (.cells #[.int .i64 A, .int .i64 C] 35)) none w2.heap.size A C) := Lib.hid ⟨heap_alloc_new w2 _, fun a h => by cases h⟩
  have Hb3 := Lib.hid (hb3.alloc hb3.size (.cells #[.int .i64 A, .int .i64 C] 35))
  have hBP : B < w2.heap.size := by have := hb2.size; omega
  clear hb2 hb3 hpr HK1 Hb1
  go_wp2_with fail
  go_loopw [1, 5, 6, 7] (fun tv v pv okv wr => ∃ (k N : Nat) (G : Option Addr) (c P : Nat) (A C : Int) (ok : Bool), tv = .int .u16 (((trs l F t0 k).1 : Nat) : Int) ∧ v = .slice G N c ∧ pv = .pointer (some ⟨P, 0, none⟩) ∧ okv = .bool ok ∧ Hid (TI l F t0 k) ∧ Hid (PR (nxt l F (trs l F t0 k).1) A C ok) ∧ Hid (N = (trs l F t0 k).2.length) ∧
      Hid (wr.ownsRow (B + 1) 35 2 (.slice G N c) N (cs (trs l F t0 k).2)) ∧ B < P ∧ Hid (wr.heap[B]? = some (.cells (LA S) 41 (0, 0))) ∧ Hid (KC wr G P A C) ∧ Below w.heap.size w wr) (fun _ v _ _ _ => 11 - (match v with | .slice _ n _ => n | _ => 0))
  case atStart => exact ⟨0, 0, none, 0, w2.heap.size, A, C, ok, rfl, rfl, rfl, rfl, HI0, Hpr, Lib.hid rfl, Lib.hid (World.ownsRow_nil _ _ _ _), hBP, HK3, HC3, Hb3.out⟩
  case round =>
    clear Hpr HK3 HC3 Hb3 hBP
    obtain ⟨k, N, G, c, P, A, C, ok, rfl, rfl, rfl, rfl, HI, Hpr, HN, Hor, hBP, HK, HC, hbel⟩ := hrel
    have hk := ti_le (by omega) HI.out
    have hNk : N = k := by rw [HN.out, HI.out.len]
    have HNk := Lib.hid hNk
    have hN10 : N ≤ 10 := by omega
    clear hNk
    cases ok with
    | false =>
      have hnone : nxt l F (trs l F t0 k).1 = none := by
        cases e : nxt l F (trs l F t0 k).1 with
        | none => rfl
        | some p => have h := Hpr.out; rw [e] at h; exact absurd h.1 (by decide)
      have Hfin : Hid (wr.ownsRow w.heap.size 35 2 (.slice G N c) (tre l F t0).length (cs (tre l F t0))) := Lib.hid (by rw [tre_stop (by omega) HI.out hnone, ← HN.out]; exact own_base (by rw [HBe.out]; omega) Hor.out)
      go_wp2_with fail
      go_ret
      exact ⟨_, rfl, Hfin.out, hbel⟩
    | true =>
      obtain ⟨p, hp⟩ : ∃ p, nxt l F (trs l F t0 k).1 = some p := by
        cases e : nxt l F (trs l F t0 k).1 with
        | none => have h := Hpr.out; rw [e] at h; exact absurd (show true = false from h) (by decide)
        | some p => exact ⟨p, rfl⟩
      obtain ⟨x, y⟩ := p
      have hPR := Hpr.out
      rw [hp] at hPR
      obtain ⟨hI2, hst, hx, hy, hxy, hbx, hby⟩ := ti_step (by omega) HI.out hp
      have hor' : PR (some (x, y)) A C true := hPR
      have hA : A = (cmm x y).1 := hor'.2.1
      have hC : C = (cmm x y).2 := hor'.2.2
      have hk2 := ti_le (by omega) hI2
      have hs := hbel.size
      have hrC := HC.out.1
      have hPw : P < wr.heap.size := (Array.getElem?_eq_some_iff.1 hrC).1
      have hBw2 : B < wr.heap.size := by omega
      have c0 : wr.cell? ⟨P, 0, none⟩ = some (.int .i64 A) := by rw [cell_of_row _ _ _ _ _ _ hrC]; rfl
      have c1 : wr.cell? ⟨P, 1, none⟩ = some (.int .i64 C) := by rw [cell_of_row _ _ _ _ _ _ hrC]; rfl
      obtain ⟨t, ht'⟩ : ∃ t, (trs l F t0 k).1 = t := ⟨_, rfl⟩
      have htl : t < 1024 := by rw [← ht']; have := HI.out.lt; omega
      have Hst1 : Hid ((trs l F t0 (k + 1)).1 = t ||| 2 ^ x) := Lib.hid (by rw [hst, ht'])
      have Hst2 : Hid ((trs l F t0 (k + 1)).2 = (trs l F t0 k).2 ++ [(A, C)]) := Lib.hid (by rw [hst, hA, hC])
      have HI2 := Lib.hid hI2
      have Hw' : Hid (wthT t [(A, C)] 1 = t ||| 2 ^ x) := Lib.hid (by
        show t ||| (2 ^ A.toNat ||| 2 ^ C.toNat) = _
        rw [hA, hC]
        exact or_in (by rw [← ht']; exact hby))
      have Htwo : Hid (twoB [(A, C)]) := Lib.hid (by
        have := cmm_two x y (by omega) (by omega) hxy
        rw [show (A, C) = cmm x y by rw [hA, hC]]
        exact this)
      have ht2 : t ||| 2 ^ x < 1024 := or_small htl (pow_small x (by omega))
      rw [ht']
      clear hp hPR hor' hI2 hst hA hC hbx hby hrC ht' hx hy hxy
      go_wp2_with (at_builtin; refine wpList_append_lies _ rfl _ _ 24 rfl (B + 1) 35 i0 (.agg #[.int .i64 0, .int .i64 0]) 2 16 Tryd.underlying24 hi iz0 iz1 iz2 rfl (by decide) _ N _ rfl (Hor.out.alloc (.cells #[.int .i64 A, .int .i64 C] 35)) ⟨wr.heap.size, 0, none⟩ 1 1 [.int .i64 A, .int .i64 C] rfl rfl ?c1 ?c2 (by omega) ?c3 ?c4 ?c5 (wr.heap.size + 1) ?c6 ?_)
      case c1 => exact World.news_of_block (cs := #[.int .i64 A, .int .i64 C]) (t := 35) (fr := (0, 0)) (heap_alloc_new _ _)
      case c2 => intro u hu; simp at hu; rcases hu with rfl | rfl <;> rfl
      case c3 => unfold maxLen; omega
      case c4 => omega
      case c5 => simp; omega
      case c6 => simp
      intro g cap6 w6 hown hgr hat _
      have hbA : Below wr.heap.size wr (wr.alloc (.cells #[.int .i64 A, .int .i64 C] 35)) := bel_alloc _
      have hor6 : w6.ownsRow (B + 1) 35 2 (.slice (some ⟨g, 0, none⟩) (N + 1) cap6) (N + 1) (cs (trs l F t0 (k + 1)).2) := by rw [Hst2.out, cs_append]; exact hown
      have hK6 : w6.heap[B]? = some (.cells (LA S) 41 (0, 0)) := (hgr.block B (by simp; omega) (fun e => by have := (Hor.out.lt B e.symm).1; omega)).trans ((hbA.block B hBw2).trans HK.out)
      have hC6 : w6.heap[P]? = some (.cells #[.int .i64 A, .int .i64 C] 35 (0, 0)) := (hgr.block P (by simp; omega) (fun e => by
        cases G with
        | none => cases e
        | some a => exact HC.out.2 a rfl (Option.some.inj e).symm)).trans ((hbA.block P hPw).trans HC.out.1)
      have hb6 := (hbel.alloc hs (.cells #[.int .i64 A, .int .i64 C] 35)).grown hgr (by simp; omega) (fun b hb => by have := (Hor.out.lt b hb).1; rw [HBe.out]; omega)
      have c0 : w6.cell? ⟨P, 0, none⟩ = some (.int .i64 A) := by rw [cell_of_row _ _ _ _ _ _ hC6]; rfl
      have c1 : w6.cell? ⟨P, 1, none⟩ = some (.int .i64 C) := by rw [cell_of_row _ _ _ _ _ _ hC6]; rfl
      have Hor6 := Lib.hid hor6
      have HK6 := Lib.hid hK6
      have HC6 := Lib.hid hC6
      have Hb6 := Lib.hid hb6
      have hs6 := hb6.size
      have hP6 : P < w6.heap.size := (Array.getElem?_eq_some_iff.1 hC6).1
      clear hown hgr hat hbA hor6 hK6 hC6 hb6 Hor HK HC hbel
      go_wp2_with fail
      have hbl : Below w6.heap.size w6 (w6.alloc (.cells #[.int .i64 A, .int .i64 C] 35)) := bel_alloc _
      refine (with_any t (some ⟨w6.heap.size, 0, none⟩) 1 [(A, C)] 1 (w6.alloc (.cells #[.int .i64 A, .int .i64 C] 35)) (Lib.hid rfl) (by omega) htl Htwo (Lib.hid (.inr ⟨w6.heap.size, 0, rfl, fun i hi => by
        have : i = 0 := by simp at hi; omega
        subst this
        exact ⟨by simp [ca], by simp [cb]⟩⟩))).mono ?_
      rintro e w7 ⟨rfl, hb7⟩
      have e1 : wthT t [(A, C)] [(A, C)].length = t ||| 2 ^ x := Hw'.out
      rw [e1]
      have hbw7 := hbl.trans (hb7.mono hbl.size)
      have Hor7 := Lib.hid (own_later Hor6.out hbw7)
      have HK7 := Lib.hid ((hbw7.block B (by omega)).trans HK6.out)
      have hC7 := (hbw7.block P hP6).trans HC6.out
      have hb7' := Hb6.out.trans (hbw7.mono Hb6.out.size)
      have hs7 := hb7'.size
      have hP7 : P < w7.heap.size := (Array.getElem?_eq_some_iff.1 hC7).1
      have c0 : w7.cell? ⟨P, 0, none⟩ = some (.int .i64 A) := by rw [cell_of_row _ _ _ _ _ _ hC7]; rfl
      have c1 : w7.cell? ⟨P, 1, none⟩ = some (.int .i64 C) := by rw [cell_of_row _ _ _ _ _ _ hC7]; rfl
      obtain ⟨w8, hw8⟩ : ∃ w8, w7.alloc (.cells #[.int .i64 A, .int .i64 C] 35) = w8 := ⟨_, rfl⟩
      obtain ⟨Q, hQ⟩ : ∃ Q, w7.heap.size = Q := ⟨_, rfl⟩
      have hb8 : Below w7.heap.size w7 w8 := by rw [← hw8]; exact bel_alloc _
      have HQ8 : Hid (w8.heap[Q]? = some (.cells #[.int .i64 A, .int .i64 C] 35 (0, 0))) := Lib.hid (by rw [← hw8, ← hQ]; exact heap_alloc_new _ _)
      have HK8 := Lib.hid ((hb8.block B (by omega)).trans HK7.out)
      have Hor8 := Lib.hid (own_later Hor7.out hb8)
      have hgQ : g < Q := by rw [← hQ]; exact (Hor7.out.lt g rfl).2
      have Hb8 := Lib.hid (hb7'.trans (hb8.mono hs7))
      have hBQ : B < Q := by omega
      have hQ8 : Q < w8.heap.size := (Array.getElem?_eq_some_iff.1 HQ8.out).1
      have Hw8 := Lib.hid hw8
      clear hb7 hbl hbw7 hC7 hb7' hb8 Hor6 HK6 HC6 Hb6 Hor7 HK7 hw8
      go_upto_region 4 with (fail)
      try rw [Hw8.out]
      try rw [hQ]
      clear Hw8 hQ c0 c1
      go_wp2_with (refine wpList_load_row rfl 41 (.tmp 2) rfl B rfl 41 (LA S) (0, 0) _ HK8.out Tryd.underlying41 rfl (by rw [infoL, LA_size]) ?_)
      refine (putIn_any S (t ||| 2 ^ x) w8 Hs ht2 Hd (Lib.hid (HT.out.kept Hb8.out))).mono ?_
      rintro e w9 ⟨A2, C2, ok2, rfl, hpr2, hb9⟩
      rw [Hpe.out, ← Hst1.out] at hpr2
      have Hpr2 := Lib.hid hpr2
      have hQ9 := (hb9.block Q hQ8).trans HQ8.out
      have d0 : w9.cell? ⟨Q, 0, none⟩ = some (.int .i64 A) := by rw [cell_of_row _ _ _ _ _ _ hQ9]; rfl
      have d1 : w9.cell? ⟨Q, 1, none⟩ = some (.int .i64 C) := by rw [cell_of_row _ _ _ _ _ _ hQ9]; rfl
      have z0 := frozen_of_row w9 Q 0 _ _ hQ9
      have z1 := frozen_of_row w9 Q 1 _ _ hQ9
      have HC10 : Hid (KC ((w9.setCell ⟨Q, 0, none⟩ (.int .i64 A2)).setCell ⟨Q, 1, none⟩ (.int .i64 C2)) (some ⟨g, 0, none⟩) Q A2 C2) := Lib.hid ⟨setC hQ9 _ _, fun a h => by cases h; show g ≠ Q; omega⟩
      have Hor10 := Lib.hid (((own_later Hor8.out hb9).kept (w' := (w9.setCell ⟨Q, 0, none⟩ (.int .i64 A2)).setCell ⟨Q, 1, none⟩ (.int .i64 C2)) (row := some Q) ⟨rfl, rfl, rfl, by simp, fun b hb hne => by
        have hbQ : b ≠ Q := fun e => hne (by rw [e])
        rw [heap_setCell_other _ _ _ _ (by show b ≠ Q; exact hbQ), heap_setCell_other _ _ _ _ (by show b ≠ Q; exact hbQ)]⟩ (.inr (fun h => by have h9 : g = Q := Option.some.inj h; omega))))
      have HK10 : Hid (((w9.setCell ⟨Q, 0, none⟩ (.int .i64 A2)).setCell ⟨Q, 1, none⟩ (.int .i64 C2)).heap[B]? = some (.cells (LA S) 41 (0, 0))) := Lib.hid (by
        rw [heap_setCell_other _ _ _ _ (by show B ≠ Q; omega), heap_setCell_other _ _ _ _ (by show B ≠ Q; omega)]
        exact (hb9.block B (by omega)).trans HK8.out)
      have Hb10 := Lib.hid (((Hb8.out.trans (hb9.mono Hb8.out.size)).setCell (p := ⟨Q, 0, none⟩) (by show _ ≤ Q; rw [HBe.out]; omega) (.int .i64 A2)).setCell (p := ⟨Q, 1, none⟩) (by show _ ≤ Q; rw [HBe.out]; omega) (.int .i64 C2))
      have HN2 : Hid (N + 1 = (trs l F t0 (k + 1)).2.length) := Lib.hid (by rw [HI2.out.len, HNk.out])
      clear hpr2 hb9 hQ9 Hor8 HK8 Hb8 HQ8
      go_wp2_with fail
      go_roundw
      case rel => exact ⟨k + 1, N + 1, some ⟨g, 0, none⟩, cap6, Q, A2, C2, ok2, by rw [Hst1.out], rfl, rfl, rfl, HI2, Hpr2, HN2, Hor10, hBQ, HK10, HC10, Hb10.out⟩
      case measure => simp; omega

end Go.Proofs.YtibjapfaljeclaaDoor
