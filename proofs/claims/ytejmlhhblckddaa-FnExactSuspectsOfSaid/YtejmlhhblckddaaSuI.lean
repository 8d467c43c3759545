/- Suspects: the program. -/
import Derived.Test.YtejmlhhblckddaaSu
import Derived.Test.YtejmlhhblckddaaHsI
import Derived.Test.YtejmlhhblckddaaLi
import Derived.Test.YtejmlhhblckddaaRs1
import Derived.Lib.OthersKept
import Derived.Deep.RegionWith
namespace Go.Proofs.Ytejmlhhblckddaa
open Go.ChangeShapes Go.WideShapes Go.ChangeAt Go.RowKit
set_option linter.unusedVariables false


theorem iter_other {w : World} {k j : Nat} {s : ByteArray} {p : Nat} (h : j ≠ k) : (w.iterAt k s p).heap[j]? = w.heap[j]? := by
  simp [World.iterAt, Array.getElem?_setIfInBounds_ne (Ne.symm h)]
theorem below_iter {B : Nat} {w wr : World} (h : Below B w wr) {k : Nat} (hk : B ≤ k) (s : ByteArray) (p : Nat) : Below B w (wr.iterAt k s p) :=
  ⟨h.os, h.tape, h.output, by show _ ≤ (wr.heap.setIfInBounds k _).size; rw [Array.size_setIfInBounds]; exact h.size, fun j hj => (iter_other (by omega)).trans (h.block j hj)⟩
theorem iter_pos {w : World} {k : Nat} {s : ByteArray} {p : Nat} (h : w.heap[k]? = some (.stringIter s p)) : w.iterPos k = p := by simp [World.iterPos, h]

set_option maxHeartbeats 3200000 in
set_option maxRecDepth 20000 in
theorem implSu_any (w : World) (f : Int) (ao : Option Addr) (cap : Nat) (L : List (List Int)) (n : Nat) (Hn : Hid (n = L.length)) (hn : n ≤ 1048576) (hL : Hid (∀ i, (row L i).length ≤ 1048576)) (Hc : RowsAt w ao L) (s : ByteArray) (hs : s.size ≤ 1048576) :
    Calls Try.prog 29 #[.int .i64 f, .slice ao n cap, .string s] w fun e w' => ∃ v, e = .returned (.tuple #[v, .bool (suB f L s)]) ∧ w'.ownsRow w.heap.size 3 1 v (suR f L s).length (ns (suR f L s)) ∧ Below w.heap.size w w' := by
  have HC := Lib.hid Hc
  have Har := Lib.hid (areResults_any ao n cap s w hn hs)
  rw [Hn.out] at Har
  rw [← Hn.out] at Har
  clear Hc
  cases hg : wiB f L
  · have hB : suB f L s = false := by simp [suB, hg]
    have hR : suR f L s = [] := by simp [suR, hB]
    rw [hR, hB]
    have Hg := Lib.hid hg
    clear hg hR hB
    go_enter Try.func29, Try.ntmps29
    go_wp2_with fail
    refine (areTests_any f ao cap L n w Hn hn hL HC).mono ?_
    rintro e w' ⟨rfl, rfl⟩
    rw [Hg.out]
    go_wp2_with fail
    go_ret2
    exact ⟨_, rfl, World.ownsRow_nil _ _ _ _, Below.refl _ _⟩
  · have Hg := Lib.hid hg
    cases ha : arB n s
    · have hB : suB f L s = false := by simp [suB, ← Hn.out, ha]
      have hR : suR f L s = [] := by simp [suR, hB]
      rw [hR, hB]
      rw [ha] at Har
      clear hg hR hB ha
      go_enter Try.func29, Try.ntmps29
      go_wp2_with fail
      refine (areTests_any f ao cap L n w Hn hn hL HC).mono ?_
      rintro e w' ⟨rfl, rfl⟩
      rw [Hg.out]
      go_wp2_with fail
      refine Har.out.mono ?_
      rintro e w1 ⟨rfl, hb1⟩
      go_wp2_with fail
      go_ret2
      exact ⟨_, rfl, World.ownsRow_nil _ _ _ _, hb1⟩
    · have hB : suB f L s = true := by simp [suB, ← Hn.out, ha, hg]
      have hp := wi_parts hg
      obtain ⟨F, rfl⟩ := Int.eq_ofNat_of_zero_le (a := f) (by omega)
      have hF10 : F ≤ 10 := by omega
      have hR : suR (F : Int) L s = lsT (sm F L s n) 10 := by
        rw [Hn.out, sm_list hF10 hg s]; simp [suR, hB]
      rw [hR, hB]
      rw [ha] at Har
      have hn12 : n ≤ 12 := by have := Hn.out; omega
      have hsz : s.size = n := by
        simp only [arB, Bool.and_eq_true, decide_eq_true_eq] at ha
        exact ha.1
      have hok : okB s = true := by
        simp only [arB, Bool.and_eq_true] at ha
        exact ha.2
      have Hsz := Lib.hid hsz
      have Hok := Lib.hid hok
      have HRw := Lib.hid (fun i (hi : i < L.length) => wi_row hg hi)
      have Hlt := Lib.hid (sm_lt hF10 L s)
      obtain ⟨RES, hRES⟩ : ∃ q, lsT (sm F L s n) 10 = q := ⟨_, rfl⟩
      rw [hRES]
      have HRES := Lib.hid hRES
      clear hg hR hB hp hsz hRES ha hok
      go_enter Try.func29, Try.ntmps29
      go_wp2_with fail
      refine (areTests_any (F : Int) ao cap L n w Hn hn hL HC).mono ?_
      rintro e w' ⟨rfl, rfl⟩
      rw [Hg.out]
      go_wp2_with fail
      refine Har.out.mono ?_
      rintro e w1 ⟨rfl, hb1⟩
      have Hb1 := Lib.hid hb1
      clear hb1
      go_wp2_with fail
      refine (wiresFrom_any w1 0 F (by omega) hF10).mono ?_
      rintro e w2 ⟨v2, rfl, own2, hb2⟩
      rw [Nat.sub_zero] at own2
      have hil : F = (iot 0 F).length := by rw [iot_length]; omega
      obtain ⟨a2, c2, rfl, hn2⟩ := nums_shape own2 hil
      have Hn2 := Lib.hid hn2
      have Hb2 := Lib.hid (Hb1.out.trans (hb2.mono Hb1.out.size))
      have Hil := Lib.hid hil
      have Hir := Lib.hid (iot_ris F)
      clear own2 hb2 hn2 hil
      go_wp2_with fail
      refine (wireListOf_any a2 c2 (F : Int) (by omega) (iot 0 F) F w2 Hil Hir Hn2.out).mono ?_
      rintro e w3 ⟨rfl, hb3⟩
      have Hb3 := Lib.hid (Hb2.out.trans (hb3.mono Hb2.out.size))
      obtain ⟨S0, hS0⟩ : ∃ q, bw (iot 0 F) = q := ⟨_, rfl⟩
      have HS0 : Hid (sm F L s 0 = S0) := hS0
      rw [hS0]
      clear hb3 hS0
      obtain ⟨T, hT⟩ : ∃ T, w3.heap.size = T := ⟨_, rfl⟩
      have hTw : w.heap.size ≤ T := by rw [← hT]; exact Hb3.out.size
      have H0T : Hid (((w3.alloc (.cells #[.int .u16 (S0 : Int)] 55)).alloc (.stringIter s 0)).heap[T]? = some (.cells #[.int .u16 (S0 : Int)] 55 (0, 0))) := by
        show _ = _
        rw [Below.heap_alloc _ _ _ (by simp; omega), heap_new hT]
      have H0I : Hid (((w3.alloc (.cells #[.int .u16 (S0 : Int)] 55)).alloc (.stringIter s 0)).heap[T + 1]? = some (.stringIter s 0)) := heap_new (by simp [hT])
      have H0b : Hid (Below w.heap.size w ((w3.alloc (.cells #[.int .u16 (S0 : Int)] 55)).alloc (.stringIter s 0))) := (Hb3.out.alloc Hb3.out.size _).alloc (by simp; omega) _
      have hT1 : w3.heap.size + 1 = T + 1 := by rw [hT]
      go_wp2_with fail
      go_loopw [] (fun wr => ∃ pos : Nat, pos ≤ n ∧ wr.heap[T]? = some (.cells #[.int .u16 ((sm F L s pos : Nat) : Int)] 55 (0, 0)) ∧ wr.heap[T + 1]? = some (.stringIter s pos) ∧ Below w.heap.size w wr) (fun wr => n - wr.iterPos (T + 1))
      case atStart => exact ⟨0, Nat.zero_le _, by rw [HS0.out]; exact H0T.out, H0I.out, H0b.out⟩
      case round =>
        obtain ⟨pos, hp, hTr, hIr, hbel⟩ := hrel
        have hsz := Hsz.out
        by_cases hlt : pos < n
        · have hps : pos < s.size := by omega
          have hposL : pos < L.length := by have := Hn.out; omega
          have hbyte : (s[pos]'hps).toNat = 48 ∨ (s[pos]'hps).toNat = 49 := by
            have ho := ok_at Hok.out hps
            rw [bt_at s pos hps] at ho
            simpa [okS] using ho
          have ha : (s[pos]'hps).toNat < 128 := by omega
          have hnx : ∀ ty, (Instr.next (.pointer (some ⟨T + 1, 0, none⟩)) true ty).run Try.prog wr = _ := fun ty => Lib.run_next_ascii_at wr (T + 1) s pos ty hIr hps ha
          have hI1 := Lib.iterAt_heap wr (T + 1) s pos (pos + 1) hIr
          have hT1' := (iter_other (w := wr) (k := T + 1) (j := T) (s := s) (p := pos + 1) (by omega)).trans hTr
          have hb1' := below_iter hbel (k := T + 1) (by omega) s (pos + 1)
          have hm := iter_pos hIr
          have hm1 := iter_pos hI1
          obtain ⟨W1, hW1⟩ : ∃ W1, wr.iterAt (T + 1) s (pos + 1) = W1 := ⟨_, rfl⟩
          simp only [hW1] at hnx
          rw [hW1] at hI1 hT1' hb1' hm1
          have HI1 := Lib.hid hI1
          have HT1 := Lib.hid hT1'
          have Hb1' := Lib.hid hb1'
          have Hm := Lib.hid hm
          have Hm1 := Lib.hid hm1
          have hbt := bt_at s pos hps
          clear hI1 hT1' hb1' hm hm1 hTr hIr hW1 hsz
          rcases hbyte with hb | hb
          · have Hs : Hid (sm F L s (pos + 1) = clr (sm F L s pos) (bw (row L pos))) := by show _ = _; simp only [sm, hbt, hb]; rfl
            rw [hb] at hnx
            obtain ⟨b, off, A, C, hao, hc0, hA⟩ : ∃ (b off : Nat) (A : Nat → Option Addr) (C : Nat → Nat), ao = some ⟨b, off, none⟩ ∧ W1.cell? ⟨b, off + pos, none⟩ = some (.slice (A pos) (row L pos).length (C pos)) ∧ NumsAt W1 (A pos) (row L pos) := by
              rcases (HC.out.kept Hb1'.out) with h | ⟨b, off, A, C, h, hc, _⟩
              · subst h; simp at hposL
              · exact ⟨b, off, A, C, h, (hc pos hposL).1, (hc pos hposL).2⟩
            subst hao
            have hr := HRw.out pos hposL
            have Hr := Lib.hid hr.1
            have hrl := hr.2.2
            have HA1 := Lib.hid hA
            have hsl := Hlt.out pos
            have hbl := bw_lt (by omega : (F : Int) ≤ 10) hr.1
            obtain ⟨a1, ha1⟩ : ∃ q, sm F L s pos = q := ⟨_, rfl⟩
            obtain ⟨b1, hb1q⟩ : ∃ q, bw (row L pos) = q := ⟨_, rfl⟩
            rw [ha1, hb1q] at Hs
            rw [ha1] at HT1 hsl
            rw [hb1q] at hbl
            have hWL := fun W (h : NumsAt W (A pos) (row L pos)) => wireListOf_any (A pos) (C pos) (F : Int) (by omega) (row L pos) _ W (Lib.hid rfl) Hr h
            have hWO := fun W => without_any a1 b1 hsl hbl W
            simp only [wv, hb1q] at hWL
            simp only [wv] at hWO
            have hTl : T < W1.heap.size := (Array.getElem?_eq_some_iff.1 HT1.out).1
            have hIl : T + 1 < W1.heap.size := (Array.getElem?_eq_some_iff.1 HI1.out).1
            have c8 : W1.cell? ⟨T, 0, none⟩ = some (.int .u16 (a1 : Int)) := by rw [cell_of_row _ _ _ _ _ _ HT1.out]; rfl
            have hwsz := Hb1'.out.size
            have hp1 : (0 : Int) ≤ pos := by omega
            have hp2 : (pos : Int) < n := by omega
            have HWL := Lib.hid hWL
            have HWO := Lib.hid hWO
            have HA2 : Hid (NumsAt W1.drew (A pos) (row L pos)) := HA1.out.kept (Below.refl _ _).drew
            clear hbt hb hA hr ha1 hb1q hWL hWO ha hbel
            go_upto_region 8 with (fail)
            go_region_with (first
              | (go_at_call 45; refine (HWL.out W1.drew HA2.out).mono ?_; rintro e w4 ⟨rfl, hb4⟩; have HT4 := Lib.hid ((hb4.block T hTl).trans HT1.out); have HI4 := Lib.hid ((hb4.block (T + 1) hIl).trans HI1.out); have Hb4 := Lib.hid (Hb1'.out.drew.trans (hb4.mono hwsz)); have hs4 := hb4.size; have c84 : w4.cell? ⟨T, 0, none⟩ = some (.int .u16 (a1 : Int)) := (by rw [cell_of_row _ _ _ _ _ _ HT4.out]; rfl); clear hb4)
              | (go_at_call 52; refine (HWO.out _).mono ?_; rintro e w5 ⟨rfl, hb5⟩; have HT5 := Lib.hid ((hb5.block T (Nat.lt_of_lt_of_le hTl hs4)).trans HT4.out); have HI5 := Lib.hid ((hb5.block (T + 1) (Nat.lt_of_lt_of_le hIl hs4)).trans HI4.out); have Hb5 := Lib.hid (Hb4.out.trans (hb5.mono (Nat.le_trans hwsz hs4))); have z5 : w5.cell? ⟨T, 0, none⟩ = some (.int .u16 (a1 : Int)) := (by rw [cell_of_row _ _ _ _ _ _ HT5.out]; rfl); have zf5 := frozen_of_row w5 T 0 _ _ HT5.out; clear hb5)
              | fail)
            all_goals (
              have HT6 : Hid ((w5.setCell ⟨T, 0, none⟩ (.int .u16 ((clr a1 b1 : Nat) : Int))).heap[T]? = some (.cells #[.int .u16 ((clr a1 b1 : Nat) : Int)] 55 (0, 0))) := cell1_set HT5.out _
              have HI6 : Hid ((w5.setCell ⟨T, 0, none⟩ (.int .u16 ((clr a1 b1 : Nat) : Int))).heap[T + 1]? = some (.stringIter s (pos + 1))) := (heap_setCell_other _ _ _ _ (by show T + 1 ≠ T; omega)).trans HI5.out
              have Hb6 := Lib.hid (Hb5.out.setCell (p := ⟨T, 0, none⟩) hTw (.int .u16 ((clr a1 b1 : Nat) : Int)))
              have hpi := iter_pos HI6.out
              have Hpi := Lib.hid hpi
              clear hpi
              go_wp2_with fail
              go_roundw
              case rel => exact ⟨pos + 1, by omega, by rw [Hs.out]; exact HT6.out, HI6.out, Hb6.out⟩
              case measure => rw [Hm.out, Hpi.out]; omega)
          · have Hs : Hid (sm F L s (pos + 1) = sm F L s pos) := by show _ = _; simp only [sm, hbt, hb]; rfl
            rw [hb] at hnx
            clear hbt hb ha hbel
            go_wp2_with fail
            go_roundw
            case rel => exact ⟨pos + 1, by omega, by rw [Hs.out]; exact HT1.out, HI1.out, Hb1'.out⟩
            case measure => rw [Hm.out, Hm1.out]; omega
        · obtain rfl : pos = n := by omega
          have hps : ¬ pos < s.size := by omega
          have hnx : ∀ ty, (Instr.next (.pointer (some ⟨T + 1, 0, none⟩)) true ty).run Try.prog wr = _ := fun ty => Lib.run_next_end_at wr (T + 1) s pos ty hIr hps
          have hl := Hlt.out pos
          obtain ⟨a1, ha1⟩ : ∃ q, sm F L s pos = q := ⟨_, rfl⟩
          have hre := HRES.out
          rw [ha1] at hTr hl hre
          have hLa := fun W => list_any a1 hl W
          simp only [wv, hre] at hLa
          have c8 : wr.cell? ⟨T, 0, none⟩ = some (.int .u16 (a1 : Int)) := by rw [cell_of_row _ _ _ _ _ _ hTr]; rfl
          have HLa := Lib.hid hLa
          have Hbel := Lib.hid hbel
          have hws := hbel.size
          clear hTr hIr hsz ha1 hre hLa hbel
          go_wp2_with fail
          refine (HLa.out _).mono ?_
          rintro e w9 ⟨v9, rfl, own9, hb9⟩
          have Ho9 := Lib.hid (own_base hws own9)
          have Hb9 := Lib.hid (Hbel.out.trans (hb9.mono hws))
          clear own9 hb9
          go_wp2_with fail
          go_ret2
          exact ⟨_, rfl, Ho9.out, Hb9.out⟩

end Go.Proofs.Ytejmlhhblckddaa
