/- The program's circle. -/
import Derived.Test.YtbddhjpofijmpaaAddI
import Derived.Test.YtbddhjpofijmpaaNetL
namespace Go.Proofs.Ytbddhjpofijmpaa
open Go.ChangeShapes Go.WideShapes Go.ChangeAt Go.RowKit
set_option linter.unusedVariables false


theorem circ_ins : ∀ F : Nat, F < 11 → 3 ≤ F → netB F (wholeP (pr 0 0 F) F F) = true ∧ calB F 0 ((F : Int) - 1) = true ∧ hasC (wholeP (pr 0 0 F) F F) 0 ((F : Int) - 1) = false ∧ ins (wholeP (pr 0 0 F) F F) 0 ((F : Int) - 1) = wholeP (pr 1 0 F) F F := by decide
theorem line_pos : ∀ F : Nat, F < 11 → 3 ≤ F → 0 < (wholeP (pr 0 0 F) F F).length := by decide
theorem circ_add (F : Nat) (h1 : 3 ≤ F) (h2 : F < 11) : addB F (wholeP (pr 0 0 F) F F) 0 ((F : Int) - 1) = true ∧ addR F (wholeP (pr 0 0 F) F F) 0 ((F : Int) - 1) = wholeP (pr 1 0 F) F F := by
  obtain ⟨a, b, c, d⟩ := circ_ins F h2 h1
  have : addB F (wholeP (pr 0 0 F) F F) 0 ((F : Int) - 1) = true := by simp [addB, a, b, c]
  exact ⟨this, by rw [addR, this]; exact d⟩

set_option maxRecDepth 20000 in
theorem implCircle_yes (F x : Nat) (w : World) (hok : Hid (decide (3 ≤ F) = true)) (hF : F ≤ 10) (hx : x ≤ 10) :
    Calls Try.prog 22 #[.int .i64 F] w fun e w' => ∃ v, e = .returned (.tuple #[v, .bool true]) ∧ w'.ownsRow w.heap.size 46 2 v (wholeP (pr 1 0 F) F F).length (cs (wholeP (pr 1 0 F) F F)) ∧ Below w.heap.size w w' := by
  have hF1 : 3 ≤ F := by simpa using hok.out
  have Hadd := Lib.hid (circ_add F hF1 (by omega))
  have Hpos := Lib.hid (line_pos F (by omega) hF1)
  have Hline := Lib.hid (implLine_yes F 0 w (by show _ = _; simp; omega) hF (by omega))
  have Hlen := Lib.hid (wholeP_len (pr 0 0 F) hF F)
  have hd : decide ((F : Int) < 3) = false := by simp; omega
  generalize hL : wholeP (pr 0 0 F) F F = L at Hadd Hpos Hline Hlen
  clear hL
  go_enter Try.func22, Try.ntmps22
  go_wp2_with fail
  refine Hline.out.mono ?_
  rintro e w1 ⟨v, rfl, own, hb⟩
  obtain ⟨g, cap, rfl⟩ := own_apos own Hpos.out
  have hown := own_at own rfl
  have hcap : L.length ≤ cap := by
    rcases own.2 with ⟨hv, h0⟩ | ⟨g', cap', cur, hv, _, _, rest⟩
    · cases hv
    · cases hv; exact rest.1
  have Hcells : Hid (∀ i, i < L.length → w1.cell? ⟨g, 0 + i * 2, none⟩ = some (.int .i64 (ca L i)) ∧ w1.cell? ⟨g, 0 + i * 2 + 1, none⟩ = some (.int .i64 (cb L i))) := Lib.hid (by
    rcases hown with h | ⟨b, off, he, hc⟩
    · have := Hpos.out; rw [h] at this; exact absurd this (Nat.lt_irrefl 0)
    · cases he; exact hc)
  clear hown own Hline
  have Hb := Lib.hid hb
  obtain ⟨N, hN⟩ : ∃ N, L.length = N := ⟨_, rfl⟩
  have HN := Lib.hid hN
  have hN100 : N ≤ 1048576 := by have := Hlen.out; omega
  rw [hN] at hcap
  rw [hN]
  clear hb hN
  go_wp2_with fail
  refine (implAdd_any w1 g 0 cap F 0 ((F : Int) - 1) L N HN.out.symm hN100 hcap Hcells.out).mono ?_
  rintro e w2 ⟨v2, rfl, own2, hb2⟩
  rw [Hadd.out.1]
  rw [Hadd.out.2] at own2
  have hb3 : Below w.heap.size w w2 := Hb.out.trans (hb2.mono Hb.out.size)
  obtain ⟨ao2, cap2, rfl, _⟩ := own_shape own2 rfl
  have Own := Lib.hid (own_base Hb.out.size own2)
  clear own2 hb2
  go_wp2_with fail
  go_ret2
  exact ⟨_, rfl, Own.out, hb3⟩

theorem implCircle_any (w : World) (f : Int) :
    Calls Try.prog 22 #[.int .i64 f] w fun e w' => ∃ v, e = .returned (.tuple #[v, .bool (decide (3 ≤ f ∧ f ≤ 10))]) ∧ w'.ownsRow w.heap.size 46 2 v (netR (decide (3 ≤ f ∧ f ≤ 10)) 1 0 f).length (cs (netR (decide (3 ≤ f ∧ f ≤ 10)) 1 0 f)) ∧ Below w.heap.size w w' := by
  cases hok : decide (3 ≤ f ∧ f ≤ 10)
  · have Hno : Hid (netR (decide (3 ≤ f ∧ f ≤ 10)) 1 0 f = []) := Lib.hid (by rw [hok]; rfl)
    rw [hok] at Hno
    have HOK := Lib.hid hok
    clear hok
    cases hf : frB f
    · have Hf := Lib.hid hf
      clear hf
      have Hl := Lib.hid (implLine_any w f)
      go_enter Try.func22, Try.ntmps22
      go_wp2_with fail
      refine Hl.out.mono ?_
      rintro e w1 ⟨v, rfl, own, hb⟩
      rw [Hf.out]
      obtain ⟨ao2, cap2, rfl, _⟩ := own_shape own rfl
      clear own Hl
      generalize (netR (frB f) 0 0 f).length = N at *
      go_wp2_with fail
      go_ret2
      exact ⟨.slice none 0 0, rfl, by rw [Hno.out]; exact World.ownsRow_nil _ _ _ _, hb⟩
    · have Hf := Lib.hid hf
      have hff : 1 ≤ f ∧ f ≤ 10 := by simpa [frB] using hf
      have hlt : decide (f < 3) = true := by
        have := HOK.out
        simp at this
        simp
        omega
      have Hl := Lib.hid (implLine_any w f)
      clear hf hff
      go_enter Try.func22, Try.ntmps22
      go_wp2_with fail
      refine Hl.out.mono ?_
      rintro e w1 ⟨v, rfl, own, hb⟩
      rw [Hf.out]
      obtain ⟨ao2, cap2, rfl, _⟩ := own_shape own rfl
      clear own Hl
      generalize (netR (frB f) 0 0 f).length = N at *
      go_wp2_with fail
      go_ret2
      exact ⟨.slice none 0 0, rfl, by rw [Hno.out]; exact World.ownsRow_nil _ _ _ _, hb⟩
  · rw [show netR true 1 0 f = wholeP (pr 1 0 f.toNat) f.toNat f.toNat from rfl]
    have hf : 3 ≤ f ∧ f ≤ 10 := by simpa [frB] using hok
    obtain ⟨F, rfl⟩ := Int.eq_ofNat_of_zero_le (show 0 ≤ f by omega)
    exact implCircle_yes F 0 w (by show _ = _; simp; omega) (by omega) (by omega)

end Go.Proofs.Ytbddhjpofijmpaa
