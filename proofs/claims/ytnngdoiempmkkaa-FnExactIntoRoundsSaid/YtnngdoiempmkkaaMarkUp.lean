/- Marks on lists of lists: what they leave as it was. -/
import Derived.Test.YtnngdoiempmkkaaRowsI
namespace Go.Proofs.Ytnngdoiempmkkaa
open Go.ChangeShapes Go.WideShapes Go.ChangeAt Go.RowKit
set_option linter.unusedVariables false


/-- From a bound on nothing that was there has turned. -/
def Above (B : Nat) (w w' : World) : Prop := w.heap.size ≤ w'.heap.size ∧ ∀ k, B ≤ k → k < w.heap.size → w'.heap[k]? = w.heap[k]?
theorem Above.refl (B : Nat) (w : World) : Above B w w := ⟨Nat.le_refl _, fun _ _ _ => rfl⟩
theorem Above.grown {B : Nat} {w wr w2 : World} {r : Option Nat} (h : Above B w wr) (hg : wr.grownBy w2 r) (hr : ∀ b, r = some b → b < B) : Above B w w2 :=
  ⟨Nat.le_trans h.1 hg.size, fun k h1 h2 => (hg.block k (by have := h.1; omega) (fun e => by have := hr k e.symm; omega)).trans (h.2 k h1 h2)⟩
theorem own_above {B : Nat} {w w' : World} {base : Nat} {e : TypeId} {size : Nat} {v : Value} {n : Nat} {xs : List Value} (h : w.ownsRow base e size v n xs) (ha : Above B w w') (hb : B ≤ base) : w'.ownsRow base e size v n xs :=
  own_same h (fun k hk => ha.2 k (by have := (h.lt k hk).1; omega) (h.lt k hk).2)
theorem OwnCS.lowB {w : World} {base B : Nat} {v : Value} {X : List Value} {L : List (List (Int × Int))} (h : OwnCS w base v X L) (hB : w.heap.size ≤ B) : ∀ (i : Nat) (y : Value) (b : Nat), X[i]? = some y → y.ownBlock = some b → b < B := by
  intro i y b hy hb
  have hlX : i < X.length := (List.getElem?_eq_some_iff.1 hy).1
  have hl2 : i < L.length := by rw [← h.2.1]; exact hlX
  have := ((h.2.2.1 i y _ hy (List.getElem?_eq_getElem hl2)).1.lt b hb).2
  omega
set_option maxRecDepth 20000 in
theorem markCallSSa_pos (X : List Value) (B : Nat) (HB : Hid (∀ (i : Nat) (y : Value) (b : Nat), X[i]? = some y → y.ownBlock = some b → b < B)) (base g cap : Nat) (L : List (List (Int × Int))) (n : Nat) (w : World) (Hn : Hid (n = L.length)) (hn : n ≤ 1048576) (hL : Hid (∀ i, (crow L i).length ≤ 1048576)) (hbg : base ≤ g)
    (h : OwnCS w base (.slice (some ⟨g, 0, none⟩) n cap) X L) :
    Calls Try.prog 15 #[.slice (some ⟨g, 0, none⟩) n cap, .int .i64 1] w fun e w' => e = .returned (.int .i64 (1 + (cctot L n : Int))) ∧ OwnCS w' base (.slice (some ⟨g, 0, none⟩) n cap) X (mcs L n) ∧ Below base w w' ∧ Above B w w' := by
  have Hh := Lib.hid h
  clear h
  go_enter Try.func15, Try.ntmps15
  go_wp2_with fail
  go_loopw [1, 5] (fun k i wr => ∃ j : Nat, j ≤ n ∧ i = .int .i64 j ∧ k = .int .i64 (1 + (cctot L j : Int)) ∧ OwnCS wr base (.slice (some ⟨g, 0, none⟩) n cap) X (mcs L j) ∧ Below base w wr ∧ Above B w wr) (fun _ i _ => n - (intOf i).toNat)
  case atStart => exact ⟨0, Nat.zero_le _, rfl, by simp [cctot], by rw [mcs_zero]; exact Hh.out, Below.refl _ _, Above.refl _ _⟩
  case round =>
    obtain ⟨j, hj, rfl, rfl, hor, hbel, hab⟩ := hrel
    by_cases hlt : j < n
    · have hjL : j < L.length := by rw [← Hn.out]; exact hlt
      obtain ⟨a, c, hx, hc, ho⟩ := hor.cellOf (by rw [mcs_length]; exact Hn.out) j (by rw [mcs_length]; exact hjL)
      have hrow : crow (mcs L j) j = crow L j := by simp [crow, List.getD_eq_getElem?_getD, mcs_row hjL]
      rw [hrow] at hx hc ho
      have hct := cctot_le hL.out j
      have hlr := hL.out j
      have Hor := Lib.hid hor
      have Hx := Lib.hid hx
      have Hm := Lib.hid (markCallS_any base (.slice a (crow L j).length c) (crow L j) _ wr (1 + (cctot L j : Int)) (by omega) (by omega) rfl (by omega) ho)
      have Hlow : Hid (∀ k, (Value.slice a (crow L j).length c).ownBlock = some k → base ≤ k) := fun k hk => (ho.lt k hk).1
      have Hsucc : Hid (cctot L (j + 1) = cctot L j + 2 * (crow L j).length) := rfl
      have hgs : base ≤ wr.heap.size := Nat.le_trans hbg (Nat.le_of_lt (hor.1.lt g rfl).2)
      clear hor hx ho hrow
      go_wp2_with fail
      refine Hm.out.mono ?_
      rintro e w2 ⟨rfl, own2, hg2⟩
      have hb2 : Below base w w2 := hbel.grown hg2 hgs Hlow.out
      have hab2 : Above B w w2 := hab.grown hg2 (fun b hb => HB.out j _ b Hx.out hb)
      have own3 := own2
      rw [show (crow L j).length = (marks (1 + (cctot L j : Int)) (crow L j) (crow L j).length).length from (marks_length _ _ _).symm] at own3
      have hz := Hor.out.set j _ _ Hx.out (by rw [mcs_length]; exact hjL) (by rw [marks_length] at own3 ⊢; exact own2) hg2
      rw [mcs_set hjL] at hz
      have Hz := Lib.hid hz
      clear hz own2 own3 hg2 hbel
      go_wp2_with fail
      go_roundw
      case rel => exact ⟨j + 1, by omega, by go_num, by rw [Hsucc.out]; go_num, Hz.out, hb2, hab2⟩
      case measure => simp [intOf]; omega
    · obtain rfl : j = n := by omega
      have Hor := Lib.hid hor
      clear hor
      go_wp2_with fail
      go_ret
      exact ⟨rfl, Hor.out, hbel, hab⟩


theorem markCallSSa_any (B base : Nat) (v : Value) (X : List Value) (HB : Hid (∀ (i : Nat) (y : Value) (b : Nat), X[i]? = some y → y.ownBlock = some b → b < B)) (L : List (List (Int × Int))) (w : World) (hn : L.length ≤ 1048576) (hL : ∀ i, (crow L i).length ≤ 1048576) (h : OwnCS w base v X L) :
    Calls Try.prog 15 #[v, .int .i64 1] w fun e w' => e = .returned (.int .i64 (1 + (cctot L L.length : Int))) ∧ OwnCS w' base v X (mcs L L.length) ∧ Below base w w' ∧ Above B w w' := by
  by_cases h0 : L.length = 0
  · have hL0 : L = [] := List.eq_nil_of_length_eq_zero h0
    subst hL0
    obtain ⟨ao, cap, rfl, _⟩ := h.reads
    refine (markCallSS_zero ao cap w).mono ?_
    rintro e w' ⟨rfl, rfl⟩
    exact ⟨rfl, h, Below.refl _ _, Above.refl _ _⟩
  · obtain ⟨g, cap, rfl, hbg⟩ := h.outer (by omega)
    exact markCallSSa_pos X B HB base g cap L _ w rfl hn hL hbg h

end Go.Proofs.Ytnngdoiempmkkaa
