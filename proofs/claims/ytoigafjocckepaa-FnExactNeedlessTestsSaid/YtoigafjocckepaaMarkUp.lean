/- Marks on lists of lists: what they leave as it was. -/
import Derived.Test.YtoigafjocckepaaRowsI
namespace Go.Proofs.Ytoigafjocckepaa
open Go.ChangeShapes Go.WideShapes Go.ChangeAt Go.RowKit
set_option linter.unusedVariables false

/-- From a bound on nothing that was there has turned. -/
def Above (B : Nat) (w w' : World) : Prop := w.heap.size ≤ w'.heap.size ∧ ∀ k, B ≤ k → k < w.heap.size → w'.heap[k]? = w.heap[k]?

theorem Above.refl (B : Nat) (w : World) : Above B w w := ⟨Nat.le_refl _, fun _ _ _ => rfl⟩

theorem Above.grown {B : Nat} {w wr w2 : World} {r : Option Nat} (h : Above B w wr) (hg : wr.grownBy w2 r) (hr : ∀ b, r = some b → b < B) : Above B w w2 :=
  ⟨Nat.le_trans h.1 hg.size, fun k h1 h2 => (hg.block k (by have := h.1; omega) (fun e => by have := hr k e.symm; omega)).trans (h.2 k h1 h2)⟩

theorem own_above {B : Nat} {w w' : World} {base : Nat} {e : TypeId} {size : Nat} {v : Value} {n : Nat} {xs : List Value} (h : w.ownsRow base e size v n xs) (ha : Above B w w') (hb : B ≤ base) : w'.ownsRow base e size v n xs :=
  own_same h (fun k hk => ha.2 k (by have := (h.lt k hk).1; omega) (h.lt k hk).2)

theorem OwnSS.lowB {w : World} {base B : Nat} {v : Value} {X : List Value} {L : List (List Int)} (h : OwnSS w base v X L) (hB : w.heap.size ≤ B) : ∀ (i : Nat) (y : Value) (b : Nat), X[i]? = some y → y.ownBlock = some b → b < B := by
  intro i y b hy hb
  have hlX : i < X.length := (List.getElem?_eq_some_iff.1 hy).1
  have hl2 : i < L.length := by rw [← h.2.1]; exact hlX
  have := ((h.2.2.1 i y _ hy (List.getElem?_eq_getElem hl2)).1.lt b hb).2
  omega

theorem OwnSS.above {B : Nat} {w w' : World} {base : Nat} {v : Value} {X : List Value} {L : List (List Int)} (h : OwnSS w base v X L) (ha : Above B w w') (hb : B ≤ base) : OwnSS w' base v X L :=
  ⟨own_above h.1 ha hb, h.2.1, fun i x l hx hl => ⟨own_above (h.2.2.1 i x l hx hl).1 ha hb, (h.2.2.1 i x l hx hl).2⟩, h.2.2.2⟩

theorem Above.one {B : Nat} {w w' : World} {r : Option Nat} (hg : w.grownBy w' r) (hr : ∀ b, r = some b → b < B) : Above B w w' := (Above.refl B w).grown hg hr


/-- The first j lists written over by marks. -/
def msc (c : Int) (L : List (List Int)) (j : Nat) : List (List Int) := (List.range L.length).map fun i => if i < j then nmarks (c + (ctot L i : Int)) (row L i) (row L i).length else row L i

theorem msc_length (c : Int) (L : List (List Int)) (j : Nat) : (msc c L j).length = L.length := by simp [msc]

theorem msc_zero (c : Int) (L : List (List Int)) : msc c L 0 = L := by
  apply List.ext_getElem?
  intro i
  by_cases h : i < L.length
  · simp [msc, h, ← row_get h]
  · simp [msc, h]

theorem msc_row {c : Int} {L : List (List Int)} {j i : Nat} (h : i < L.length) : (msc c L j)[i]? = some (if i < j then nmarks (c + (ctot L i : Int)) (row L i) (row L i).length else row L i) := by
  simp [msc, h]

theorem msc_set {c : Int} {L : List (List Int)} {j : Nat} (h : j < L.length) : (msc c L j).set j (nmarks (c + (ctot L j : Int)) (row L j) (row L j).length) = msc c L (j + 1) := by
  apply List.ext_getElem?
  intro i
  by_cases hi : i < L.length
  · by_cases hij : j = i
    · subst hij
      rw [List.getElem?_set_self (by rw [msc_length]; exact h), msc_row h, if_pos (Nat.lt_succ_self j)]
    · rw [List.getElem?_set_ne hij, msc_row hi, msc_row hi]
      by_cases hlt : i < j
      · rw [if_pos hlt, if_pos (by omega)]
      · rw [if_neg hlt, if_neg (by omega)]
  · rw [List.getElem?_eq_none (by rw [List.length_set, msc_length]; omega), List.getElem?_eq_none (by rw [msc_length]; omega)]


set_option maxRecDepth 20000 in
theorem markIntSSa_pos (X : List Value) (B : Nat) (HB : Hid (∀ (i : Nat) (y : Value) (b : Nat), X[i]? = some y → y.ownBlock = some b → b < B)) (base g cap : Nat) (L : List (List Int)) (n : Nat) (c0 : Int) (w : World) (hc0 : 0 ≤ c0) (hc1 : c0 ≤ 4000000) (Hn : Hid (n = L.length)) (hn : n ≤ 1048576) (hL : Hid (ctot L n ≤ 1048576)) (hbg : base ≤ g)
    (h : OwnSS w base (.slice (some ⟨g, 0, none⟩) n cap) X L) :
    Calls Try.prog 17 #[.slice (some ⟨g, 0, none⟩) n cap, .int .i64 c0] w fun e w' => e = .returned (.int .i64 (c0 + (ctot L n : Int))) ∧ Below base w w' ∧ Above B w w' := by
  have Hh := Lib.hid h
  clear h
  go_enter Try.func17, Try.ntmps17
  go_wp2_with fail
  go_loopw [1, 5] (fun k i wr => ∃ j : Nat, j ≤ n ∧ i = .int .i64 j ∧ k = .int .i64 (c0 + (ctot L j : Int)) ∧ OwnSS wr base (.slice (some ⟨g, 0, none⟩) n cap) X (msc c0 L j) ∧ Below base w wr ∧ Above B w wr) (fun _ i _ => n - (intOf i).toNat)
  case atStart => exact ⟨0, Nat.zero_le _, rfl, by simp [ctot], by rw [msc_zero]; exact Hh.out, Below.refl _ _, Above.refl _ _⟩
  case round =>
    obtain ⟨j, hj, rfl, rfl, hor, hbel, hab⟩ := hrel
    by_cases hlt : j < n
    · have hjL : j < L.length := by rw [← Hn.out]; exact hlt
      obtain ⟨a, c, hx, hc, ho⟩ := hor.cellOf (by rw [msc_length]; exact Hn.out) j (by rw [msc_length]; exact hjL)
      have hrow : row (msc c0 L j) j = row L j := by simp [row, List.getD_eq_getElem?_getD, msc_row hjL]
      rw [hrow] at hx hc ho
      have hct := Nat.le_trans (ctot_mono L (i := j + 1) (j := n) (by omega)) hL.out
      have hct2 : ctot L (j + 1) = ctot L j + (row L j).length := rfl
      have Hor := Lib.hid hor
      have Hx := Lib.hid hx
      have Hm := Lib.hid (markIntS_any base (.slice a (row L j).length c) (row L j) _ wr (c0 + (ctot L j : Int)) (by omega) (by omega) rfl (by omega) ho)
      have Hlow : Hid (∀ k, (Value.slice a (row L j).length c).ownBlock = some k → base ≤ k) := fun k hk => (ho.lt k hk).1
      have Hsucc : Hid (ctot L (j + 1) = ctot L j + (row L j).length) := rfl
      have hgs : base ≤ wr.heap.size := Nat.le_trans hbg (Nat.le_of_lt (hor.1.lt g rfl).2)
      clear hor hx ho hrow
      go_wp2_with fail
      refine Hm.out.mono ?_
      rintro e w2 ⟨rfl, own2, hg2⟩
      have hb2 : Below base w w2 := hbel.grown hg2 hgs Hlow.out
      have hab2 : Above B w w2 := hab.grown hg2 (fun b hb => HB.out j _ b Hx.out hb)
      have own3 := own2
      rw [show (row L j).length = (nmarks (c0 + (ctot L j : Int)) (row L j) (row L j).length).length from (nmarks_length _ _ _).symm] at own3
      have hz := Hor.out.set j _ _ Hx.out (by rw [msc_length]; exact hjL) (by rw [nmarks_length] at own3 ⊢; exact own2) hg2
      rw [msc_set hjL] at hz
      have Hz := Lib.hid hz
      clear hz own2 own3 hg2 hbel
      go_wp2_with fail
      go_roundw
      case rel => exact ⟨j + 1, by omega, by go_num, by rw [Hsucc.out]; go_num, Hz.out, hb2, hab2⟩
      case measure => simp [intOf]; omega
    · obtain rfl : j = n := by omega
      clear hor
      go_wp2_with fail
      go_ret
      exact ⟨rfl, hbel, hab⟩

theorem markIntSSa_zero (ao : Option Addr) (cap : Nat) (c0 : Int) (w : World) (hc0 : 0 ≤ c0) (hc1 : c0 ≤ 4000000) : Calls Try.prog 17 #[.slice ao 0 cap, .int .i64 c0] w fun e w' => e = .returned (.int .i64 c0) ∧ w = w' := by
  go_enter Try.func17, Try.ntmps17
  go_wp2_with fail
  go_rounds 1
  go_ret
  exact ⟨rfl, rfl⟩

theorem markIntSSa_any (B base : Nat) (v : Value) (X : List Value) (HB : Hid (∀ (i : Nat) (y : Value) (b : Nat), X[i]? = some y → y.ownBlock = some b → b < B)) (L : List (List Int)) (c0 : Int) (w : World) (hc0 : 0 ≤ c0) (hc1 : c0 ≤ 4000000) (hn : L.length ≤ 1048576) (hL : ctot L L.length ≤ 1048576) (h : OwnSS w base v X L) :
    Calls Try.prog 17 #[v, .int .i64 c0] w fun e w' => e = .returned (.int .i64 (c0 + (ctot L L.length : Int))) ∧ Below base w w' ∧ Above B w w' := by
  by_cases h0 : L.length = 0
  · have hL0 : L = [] := List.eq_nil_of_length_eq_zero h0
    subst hL0
    obtain ⟨ao, cap, rfl, _⟩ := h.reads
    refine (markIntSSa_zero ao cap c0 w hc0 hc1).mono ?_
    rintro e w' ⟨rfl, rfl⟩
    exact ⟨by simp [ctot], Below.refl _ _, Above.refl _ _⟩
  · obtain ⟨g, cap, rfl, hbg⟩ := h.outer (by omega)
    exact markIntSSa_pos X B HB base g cap L _ c0 w hc0 hc1 rfl hn hL hbg h

end Go.Proofs.Ytoigafjocckepaa
