/- A list is struck from the map, or taken. -/
import Derived.Test.YtcedacneagpjcaaLp
namespace Go.Proofs.Ytcedacneagpjcaa
open Go.ChangeShapes Go.WideShapes Go.ChangeAt Go.RowKit Go.Maps
set_option linter.unusedVariables false


theorem GrpD.del {w : World} {base : Nat} {D : DataW Value} {V : Int → Int → Value} {Z : Int → Int → List Int} (h : GrpD w base D V Z) {x y : Int} (hx : inR x) (hy : inR y) :
    GrpD w base (D.del (kx x y)) (fun a b => if a = x ∧ b = y then nlV else V a b) (fun a b => if a = x ∧ b = y then [] else Z a b) := by
  have hne : ∀ a b, inR a → inR b → ¬ (a = x ∧ b = y) → kx a b ≠ kx x y := fun a b ha hb hn e => hn (kx_inj ha hb hx hy e)
  have hk : WideAt.IsKeyLit (kx x y) := law_lb.key (key_lb hx hy)
  refine ⟨h.isMap.del _, fun a b ha hb => ?_, fun a b ha hb => ?_, fun a b a' b' g ha hb ha' hb' hn hg => ?_, fun a b ha hb => ?_, fun kl hkl => ?_⟩
  · by_cases e : a = x ∧ b = y
    · simp only [if_pos e]
      rw [e.1, e.2, Maps.atKey_of_not_has (Maps.has_del_same)]
    · simp only [if_neg e]
      rw [Maps.atKey_del_other (hne a b ha hb e)]
      exact h.look a b ha hb
  · by_cases e : a = x ∧ b = y
    · simp only [if_pos e]; exact World.ownsRow_nil _ _ _ _
    · simp only [if_neg e]; exact h.own a b ha hb
  · by_cases e : a = x ∧ b = y
    · simp only [if_pos e] at hg; cases hg
    · simp only [if_neg e] at hg
      by_cases e2 : a' = x ∧ b' = y
      · simp only [if_pos e2]; intro h3; cases h3
      · simp only [if_neg e2]
        exact h.apart a b a' b' g ha hb ha' hb' hn hg
  · by_cases e : a = x ∧ b = y
    · simp only [if_pos e]
      rw [e.1, e.2, Maps.has_del_same]; simp
    · simp only [if_neg e]
      rw [Maps.has_del_other (hne a b ha hb e)]
      exact h.has a b ha hb
  · by_cases e : kl = kx x y
    · exact ⟨x, y, hx, hy, e⟩
    · rw [Maps.has_del_other e] at hkl
      exact h.keys kl hkl

theorem next_lb (w : World) {ops : Array Oper} {rest : List Oper} {o : Oper} {a : Act} {Q : Exit → Act → World → Prop} (hg : o.guard = none) (it : Operand) (hop : o.op = Op.next it false) (b r n : Nat) (D : DataW Value) (left : Lit → Bool) (cnt : Nat)
    (hit : a.eval it = .pointer (some ⟨r, 0, none⟩)) (h : w.ranges Try.prog 60 RV b r n D left cnt)
    (hDone : cnt = 0 → (∀ kl, left kl = false) → wpList Try.prog ops Q rest (a.put o.dst (.tuple #[.bool false])) w)
    (hMore : ∀ (key v : Value) (kl : Lit) (w' : World) (cnt' : Nat), keyOf Try.prog 60 key = some kl → left kl = true → (∀ zd, D.atKey kl zd = .held v) → w'.ranges Try.prog 60 RV b r n D (fun z => left z && !z.sameKey kl) cnt' → cnt' < cnt →
      w.grownBy w' (some r) → w'.heap.size = w.heap.size → (Instr.entry (.pointer (some ⟨r, 0, none⟩))).run Try.prog w' = .ok (.tuple #[key, v]) w' → wpList Try.prog ops Q rest (a.put o.dst (.tuple #[.bool true, key, v])) w') :
    wpList Try.prog ops Q (o :: rest) a w :=
  wpList_next_ranges w hg it hop 60 law_lb RV (fun v : Value => v) (fun v : Value => v) (fun key kl _ => ⟨key, rfl⟩) (fun v y _ => ⟨v, rfl⟩) b r n D left cnt hit h hDone (fun x c kl y w' cnt' hkey hlk hv hat hrg hlt hgr hsz hen => by
    have hy : y.1 = .held c := by
      unfold RV at hv
      simp only [Option.some.injEq] at hv
      rw [← hv]
    exact hMore x c kl w' cnt' hkey hlk (fun zd => by rw [hat zd, hy]) hrg hlt hgr hsz hen)

/-- What stays of the range's law when a key has come out: it is a label. -/
theorem key_label {w : World} {base : Nat} {D : DataW Value} {V : Int → Int → Value} {Z : Int → Int → List Int} (h : GrpD w base D V Z) {key v : Value} {kl : Lit} (hkey : keyOf Try.prog 60 key = some kl) (hat : ∀ zd, D.atKey kl zd = .held v) :
    ∃ x y, inR x ∧ inR y ∧ kl = kx x y ∧ key = .agg #[.int .i64 x, .int .i64 y] ∧ v = V x y ∧ Z x y ≠ [] := by
  have hh : Maps.has D kl = true := Maps.has_true_of_atKey hat
  obtain ⟨x, y, hx, hy, rfl⟩ := h.keys kl hh
  refine ⟨x, y, hx, hy, rfl, law_lb.inj hkey (key_lb hx hy), ?_, (h.has x y hx hy).1 hh⟩
  have h2 := h.look x y hx hy
  rw [hat] at h2
  injection h2

theorem Lv.drop {l m : List Int} {n j : Nat} {Z : Int → Int → List Int} (h : Lv l m n j Z) {x y : Int} (hx : inR x) (hy : inR y) (h1 : Z x y ≠ []) (h2 : ¬ 1 < (Z x y).length) : Lv l m n j (fun a b => if a = x ∧ b = y then [] else Z a b) := fun a b ha hb => by
  by_cases e : a = x ∧ b = y
  · simp only [if_pos e]
    have h3 := h x y hx hy
    have hz : Z x y = wz l m n x y := h3.1.resolve_right h1
    refine ⟨.inr trivial, fun h4 => ?_⟩
    rw [e.1, e.2, ← hz] at h4
    exact absurd h4 h2
  · simp only [if_neg e]; exact h a b ha hb

theorem Lv.none {l m : List Int} {n j : Nat} {Z : Int → Int → List Int} (h : Lv l m n j Z) (hj : j ≤ n) (hno : ∀ a b, inR a → inR b → ¬ 1 < (Z a b).length) (HR : ∀ i, i < n → inR ((sz l i : Nat) : Int) ∧ inR ((sz m i : Nat) : Int)) : lkL l m n n = lkL l m n j := by
  refine lkL_skip n hj fun i h1 h2 => ?_
  cases hb : lkB l m n i
  · rfl
  · have h4 := hd_of_lk h2 hb
    have hr := HR i h2
    have h5 := (h _ _ hr.1 hr.2).2 h4.1
    have h6 := h5.2 (by rw [h4.2]; exact h1)
    exact absurd (by rw [h6]; exact h4.1) (hno _ _ hr.1 hr.2)

theorem Lv.taken {l m : List Int} {n j : Nat} {Z : Int → Int → List Int} (h : Lv l m n j Z) {x y : Int} (hx : inR x) (hy : inR y) (h1 : 1 < (Z x y).length) (hmin : ∀ a b, inR a → inR b → 1 < (Z a b).length → hd (Z x y) ≤ hd (Z a b)) (HR : ∀ i, i < n → inR ((sz l i : Nat) : Int) ∧ inR ((sz m i : Nat) : Int)) :
    lkL l m n (hd (Z x y) + 1) = lkL l m n j ++ [Z x y] ∧ hd (Z x y) < n ∧ Lv l m n (hd (Z x y) + 1) (fun a b => if a = x ∧ b = y then [] else Z a b) := by
  have h3 := h x y hx hy
  have hne : Z x y ≠ [] := fun e => by rw [e] at h1; simp at h1
  have hz : Z x y = wz l m n x y := h3.1.resolve_right hne
  have h1' := h1
  rw [hz] at h1'
  have hlk := lk_of_hd h1'
  have hne' : wz l m n x y ≠ [] := by rw [← hz]; exact hne
  have hh := wz_hd hne'
  have hj : j ≤ hd (Z x y) := by rw [hz]; exact (h3.2 h1').1 hz
  have hdin : ∀ i, i < n → inR ((sz l i : Nat) : Int) ∧ inR ((sz m i : Nat) : Int) → lkB l m n i = true → j ≤ i → hd (Z x y) ≤ i := fun i hi hr hb hji => by
    have h4 := hd_of_lk hi hb
    have h5 := h _ _ hr.1 hr.2
    have h6 : Z (sz l i : Nat) (sz m i : Nat) = wz l m n (sz l i : Nat) (sz m i : Nat) := (h5.2 h4.1).2 (by rw [h4.2]; exact hji)
    have h7 := hmin _ _ hr.1 hr.2 (by rw [h6]; exact h4.1)
    rw [h6, h4.2] at h7
    exact h7
  refine ⟨?_, by rw [hz]; exact hh.1, fun a b ha hb => ?_⟩
  · rw [lkL_take hj ?_ (by rw [hz]; exact hlk.1)]
    · rw [hz, hlk.2]
    · intro i h4 h5
      cases hb : lkB l m n i
      · rfl
      · have := hdin i (by rw [hz] at h5; omega) ?_ hb h4
        · omega
        · exact HR i (by have := hh.1; rw [hz] at h5; omega)
  · by_cases e : a = x ∧ b = y
    · simp only [if_pos e]
      refine ⟨.inr trivial, fun h4 => ⟨fun h5 => ?_, fun h5 => ?_⟩⟩
      · rw [e.1, e.2] at h5 h4
        rw [← h5] at h4; simp at h4
      · rw [e.1, e.2, hz] at h5; omega
    · simp only [if_neg e]
      have h4 := h a b ha hb
      refine ⟨h4.1, fun h5 => ⟨fun h6 => ?_, fun h6 => (h4.2 h5).2 (by omega)⟩⟩
      have h7 := hmin a b ha hb (by rw [h6]; exact h5)
      rw [h6] at h7
      by_cases h8 : hd (Z x y) = hd (wz l m n a b)
      · have h9 := wz_hd (l := l) (m := m) (n := n) (x := a) (y := b) (fun e => by rw [e] at h5; simp at h5)
        rw [← h8, hz] at h9
        have p1 := hh.2.1
        have p2 := h9.2.1
        simp only [pL, decide_eq_true_eq] at p1 p2
        exact absurd ⟨by omega, by omega⟩ e
      · omega

end Go.Proofs.Ytcedacneagpjcaa
