/- What letters a text is of: the lists. -/
import Derived.Test.YtfbkpdmphlgokaaDoorText
import Derived.Test.YtfbkpdmphlgokaaDoorSplitM
namespace Go.Proofs.YtfbkpdmphlgokaaDoor
open Go.ChangeShapes Go.WideShapes Go.ChangeAt Go.RowKit


/-- A piece of the form x>y, as a letter. -/
def cpL (t : List UInt8) : Int × Int := (((t.getD 0 0).toNat : Int) - 48, ((t.getD 2 0).toNat : Int) - 48)
def okL (t : List UInt8) : Bool := t.length == 3 && t.getD 1 0 == 62
def goodT (t : List UInt8) : Bool := okL t && letB 10 (cpL t).1 (cpL t).2
def iOKL (q : List (List UInt8)) : Bool := q.all okL && gdL 10 (q.map cpL)
def pOKL (l : List UInt8) : Bool := iOKL (spF l)
def pRL (l : List UInt8) : List (Int × Int) := if pOKL l then (spF l).map cpL else []
def pBL (l : List UInt8) : Bool := l.isEmpty || pOKL l

theorem gdL10 (l : List (Int × Int)) : gdL 10 l = (decide (l.length ≤ 60) && l.all fun c => letB 10 c.1 c.2) := by
  simp [gdL, frB]

theorem iOKL_pOKL (l : List UInt8) : iOKL (qOf l) = pOKL l ∧ (pOKL l = true → qOf l = spF l) := by
  have hk := splitK_spF (min 61 (l.length + 1) - 1) l
  have hle := spF_le l
  by_cases h : (spF l).length ≤ min 61 (l.length + 1) - 1 + 1
  · have e : qOf l = spF l := hk.1 h
    exact ⟨by rw [e]; rfl, fun _ => e⟩
  · have e : (qOf l).length = min 61 (l.length + 1) - 1 + 1 := hk.2 (by omega)
    have hn : pOKL l = false := by
      rw [pOKL, iOKL, gdL10, List.length_map, show decide ((spF l).length ≤ 60) = false by simp; omega, Bool.false_and, Bool.and_false]
    refine ⟨?_, fun h => by rw [hn] at h; cases h⟩
    rw [hn, iOKL, gdL10, List.length_map, show decide ((qOf l).length ≤ 60) = false by simp; omega, Bool.false_and, Bool.and_false]

theorem pOKL_good {l : List UInt8} (h : pOKL l = true) : (spF l).length ≤ 60 ∧ ∀ t ∈ spF l, goodT t = true := by
  rw [pOKL, iOKL, gdL10] at h
  simp only [Bool.and_eq_true, decide_eq_true_eq, List.all_eq_true, List.length_map, List.mem_map] at h
  refine ⟨h.2.1, fun t ht => ?_⟩
  rw [goodT, h.1 t ht, h.2.2 (cpL t) ⟨t, ht, rfl⟩]
  rfl
theorem good_pOKL {l : List UInt8} (h : (spF l).length ≤ 60) (h2 : ∀ t ∈ spF l, goodT t = true) : pOKL l = true := by
  rw [pOKL, iOKL, gdL10]
  simp only [Bool.and_eq_true, decide_eq_true_eq, List.all_eq_true, List.length_map, List.mem_map]
  refine ⟨fun t ht => ?_, h, ?_⟩
  · have := h2 t ht
    rw [goodT, Bool.and_eq_true] at this
    exact this.1
  · rintro _ ⟨t, ht, rfl⟩
    have := h2 t ht
    rw [goodT, Bool.and_eq_true] at this
    exact this.2

theorem goodT_shape {t : List UInt8} (h : goodT t = true) : ∃ x y : UInt8, t = [x, 62, y] ∧ (48 ≤ x.toNat ∧ x.toNat ≤ 57) ∧ (48 ≤ y.toNat ∧ y.toNat ≤ 57) := by
  rw [goodT, okL] at h
  simp only [Bool.and_eq_true, beq_iff_eq, letB, decide_eq_true_eq] at h
  obtain ⟨⟨h1, h2⟩, h3⟩ := h
  match t, h1 with
  | [x, m, y], _ =>
    simp [cpL] at h2 h3
    exact ⟨x, y, by rw [h2], by omega, by omega⟩
theorem spM_dig {x y : UInt8} (hx : 48 ≤ x.toNat ∧ x.toNat ≤ 57) (hy : 48 ≤ y.toNat ∧ y.toNat ≤ 57) : spM [x, 62, y] = [[x], [y]] := by
  have h1 : x ≠ 62 := fun e => by rw [e] at hx; have : (62 : UInt8).toNat = 62 := rfl; omega
  have h2 : y ≠ 62 := fun e => by rw [e] at hy; have : (62 : UInt8).toNat = 62 := rfl; omega
  simp [spM, h1, h2]
theorem dgt_of {x : UInt8} (hx : 48 ≤ x.toNat ∧ x.toNat ≤ 57) : dgt ((x.toNat : Int) - 48) = x := by
  unfold dgt
  have : 48 + ((x.toNat : Int) - 48).toNat = x.toNat := by omega
  rw [this]
  simp
theorem dgt_nat {a : Int} (h0 : 0 ≤ a) (h1 : a < 10) : ((dgt a).toNat : Int) = a + 48 := by
  unfold dgt
  rw [UInt8.toNat_ofNat']
  omega
theorem qL_cpL {t : List UInt8} (h : goodT t = true) : qL (cpL t) = t := by
  obtain ⟨x, y, rfl, hx, hy⟩ := goodT_shape h
  simp [qL, cpL, dgt_of hx, dgt_of hy]
theorem cpL_qL {p : Int × Int} (h : letB 10 p.1 p.2 = true) : cpL (qL p) = p ∧ okL (qL p) = true := by
  simp only [letB, decide_eq_true_eq] at h
  refine ⟨?_, rfl⟩
  have h1 := dgt_nat (a := p.1) (by omega) (by omega)
  have h2 := dgt_nat (a := p.2) (by omega) (by omega)
  apply Prod.ext
  · simp [qL, cpL, h1]
  · simp [qL, cpL, h2]
theorem dgt_ne {a : Int} (h0 : 0 ≤ a) (h1 : a < 10) : dgt a ≠ 45 := fun e => by
  have h := dgt_nat h0 h1
  rw [e] at h
  have : (45 : UInt8).toNat = 45 := rfl
  omega

theorem spF_cons (a : List UInt8) (ha : ∀ x ∈ a, x ≠ 45) : ∀ r, spF (a ++ 45 :: r) = a :: spF r := by
  induction a with
  | nil => intro r; simp [spF]
  | cons x t ih =>
    intro r
    have hx : x ≠ 45 := ha x (by simp)
    have := ih (fun y hy => ha y (by simp [hy])) r
    rw [List.cons_append, spF, if_neg hx, this]
theorem spF_one (a : List UInt8) (ha : ∀ x ∈ a, x ≠ 45) : spF a = [a] := by
  induction a with
  | nil => rfl
  | cons x t ih =>
    have hx : x ≠ 45 := ha x (by simp)
    rw [spF, if_neg hx, ih (fun y hy => ha y (by simp [hy]))]
theorem join_two (a b : List UInt8) (r : List (List UInt8)) : Lib.join (a :: b :: r) [45] = a ++ 45 :: Lib.join (b :: r) [45] := by
  rw [Lib.join_cons, Lib.join_cons]
  simp [Lib.joinTail]
theorem spF_join : ∀ q : List (List UInt8), q ≠ [] → (∀ t ∈ q, ∀ x ∈ t, x ≠ 45) → spF (Lib.join q [45]) = q
  | [], h, _ => absurd rfl h
  | [a], _, h => by rw [Lib.join_one]; exact spF_one a (h a (by simp))
  | a :: b :: r, _, h => by
    rw [join_two, spF_cons a (h a (by simp)), spF_join (b :: r) (by simp) (fun t ht => h t (by simp [ht]))]
theorem join_spF : ∀ l : List UInt8, Lib.join (spF l) [45] = l
  | [] => by simp [spF, Lib.join_one]
  | x :: t => by
    have ih := join_spF t
    unfold spF
    split
    · rename_i hx
      cases hs : spF t with
      | nil => exact absurd hs (spF_ne t)
      | cons b r => rw [join_two, ← hs, ih, hx]; rfl
    · split
      · rename_i h; exact absurd h (spF_ne t)
      · rename_i h r hh
        rw [hh] at ih
        rw [← ih, Lib.join_cons, Lib.join_cons]
        rfl

/-- What the model tests at the end. -/
theorem final {l : List UInt8} {out : List (Int × Int)} (hlen : out.length = (spF l).length) (hk : ∀ k, k < out.length → goodT ((spF l).getD k []) = true → out[k]? = some (cpL ((spF l).getD k []))) :
    ((gdL 10 out = true ∧ Lib.join (out.map qL) [45] = l) ↔ pOKL l = true) ∧ (pOKL l = true → out = (spF l).map cpL) := by
  have hb : pOKL l = true → out = (spF l).map cpL := by
    intro h
    obtain ⟨h1, h2⟩ := pOKL_good h
    apply List.ext_getElem?
    intro k
    by_cases hkk : k < out.length
    · have hks : k < (spF l).length := by omega
      have e : (spF l).getD k [] = (spF l)[k] := by simp [List.getD_eq_getElem?_getD, hks]
      rw [hk k hkk (by rw [e]; exact h2 _ (List.getElem_mem hks)), e]
      simp [hks]
    · rw [List.getElem?_eq_none (by omega), List.getElem?_eq_none (by simp; omega)]
  refine ⟨⟨?_, ?_⟩, hb⟩
  · rintro ⟨h1, h2⟩
    rw [gdL10] at h1
    simp only [Bool.and_eq_true, decide_eq_true_eq, List.all_eq_true] at h1
    have hne : out.map qL ≠ [] := by
      intro e
      have h3 : out.length = 0 := by simpa using congrArg List.length e
      have h4 := List.length_pos_iff.2 (spF_ne l)
      omega
    have hs : spF l = out.map qL := by
      rw [← h2]
      refine spF_join _ hne ?_
      intro t ht x hx
      obtain ⟨p, hp, rfl⟩ := List.mem_map.1 ht
      have := h1.2 p hp
      simp only [letB, decide_eq_true_eq] at this
      simp only [qL, List.mem_cons, List.not_mem_nil, or_false] at hx
      rcases hx with rfl | rfl | rfl
      · exact dgt_ne (by omega) (by omega)
      · decide
      · exact dgt_ne (by omega) (by omega)
    refine good_pOKL (by rw [← hlen]; exact h1.1) ?_
    intro t ht
    rw [hs] at ht
    obtain ⟨p, hp, rfl⟩ := List.mem_map.1 ht
    have h3 := cpL_qL (h1.2 p hp)
    rw [goodT, h3.2, h3.1, h1.2 p hp]
    rfl
  · intro h
    obtain ⟨h1, h2⟩ := pOKL_good h
    have e := hb h
    refine ⟨?_, ?_⟩
    · have h3 := h
      rw [pOKL, iOKL, Bool.and_eq_true] at h3
      rw [e]
      exact h3.2
    · rw [e, List.map_map]
      have : (spF l).map (qL ∘ cpL) = spF l := by
        conv => rhs; rw [← List.map_id (spF l)]
        apply List.map_congr_left
        intro t ht
        exact qL_cpL (h2 t ht)
      rw [this, join_spF]

theorem pOKL_long {l : List UInt8} (h : 240 < l.length) : pOKL l = false := by
  rw [Bool.eq_false_iff]
  intro e
  obtain ⟨h1, h2⟩ := pOKL_good e
  have hs : ((spF l).map fun t => t.length + 1).sum = 4 * (spF l).length := by
    have : ∀ q : List (List UInt8), (∀ t ∈ q, goodT t = true) → (q.map fun t => t.length + 1).sum = 4 * q.length := by
      intro q hq
      induction q with
      | nil => rfl
      | cons t r ih =>
        obtain ⟨x, y, rfl, _⟩ := goodT_shape (hq t (by simp))
        have := ih (fun u hu => hq u (by simp [hu]))
        simp only [List.map_cons, List.sum_cons, List.length_cons, List.length_nil, this]
        omega
    exact this _ h2
  rw [spF_sum] at hs
  omega

end Go.Proofs.YtfbkpdmphlgokaaDoor
