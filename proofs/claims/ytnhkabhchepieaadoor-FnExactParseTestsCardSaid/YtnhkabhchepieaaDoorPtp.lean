/- What tests a text is of: pure. -/
import Derived.Test.YtnhkabhchepieaaDoorRd
import Derived.Test.YtnhkabhchepieaaDoorSpg
import Derived.Test.YtnhkabhchepieaaDoorTx
namespace Go.Proofs.YtnhkabhchepieaaDoor
open Go.ChangeShapes Go.WideShapes Go.ChangeAt Go.RowKit
set_option linter.unusedVariables false


/-- A text is its pieces with the sign between them. -/
theorem join_spF (c : UInt8) : ∀ l : List UInt8, Lib.join (spF c l) [c] = l
  | [] => by simp [spF, Lib.join_one]
  | x :: t => by
    have ih := join_spF c t
    have hne := spF_ne c t
    unfold spF
    by_cases h : x = c
    · rw [if_pos h]
      cases hq : spF c t with
      | nil => exact absurd hq hne
      | cons y r =>
        rw [hq] at ih
        rw [Lib.join_cons] at ih ⊢
        simp [Lib.joinTail, h] at ih ⊢
        exact ih
    · rw [if_neg h]
      cases hq : spF c t with
      | nil => exact absurd hq hne
      | cons y r =>
        rw [hq] at ih
        rw [Lib.join_cons] at ih ⊢
        rw [List.cons_append, ih]
theorem spF_no (c : UInt8) : ∀ l : List UInt8, c ∉ l → spF c l = [l]
  | [], _ => rfl
  | x :: t, h => by
    have h1 : x ≠ c := fun e => h (by rw [e]; exact List.mem_cons_self)
    have ih := spF_no c t (fun e => h (List.mem_cons_of_mem _ e))
    unfold spF
    rw [if_neg h1, ih]
theorem spF_app (c : UInt8) : ∀ p t : List UInt8, c ∉ p → spF c (p ++ c :: t) = p :: spF c t
  | [], t, _ => by simp [spF]
  | x :: p, t, h => by
    have h1 : x ≠ c := fun e => h (by rw [e]; exact List.mem_cons_self)
    have ih := spF_app c p t (fun e => h (List.mem_cons_of_mem _ e))
    rw [List.cons_append]
    conv => lhs; unfold spF
    rw [if_neg h1, ih]
theorem spF_join (c : UInt8) : ∀ P : List (List UInt8), P ≠ [] → (∀ p, p ∈ P → c ∉ p) → spF c (Lib.join P [c]) = P
  | [], h, _ => absurd rfl h
  | [p], _, h => by rw [Lib.join_one]; exact spF_no c p (h p List.mem_cons_self)
  | p :: y :: r, _, h => by
    have ih := spF_join c (y :: r) (by simp) (fun q hq => h q (List.mem_cons_of_mem _ hq))
    have e : Lib.join (p :: y :: r) [c] = p ++ c :: Lib.join (y :: r) [c] := by
      rw [Lib.join_cons, Lib.join_cons]
      simp [Lib.joinTail]
    rw [e, spF_app c p _ (h p List.mem_cons_self), ih]
/-- A text cut at a sign into so many pieces at most. -/
def qN (c : UInt8) (k : Nat) (l : List UInt8) : List (List UInt8) := Lib.splitK [c] 0 (min k (l.length + 1) - 1) l
theorem qN_all (c : UInt8) (k : Nat) (l : List UInt8) (hk : 0 < k) (h : (qN c k l).length < k) : qN c k l = spF c l := by
  have hs := splitK_spF c (min k (l.length + 1) - 1) l
  have hle := spF_le c l
  by_cases h2 : (spF c l).length ≤ min k (l.length + 1) - 1 + 1
  · exact hs.1 h2
  · have h3 := hs.2 (by omega)
    unfold qN at h
    omega
theorem qN_few (c : UInt8) (k : Nat) (l : List UInt8) (h : (spF c l).length < k) : qN c k l = spF c l := by
  have hle := spF_le c l
  exact (splitK_spF c _ l).1 (by omega)
theorem qN_splitB (c : UInt8) (k : Nat) (s : ByteArray) (l : List UInt8) (h : l = s.data.toList) : (Lib.splitB ⟨#[c]⟩ 0 (min k (s.size + 1) - 1) s).map (·.data.toList) = qN c k l := by
  rw [Lib.splitB_data, qN, h]
  have : s.data.toList.length = s.size := by simp
  rw [this]
theorem qN_len (c : UInt8) (k : Nat) (l : List UInt8) (hk : 0 < k) : (qN c k l).length ≤ k ∧ 0 < (qN c k l).length := by
  have hs := splitK_spF c (min k (l.length + 1) - 1) l
  have hle := spF_le c l
  have hne : 0 < (spF c l).length := List.length_pos_iff.2 (spF_ne c l)
  by_cases h2 : (spF c l).length ≤ min k (l.length + 1) - 1 + 1
  · rw [qN, hs.1 h2]; omega
  · have h3 := hs.2 (by omega)
    rw [qN, h3]; omega
/-- The number of a byte. -/
def vl (p : List UInt8) : Int := ((p.getD 0 0).toNat : Int) - 48
def one1 (r : List (List UInt8)) : Bool := r.all fun p => p.length == 1
/-- A piece's wires, by the program. -/
def wrP (t : List UInt8) : List Int := (qN 43 11 t).map vl
def wrB (t : List UInt8) : Bool := one1 (qN 43 11 t)
def iOK (q : List (List UInt8)) : Bool := q.all wrB && wiB 10 (q.map wrP)
/-- A number, by the model. -/
def rdl (p : List UInt8) : Int := rd ⟨p.toArray⟩
def rdW (t : List UInt8) : List Int := (spF 43 t).map rdl
def mT (l : List UInt8) : List (List Int) := (spF 47 l).map rdW
def mOK (l : List UInt8) : Bool := decide (l.length ≤ 240) && (wiB 10 (mT l) && decide (Lib.join (rs8 (mT l)) [47] = l))
theorem rdl_one (p : List UInt8) (h : p.length = 1) (h0 : 0 ≤ vl p) (h1 : vl p < 10) : rdl p = vl p := by
  match p, h with
  | [b], _ =>
    have hb : ((b.toNat : Int) - 48) = vl [b] := rfl
    have hv0 : 48 ≤ b.toNat := by rw [← hb] at h0; omega
    have hv1 : b.toNat ≤ 57 := by rw [← hb] at h1; omega
    rw [← hb]
    have hby : by8 ⟨#[b]⟩ 0 = b.toNat := by unfold by8; rfl
    have hsz : (⟨#[b]⟩ : ByteArray).size = 1 := rfl
    have hd : ∀ k, k < (⟨#[b]⟩ : ByteArray).size → dgB ⟨#[b]⟩ k = true := fun k hk => by
      have : k = 0 := by rw [hsz] at hk; omega
      subst this
      unfold dgB; rw [hby]; simp; omega
    have hh : headB ⟨#[b]⟩ = true := by unfold headB; rw [hsz]; simp
    show rd ⟨#[b]⟩ = _
    rw [rd_yes hh hd, hsz]
    show ((vd ⟨#[b]⟩ 1 : Nat) : Int) = _
    have : vd ⟨#[b]⟩ 1 = b.toNat - 48 := by simp [vd, hby]
    rw [this]; omega
theorem dgt_vl (p : List UInt8) (h : p.length = 1) (h0 : 0 ≤ vl p) (h1 : vl p < 10) : [dgt (vl p)] = p := by
  match p, h with
  | [b], _ =>
    have hb : vl [b] = ((b.toNat : Int) - 48) := rfl
    rw [hb] at h0 h1 ⊢
    have e : dgt ((b.toNat : Int) - 48) = b := by
      unfold dgt
      apply UInt8.toNat_inj.1
      have := b.toNat_lt
      simp; omega
    rw [e]
theorem vl_dgt (x : Int) (h0 : 0 ≤ x) (h1 : x < 10) : vl [dgt x] = x := by
  show ((dgt x).toNat : Int) - 48 = x
  unfold dgt
  simp; omega
theorem dgt_ne (x : Int) (h0 : 0 ≤ x) (h1 : x < 10) : dgt x ≠ 43 ∧ dgt x ≠ 47 := by
  have h : x = 0 ∨ x = 1 ∨ x = 2 ∨ x = 3 ∨ x = 4 ∨ x = 5 ∨ x = 6 ∨ x = 7 ∨ x = 8 ∨ x = 9 := by omega
  rcases h with rfl | rfl | rfl | rfl | rfl | rfl | rfl | rfl | rfl | rfl <;> decide
/-- In tests all wires are digits. -/
theorem wi_mem {L : List (List Int)} (h : wiB 10 L = true) {r : List Int} (hr : r ∈ L) : 0 < r.length ∧ r.length ≤ 10 ∧ ∀ x, x ∈ r → 0 ≤ x ∧ x < 10 := by
  obtain ⟨i, hi, rfl⟩ := List.getElem_of_mem hr
  have hw := wi_row h hi
  rw [← row_get hi] at hw
  refine ⟨hw.2.1, hw.2.2, fun x hx => ?_⟩
  obtain ⟨j, hj, rfl⟩ := List.getElem_of_mem hx
  have hu := up_parts (ris_at hw.1 hj)
  rw [na_get _ j hj]
  omega
theorem dg_map (r : List Int) : dg r = r.map fun x => [dgt x] := rfl
/-- A piece whose wires are digits is their text. -/
theorem wT_piece (t : List UInt8) (q : List (List UInt8)) (hq : q = spF 43 t) (h1 : one1 q = true) (hd : ∀ x, x ∈ q.map vl → 0 ≤ x ∧ x < 10) : wT (q.map vl) = t ∧ rdW t = q.map vl := by
  have hone : ∀ p, p ∈ q → p.length = 1 := fun p hp => by
    have := List.all_eq_true.1 h1 p hp
    simpa using this
  have e1 : dg (q.map vl) = q := by
    rw [dg_map, List.map_map]
    conv => rhs; rw [← List.map_id q]
    apply List.map_congr_left
    intro p hp
    have := hd (vl p) (List.mem_map_of_mem hp)
    exact dgt_vl p (hone p hp) this.1 this.2
  refine ⟨by rw [wT, e1, hq]; exact join_spF 43 t, ?_⟩
  rw [rdW, ← hq]
  apply List.map_congr_left
  intro p hp
  have := hd (vl p) (List.mem_map_of_mem hp)
  exact rdl_one p (hone p hp) this.1 this.2
theorem sum_one (q : List (List UInt8)) (h : one1 q = true) : (q.map fun t => t.length + 1).sum = 2 * q.length := by
  induction q with
  | nil => rfl
  | cons t r ih =>
    simp only [one1, List.all_cons, Bool.and_eq_true, beq_iff_eq] at h
    have h2 := ih h.2
    simp only [List.map_cons, List.sum_cons, List.length_cons, h2, h.1]
    omega
theorem sum_le (q : List (List UInt8)) (B : Nat) (h : ∀ t, t ∈ q → t.length + 1 ≤ B) : (q.map fun t => t.length + 1).sum ≤ B * q.length := by
  induction q with
  | nil => simp
  | cons t r ih =>
    have h1 := h t List.mem_cons_self
    have h2 := ih (fun u hu => h u (List.mem_cons_of_mem _ hu))
    simp only [List.map_cons, List.sum_cons, List.length_cons, Nat.mul_succ]
    omega
/-- The program's look at a text is the model's. -/
theorem iOK_mOK (l : List UInt8) : iOK (qN 47 13 l) = mOK l ∧ (mOK l = true → (qN 47 13 l).map wrP = mT l) := by
  have fwd : iOK (qN 47 13 l) = true → mOK l = true ∧ (qN 47 13 l).map wrP = mT l := by
    intro h
    simp only [iOK, Bool.and_eq_true] at h
    obtain ⟨ha, hw⟩ := h
    have hl12 := (wi_parts hw).2.1
    rw [List.length_map] at hl12
    have hq : qN 47 13 l = spF 47 l := qN_all 47 13 l (by omega) (by omega)
    have hpc : ∀ t, t ∈ spF 47 l → wT (wrP t) = t ∧ rdW t = wrP t ∧ t.length + 1 ≤ 20 := by
      intro t ht
      rw [← hq] at ht
      have hb := List.all_eq_true.1 ha t ht
      have hm := wi_mem hw (List.mem_map_of_mem ht)
      have hlen : (qN 43 11 t).length = (wrP t).length := by rw [wrP, List.length_map]
      have hr : qN 43 11 t = spF 43 t := qN_all 43 11 t (by omega) (by omega)
      have h2 := wT_piece t (qN 43 11 t) hr hb hm.2.2
      refine ⟨h2.1, h2.2, ?_⟩
      have hs := sum_one _ hb
      rw [hr, spF_sum] at hs
      rw [hs, ← hr]; omega
    have hT : (qN 47 13 l).map wrP = mT l := by
      rw [hq, mT]
      apply List.map_congr_left
      intro t ht
      exact (hpc t ht).2.1.symm
    refine ⟨?_, hT⟩
    have e2 : rs8 (mT l) = spF 47 l := by
      rw [← hT, hq, rs8, List.map_map]
      conv => rhs; rw [← List.map_id (spF 47 l)]
      apply List.map_congr_left
      intro t ht
      exact (hpc t ht).1
    have hlen : l.length ≤ 240 := by
      have h1 := sum_le (spF 47 l) 20 (fun t ht => (hpc t ht).2.2)
      rw [spF_sum, ← hq] at h1
      omega
    rw [mOK, ← hT, hw, hT, e2, join_spF]
    simp [hlen]
  have bwd : mOK l = true → iOK (qN 47 13 l) = true := by
    intro h
    simp only [mOK, Bool.and_eq_true, decide_eq_true_eq] at h
    obtain ⟨_, hw, ht⟩ := h
    have hne : mT l ≠ [] := by
      rw [mT]; intro e
      exact spF_ne 47 l (List.map_eq_nil_iff.1 e)
    have hdg : ∀ r, r ∈ mT l → ∀ c : UInt8, (c = 43 ∨ c = 47) → ∀ p, p ∈ dg r → c ∉ p := by
      intro r hr c hc p hp
      rw [dg_map] at hp
      obtain ⟨x, hx, rfl⟩ := List.mem_map.1 hp
      have hm := (wi_mem hw hr).2.2 x hx
      have := dgt_ne x hm.1 hm.2
      simp
      rcases hc with rfl | rfl
      · exact fun e => this.1 e.symm
      · exact fun e => this.2 e.symm
    have hsp : ∀ r, r ∈ mT l → spF 43 (wT r) = dg r := by
      intro r hr
      refine spF_join 43 (dg r) ?_ (hdg r hr 43 (.inl rfl))
      intro e
      have h1 := (wi_mem hw hr).1
      have h2 := dg_len r
      rw [e] at h2; simp at h2; omega
    have hno : ∀ r, r ∈ mT l → (47 : UInt8) ∉ wT r := by
      intro r hr
      intro hmem
      have key : ∀ (P : List (List UInt8)), (∀ p, p ∈ P → (47 : UInt8) ∉ p) → (47 : UInt8) ∉ Lib.join P [43] := by
        intro P
        induction P with
        | nil => intro _; simp [Lib.join_nil]
        | cons p P ih =>
          intro hP
          have hp := hP p List.mem_cons_self
          have hP2 := ih (fun q hq => hP q (List.mem_cons_of_mem _ hq))
          cases P with
          | nil => rw [Lib.join_one]; exact hp
          | cons y r =>
            rw [Lib.join_cons]
            rw [Lib.join_cons] at hP2
            simp only [List.mem_append, not_or, Lib.joinTail, List.map_cons, List.flatten_cons] at hP2 ⊢
            refine ⟨hp, ⟨by simp, hP2.1⟩, hP2.2⟩
      exact key (dg r) (hdg r hr 47 (.inr rfl)) hmem
    have hq0 : spF 47 l = rs8 (mT l) := by
      conv => lhs; rw [← ht]
      refine spF_join 47 _ ?_ ?_
      · intro e
        exact hne (List.map_eq_nil_iff.1 e)
      · intro p hp
        obtain ⟨r, hr, rfl⟩ := List.mem_map.1 hp
        exact hno r hr
    have hl12 := (wi_parts hw).2.1
    have hq : qN 47 13 l = rs8 (mT l) := by
      rw [← hq0]; exact qN_few 47 13 l (by rw [hq0, rs8_len]; omega)
    have hpc : ∀ r, r ∈ mT l → qN 43 11 (wT r) = dg r := by
      intro r hr
      rw [← hsp r hr]
      refine qN_few 43 11 _ ?_
      rw [hsp r hr, dg_len]
      have := (wi_mem hw hr).2.1
      omega
    have hval : ∀ r, r ∈ mT l → wrP (wT r) = r := by
      intro r hr
      rw [wrP, hpc r hr, dg_map, List.map_map]
      conv => rhs; rw [← List.map_id r]
      apply List.map_congr_left
      intro x hx
      have hm := (wi_mem hw hr).2.2 x hx
      exact vl_dgt x hm.1 hm.2
    have hmap : (qN 47 13 l).map wrP = mT l := by
      rw [hq, rs8, List.map_map]
      conv => rhs; rw [← List.map_id (mT l)]
      apply List.map_congr_left
      intro r hr
      exact hval r hr
    rw [iOK, hmap, hw, Bool.and_true, List.all_eq_true]
    intro t ht'
    rw [hq, rs8] at ht'
    obtain ⟨r, hr, rfl⟩ := List.mem_map.1 ht'
    rw [wrB, hpc r hr, one1, List.all_eq_true]
    intro p hp
    rw [dg_map] at hp
    obtain ⟨x, _, rfl⟩ := List.mem_map.1 hp
    rfl
  constructor
  · cases h1 : iOK (qN 47 13 l)
    · cases h2 : mOK l
      · rfl
      · have := bwd h2; rw [h1] at this; cases this
    · rw [(fwd h1).1]
  · intro h
    exact (fwd (bwd h)).2
def pB (l : List UInt8) : Bool := l.isEmpty || mOK l
def pR (l : List UInt8) : List (List Int) := if l.isEmpty then [] else if mOK l then mT l else []
theorem pR_length (l : List UInt8) : (pR l).length ≤ 12 := by
  unfold pR
  split
  · simp
  · split
    · rename_i h
      simp only [mOK, Bool.and_eq_true] at h
      exact (wi_parts h.2.1).2.1
    · simp
theorem pR_no {l : List UInt8} (h : mOK l = false) : pR l = [] := by unfold pR; rw [h]; split <;> rfl
theorem pR_yes {l : List UInt8} (h0 : l.isEmpty = false) (h : mOK l = true) : pR l = mT l := by unfold pR; rw [h0, h]; rfl
theorem pB_some {l : List UInt8} (h : l.isEmpty = false) : pB l = mOK l := by rw [pB, h]; rfl
theorem pR_rows (l : List UInt8) : ∀ i, (row (pR l) i).length ≤ 1048576 := by
  intro i
  by_cases hi : i < (pR l).length
  · unfold pR at hi ⊢
    split
    · rw [if_pos (by assumption)] at hi; simp at hi
    · split
      · rename_i h0 h
        rw [if_neg h0, if_pos h] at hi
        simp only [mOK, Bool.and_eq_true] at h
        have := (wi_row h.2.1 hi).2.2
        omega
      · rename_i h0 h
        rw [if_neg h0, if_neg h] at hi; simp at hi
  · have e : row (pR l) i = [] := by simp [row, List.getD_eq_getElem?_getD, Nat.le_of_not_lt hi]
    rw [e]; simp

end Go.Proofs.YtnhkabhchepieaaDoor
