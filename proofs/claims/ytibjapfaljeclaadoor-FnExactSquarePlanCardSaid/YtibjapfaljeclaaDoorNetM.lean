/- What a network is: calls that grow; there are no more of them than pairs of friends. -/
import Derived.Test.YtibjapfaljeclaaDoorGood
namespace Go.Proofs.YtibjapfaljeclaaDoor
open Go.ChangeShapes Go.WideShapes Go.ChangeAt Go.RowKit


/-- This call comes behind the one before it. -/
def lessB (l : List (Int × Int)) (k : Nat) : Bool := decide (ca l (k - 1) < ca l k ∨ ca l (k - 1) = ca l k ∧ cb l (k - 1) < cb l k)
def incB (l : List (Int × Int)) : Bool := (List.range (l.length - 1)).all fun k => lessB l (k + 1)
/-- This is a network of so many friends. -/
def netB (f : Int) (l : List (Int × Int)) : Bool := gdB f l && incB l
/-- How many calls come before those of a friend with greater ones. -/
def upto (f : Nat) : Nat → Nat
  | 0 => 0
  | a + 1 => upto f a + (f - 1 - a)
theorem upto_mono (f : Nat) {a c : Nat} (h : a ≤ c) : upto f a ≤ upto f c := by
  induction h with
  | refl => exact Nat.le_refl _
  | step _ ih => exact Nat.le_trans ih (by rw [upto]; omega)
theorem upto_all : ∀ f, f < 11 → upto f f = f * (f - 1) / 2 := by decide

theorem gd_call {f : Int} {l : List (Int × Int)} (h : gdB f l = true) {i : Nat} (hi : i < l.length) : 0 ≤ ca l i ∧ ca l i < cb l i ∧ cb l i < f := by
  simp only [gdB, Bool.and_eq_true, List.all_eq_true] at h
  have := h.2 l[i] (List.getElem_mem hi)
  rw [ca_cb l i hi] at this
  simpa [calB] using this
theorem gd_len' {f : Int} {l : List (Int × Int)} (h : gdB f l = true) : l.length ≤ 60 := by
  simp only [gdB, Bool.and_eq_true, decide_eq_true_eq] at h
  exact h.1.2
theorem gd_fr {f : Int} {l : List (Int × Int)} (h : gdB f l = true) : 1 ≤ f ∧ f ≤ 10 := by
  simp only [gdB, frB, Bool.and_eq_true, decide_eq_true_eq] at h
  exact h.1.1
theorem inc_at {l : List (Int × Int)} (h : incB l = true) {k : Nat} (hk : k + 1 < l.length) : ca l k < ca l (k + 1) ∨ ca l k = ca l (k + 1) ∧ cb l k < cb l (k + 1) := by
  simp only [incB, List.all_eq_true, List.mem_range] at h
  have := h k (by omega)
  simpa [lessB] using this
theorem net_gd {f : Int} {l : List (Int × Int)} (h : netB f l = true) : gdB f l = true := by
  simp only [netB, Bool.and_eq_true] at h; exact h.1
theorem net_inc {f : Int} {l : List (Int × Int)} (h : netB f l = true) : incB l = true := by
  simp only [netB, Bool.and_eq_true] at h; exact h.2
theorem net_rank {f : Nat} {l : List (Int × Int)} (h : netB f l = true) : ∀ k, k < l.length → k + 1 ≤ upto f (ca l k).toNat + ((cb l k).toNat - (ca l k).toNat)
  | 0, hk => by
    have := gd_call (net_gd h) hk
    omega
  | k + 1, hk => by
    have ih := net_rank h k (by omega)
    have h1 := gd_call (net_gd h) (show k < l.length by omega)
    have h2 := gd_call (net_gd h) hk
    rcases inc_at (net_inc h) hk with hl | ⟨hl, hm⟩
    · have e : upto f ((ca l k).toNat + 1) = upto f (ca l k).toNat + (f - 1 - (ca l k).toNat) := rfl
      have := upto_mono f (show (ca l k).toNat + 1 ≤ (ca l (k + 1)).toNat by omega)
      omega
    · rw [← hl]; omega
theorem net_len' {f : Nat} {l : List (Int × Int)} (h : netB f l = true) : l.length ≤ f * (f - 1) / 2 := by
  have hf := gd_fr (net_gd h)
  by_cases h0 : l.length = 0
  · omega
  · have hk : l.length - 1 < l.length := by omega
    have h1 := net_rank h _ hk
    have h2 := gd_call (net_gd h) hk
    have e : upto f ((ca l (l.length - 1)).toNat + 1) = upto f (ca l (l.length - 1)).toNat + (f - 1 - (ca l (l.length - 1)).toNat) := rfl
    have h3 := upto_mono f (show (ca l (l.length - 1)).toNat + 1 ≤ f by omega)
    rw [← upto_all f (by omega)]
    omega
theorem net_len {f : Int} {l : List (Int × Int)} (h : netB f l = true) : (l.length : Int) ≤ f * (f - 1) / 2 := by
  have hf := gd_fr (net_gd h)
  obtain ⟨m, rfl⟩ := Int.eq_ofNat_of_zero_le (show 0 ≤ f by omega)
  have := net_len' h
  have e : ((m * (m - 1) / 2 : Nat) : Int) = (m : Int) * ((m : Int) - 1) / 2 := by
    have : ((m - 1 : Nat) : Int) = (m : Int) - 1 := by omega
    push_cast
    rw [this]
  omega
theorem net_len60 {f : Int} {l : List (Int × Int)} (h : netB f l = true) : l.length ≤ 60 := gd_len' (net_gd h)
theorem net_fr {f : Int} {l : List (Int × Int)} (h : netB f l = true) : 1 ≤ f ∧ f ≤ 10 := gd_fr (net_gd h)
/-- One call comes before another one. -/
def befC (x y : Int × Int) : Prop := x.1 < y.1 ∨ x.1 = y.1 ∧ x.2 < y.2
instance (x y : Int × Int) : Decidable (befC x y) := inferInstanceAs (Decidable (_ ∨ _))
theorem befC_trans {x y z : Int × Int} (h1 : befC x y) (h2 : befC y z) : befC x z := by unfold befC at *; omega
theorem inc_lt {l : List (Int × Int)} (h : incB l = true) {i : Nat} : ∀ j, i < j → j < l.length → befC (ca l i, cb l i) (ca l j, cb l j)
  | 0, h1, _ => by omega
  | j + 1, h1, h2 => by
    have hs : befC (ca l j, cb l j) (ca l (j + 1), cb l (j + 1)) := inc_at h h2
    by_cases hij : i = j
    · subst hij; exact hs
    · exact befC_trans (inc_lt h j (by omega) (by omega)) hs

end Go.Proofs.YtibjapfaljeclaaDoor
