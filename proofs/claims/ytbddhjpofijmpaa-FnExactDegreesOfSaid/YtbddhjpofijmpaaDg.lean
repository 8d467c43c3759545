/- The degrees: what they are. -/
import Derived.Test.YtbddhjpofijmpaaPc
namespace Go.Proofs.Ytbddhjpofijmpaa
open Go.ChangeShapes Go.WideShapes Go.ChangeAt Go.RowKit
set_option linter.unusedVariables false

def updI (d : Nat → Int) (i : Nat) (v : Int) : Nat → Int := fun j => if j = i then v else d j
/-- So many numbers. -/
def fvL (F : Nat) (d : Nat → Int) : List Int := (List.range F).map d
theorem fvL_length (F : Nat) (d : Nat → Int) : (fvL F d).length = F := by simp [fvL]
theorem na_fvL {F i : Nat} {d : Nat → Int} (h : i < F) : na (fvL F d) i = d i := by simp [na, fvL, List.getD_eq_getElem?_getD, h]
theorem fvL_congr {F : Nat} {d e : Nat → Int} (h : ∀ v, v < F → d v = e v) : fvL F d = fvL F e := by
  unfold fvL
  exact List.map_congr_left fun v hv => h v (List.mem_range.1 hv)
theorem fvL_set (F : Nat) (d : Nat → Int) (i : Nat) (v : Int) : (fvL F d).set i v = fvL F (updI d i v) := by
  apply List.ext_getElem?
  intro j
  by_cases hj : j < F
  · by_cases hij : i = j
    · subst hij; rw [List.getElem?_set_self (by rw [fvL_length]; exact hj)]; simp [fvL, updI, hj]
    · rw [List.getElem?_set_ne hij]; simp [fvL, updI, hj, Ne.symm hij]
  · rw [List.getElem?_eq_none (by rw [List.length_set, fvL_length]; omega), List.getElem?_eq_none (by rw [fvL_length]; omega)]
theorem fvL_zero (F : Nat) : List.replicate F (0 : Int) = fvL F (fun _ => 0) := by simp [fvL, List.map_const']

theorem pc_put : ∀ x : Fin 1024, ∀ b : Fin 10, x.val.testBit b.val = false → pc (x.val ||| 2 ^ b.val) = pc x.val + 1 := by decide +kernel
theorem adj_ex {l : List (Int × Int)} {v u : Nat} : ∀ k, adjT l k v u = true → ∃ j, j < k ∧ ((v = (ca l j).toNat ∧ u = (cb l j).toNat) ∨ (v = (cb l j).toNat ∧ u = (ca l j).toNat))
  | 0, h => by simp [adjT] at h
  | k + 1, h => by
    simp only [adjT, Bool.or_eq_true, Bool.and_eq_true, beq_iff_eq] at h
    rcases h with (h | h) | h
    · obtain ⟨j, hj, h⟩ := adj_ex k h
      exact ⟨j, by omega, h⟩
    · exact ⟨k, by omega, .inl h⟩
    · exact ⟨k, by omega, .inr h⟩
/-- One more for a friend. -/
def inc1 (d : Nat → Nat) (v : Nat) : Nat → Nat := upd d v (d v + 1)
/-- In how many of the first k pairs each friend is. -/
def dgT (l : List (Int × Int)) : Nat → (Nat → Nat)
  | 0 => fun _ => 0
  | k + 1 => inc1 (inc1 (dgT l k) (ca l k).toNat) (cb l k).toNat
theorem inc1_le {d : Nat → Nat} {m : Nat} (h : ∀ v, d v ≤ m) (v : Nat) : ∀ u, inc1 d v u ≤ m + 1 := by
  intro u
  have := h v
  have := h u
  unfold inc1 upd
  split <;> omega
theorem dg_le (l : List (Int × Int)) : ∀ k v, dgT l k v ≤ k + k
  | 0, _ => Nat.le_refl _
  | k + 1, v => by
    have := inc1_le (inc1_le (dg_le l k) (ca l k).toNat) (cb l k).toNat v
    rw [dgT]; omega
theorem dg_new {l : List (Int × Int)} {f : Int} (h : netB f l = true) {k : Nat} (hk : k < l.length) : adjT l k (ca l k).toNat (cb l k).toNat = false ∧ adjT l k (cb l k).toNat (ca l k).toNat = false := by
  have hc := gd_call (net_gd h) hk
  constructor <;>
  · rw [Bool.eq_false_iff]
    intro ht
    obtain ⟨j, hj, e⟩ := adj_ex k ht
    have h2 := gd_call (net_gd h) (show j < l.length by omega)
    have h3 := inc_lt (net_inc h) k hj hk
    unfold befC at h3
    simp only at h3
    omega
/-- As many are in a friend's set. -/
theorem dg_pc {l : List (Int × Int)} {f : Int} (h : netB f l = true) : ∀ k, k ≤ l.length → ∀ v, pc (lkT l k v) = dgT l k v
  | 0, _, v => by show pc 0 = 0; decide
  | k + 1, hk, v => by
    have hc := gd_call (net_gd h) (show k < l.length by omega)
    have hf := net_fr h
    have ih := dg_pc h k (by omega)
    have hs := lk_small (gd_two (net_gd h)) k (by omega)
    have hn := dg_new h (show k < l.length by omega)
    rw [← lk_bit, ← lk_bit] at hn
    rw [lkT, dgT]
    generalize lkT l k = S at *
    generalize dgT l k = D at *
    have ha : (ca l k).toNat < 10 := by omega
    have hb : (cb l k).toNat < 10 := by omega
    have hab : (ca l k).toNat ≠ (cb l k).toNat := by omega
    generalize (ca l k).toNat = a at *
    generalize (cb l k).toNat = b at *
    have pa := pc_put ⟨S a, hs a⟩ ⟨b, hb⟩ hn.1
    have pb := pc_put ⟨S b, hs b⟩ ⟨a, ha⟩ hn.2
    simp only at pa pb
    unfold put1 inc1 upd
    by_cases e : v = b
    · subst e
      rw [if_pos rfl, if_pos rfl, if_neg (Ne.symm hab), if_neg (Ne.symm hab), pb, ih v]
    · rw [if_neg e, if_neg e]
      by_cases e2 : v = a
      · subst e2
        rw [if_pos rfl, if_pos rfl, pa, ih v]
      · rw [if_neg e2, if_neg e2, ih v]
/-- The degrees. -/
def degN (F : Nat) (l : List (Int × Int)) (k : Nat) : List Int := fvL F (fun v => ((dgT l k v : Nat) : Int))
theorem degN_length (F : Nat) (l : List (Int × Int)) (k : Nat) : (degN F l k).length = F := fvL_length _ _
def degR (f : Int) (l : List (Int × Int)) : List Int := if netB f l then degN f.toNat l l.length else []
theorem degR_len (f : Int) (l : List (Int × Int)) : (degR f l).length ≤ 60 := by
  unfold degR
  cases h : netB f l
  · simp
  · have := net_fr h
    rw [if_pos rfl, degN_length]
    omega
theorem degR_at {F : Nat} {l : List (Int × Int)} (h : netB (F : Int) l = true) : degR (F : Int) l = degN F l l.length := by rw [degR, h, Int.toNat_natCast]; rfl
theorem row_num {w : World} {base g n cap : Nat} {l : List Int} (h : w.ownsRow base 3 1 (.slice (some ⟨g, 0, none⟩) n cap) n (ns l)) (hn : n = l.length) (j : Nat) (hj : j < n) : w.cell? ⟨g, j, none⟩ = some (.int .i64 (na l j)) := by
  rw [h.cellAt j (by omega), ns_get l j (by omega)]

end Go.Proofs.Ytbddhjpofijmpaa
