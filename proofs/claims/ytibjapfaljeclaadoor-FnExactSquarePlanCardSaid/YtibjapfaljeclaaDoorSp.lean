/- The plan over a square: what it is. -/
import Derived.Test.YtibjapfaljeclaaDoorTpS
namespace Go.Proofs.YtibjapfaljeclaaDoor
open Go.ChangeShapes Go.WideShapes Go.ChangeAt Go.RowKit
set_option linter.unusedVariables false


theorem col_at {α : Type} {p : Nat → Bool} {g : Nat → List α} {q : α} : ∀ k, q ∈ col p g k → ∃ i, i < k ∧ p i = true ∧ q ∈ g i
  | 0, h => by simp [col] at h
  | k + 1, h => by
    rw [col] at h
    rcases List.mem_append.1 h with h | h
    · obtain ⟨i, hi, h2⟩ := col_at k h
      exact ⟨i, by omega, h2⟩
    · cases hp : p k
      · rw [hp] at h; simp at h
      · rw [hp] at h; exact ⟨k, by omega, hp, h⟩
/-- Four different friends. -/
structure Sq4 (F a x y z : Nat) : Prop where
  ax : a < x
  ay : a < y
  xz : x < z
  yx : y ≠ x
  yz : y ≠ z
  yF : y < F
  zF : z < F
theorem sq_four {l : List (Int × Int)} {F k : Nat} {q : List Int} (h : q ∈ sqW l F k) : ∃ a x y z : Nat, q = qd a x y z ∧ Sq4 F a x y z := by
  obtain ⟨a, ha, _, h⟩ := col_at _ h
  obtain ⟨x, hx, px, h⟩ := col_at _ h
  obtain ⟨y, hy, py, h⟩ := col_at _ h
  obtain ⟨z, hz, pz, h⟩ := col_at _ h
  simp only [decide_eq_true_eq, Bool.and_eq_true, okq, bne_iff_ne, ne_eq] at px py pz
  exact ⟨a, x, y, z, by simpa using h, px, py, pz.1, pz.2.1, pz.2.2.1, hy, hz⟩
/-- The calls of a square. -/
def mid (a x y z : Nat) : List (Int × Int) := [cmm a x, cmm y z, cmm a z, cmm x y]
/-- The set of a square's friends. -/
def ts (a x y z : Nat) : Nat := ((2 ^ a ||| 2 ^ x) ||| 2 ^ y) ||| 2 ^ z
theorem two_or (x y : Nat) : 2 ^ (cmm x y).1.toNat ||| 2 ^ (cmm x y).2.toNat = 2 ^ x ||| 2 ^ y := by
  unfold cmm
  simp only [Int.toNat_natCast]
  by_cases hl : x ≤ y
  · rw [Nat.min_eq_left hl, Nat.max_eq_right hl]
  · rw [Nat.min_eq_right (by omega), Nat.max_eq_left (by omega), Nat.or_comm]
theorem wth_mid (a x y z : Nat) : wthT 0 (mid a x y z) (mid a x y z).length = ts a x y z := by
  show (((0 ||| (2 ^ (cmm a x).1.toNat ||| 2 ^ (cmm a x).2.toNat)) ||| (2 ^ (cmm y z).1.toNat ||| 2 ^ (cmm y z).2.toNat)) ||| (2 ^ (cmm a z).1.toNat ||| 2 ^ (cmm a z).2.toNat)) ||| (2 ^ (cmm x y).1.toNat ||| 2 ^ (cmm x y).2.toNat) = _
  rw [two_or, two_or, two_or, two_or, ts]
  apply Nat.eq_of_testBit_eq
  intro i
  simp only [Nat.testBit_or, Nat.zero_testBit]
  cases (2 ^ a).testBit i <;> cases (2 ^ x).testBit i <;> cases (2 ^ y).testBit i <;> cases (2 ^ z).testBit i <;> rfl
theorem pow_bit (a u : Nat) : (2 ^ a).testBit u = decide (a = u) := Nat.testBit_two_pow
theorem ts_pc {F a x y z : Nat} (hF : F ≤ 10) (h : Sq4 F a x y z) : pc (ts a x y z) = 4 := by
  have h1 := h.ax; have h2 := h.ay; have h3 := h.xz; have h4 := h.yx; have h5 := h.yz; have h6 := h.yF; have h7 := h.zF
  have p0 := pc_put ⟨0, by decide⟩ ⟨a, by omega⟩ (Nat.zero_testBit _)
  simp only [Nat.zero_or] at p0
  have sa := pow_small a (by omega)
  have sx := pow_small x (by omega)
  have sy := pow_small y (by omega)
  have p1 := pc_put ⟨2 ^ a, sa⟩ ⟨x, by omega⟩ (by simp [pow_bit]; omega)
  have p2 := pc_put ⟨2 ^ a ||| 2 ^ x, or_small sa sx⟩ ⟨y, by omega⟩ (by simp [pow_bit]; omega)
  have p3 := pc_put ⟨(2 ^ a ||| 2 ^ x) ||| 2 ^ y, or_small (or_small sa sx) sy⟩ ⟨z, by omega⟩ (by simp [pow_bit]; omega)
  simp only at p1 p2 p3
  rw [ts, p3, p2, p1, p0, show pc 0 = 0 by decide]
theorem ts_lt {F a x y z : Nat} (h : Sq4 F a x y z) : ts a x y z < 2 ^ F := by
  have h1 := h.ax; have h2 := h.ay; have h3 := h.xz; have h6 := h.yF; have h7 := h.zF
  have pl : ∀ u, u < F → 2 ^ u < 2 ^ F := fun u hu => Nat.pow_lt_pow_right (by decide) hu
  exact Nat.or_lt_two_pow (Nat.or_lt_two_pow (Nat.or_lt_two_pow (pl a (by omega)) (pl x (by omega))) (pl y h6)) (pl z h7)
theorem ts_seen (a x y z u : Nat) : seen (qd a x y z) (qd a x y z).length u = (ts a x y z).testBit u := by
  have e : seen (qd a x y z) (qd a x y z).length u = (((a : Int) == u) || (((x : Int) == u) || (((y : Int) == u) || ((z : Int) == u)))) := by
    show ((List.range 4).any fun i => na (qd a x y z) i == (u : Int)) = _
    simp [List.range_succ, qd, na]
  rw [e, ts]
  simp only [Nat.testBit_or, pow_bit]
  rw [Bool.eq_iff_iff]
  simp only [Bool.or_eq_true, beq_iff_eq, decide_eq_true_eq]
  omega
theorem mid_two {F a x y z : Nat} (hF : F ≤ 10) (h : Sq4 F a x y z) : twoB (mid a x y z) := by
  have h1 := h.ax; have h2 := h.ay; have h3 := h.xz; have h4 := h.yx; have h5 := h.yz; have h6 := h.yF; have h7 := h.zF
  intro i hi
  have hi4 : i < 4 := hi
  have : i = 0 ∨ i = 1 ∨ i = 2 ∨ i = 3 := by omega
  rcases this with rfl | rfl | rfl | rfl
  · exact (cmm_two a x (by omega) (by omega) (by omega)) 0 (by simp)
  · exact (cmm_two y z (by omega) (by omega) (by omega)) 0 (by simp)
  · exact (cmm_two a z (by omega) (by omega) (by omega)) 0 (by simp)
  · exact (cmm_two x y (by omega) (by omega) (by omega)) 0 (by simp)

/-- The plan over a square. -/
def spL (l : List (Int × Int)) (F a x y z : Nat) : List (Int × Int) := (tre l F (ts a x y z)).reverse ++ (mid a x y z ++ tre l F (ts a x y z))
def spQ (l : List (Int × Int)) (F : Nat) : List (List Int) → List (Int × Int)
  | [] => []
  | q :: _ => spL l F (na q 0).toNat (na q 1).toNat (na q 2).toNat (na q 3).toNat
def spB (f : Int) (l : List (Int × Int)) : Bool := isjR f l && anyQ (sqW l f.toNat f.toNat)
def spR (f : Int) (l : List (Int × Int)) : List (Int × Int) := if isjR f l then spQ l f.toNat (sqW l f.toNat f.toNat) else []
theorem spQ_qd (l : List (Int × Int)) (F a x y z : Nat) (r : List (List Int)) : spQ l F (qd a x y z :: r) = spL l F a x y z := by simp [spQ, qd, na]
theorem sp_no {f : Int} {l : List (Int × Int)} (h : isjR f l = false) : spB f l = false ∧ spR f l = [] := ⟨by rw [spB, h]; rfl, by rw [spR, h]; rfl⟩
theorem sp_nil {F : Nat} {l : List (Int × Int)} (h : sqW l F F = []) : spB (F : Int) l = false ∧ spR (F : Int) l = [] := by
  refine ⟨by rw [spB, Int.toNat_natCast, h]; simp [anyQ], ?_⟩
  rw [spR, Int.toNat_natCast, h]
  split <;> rfl
theorem sp_yes {F : Nat} {l : List (Int × Int)} (hj : isjR (F : Int) l = true) {a x y z : Nat} {r : List (List Int)} (h : sqW l F F = qd a x y z :: r) : spB (F : Int) l = true ∧ spR (F : Int) l = spL l F a x y z :=
  ⟨by rw [spB, hj, Int.toNat_natCast, h]; rfl, by rw [spR, hj, Int.toNat_natCast, h, if_pos rfl, spQ_qd]⟩
theorem sp_len4 {F : Nat} {l : List (Int × Int)} (hj : isjR (F : Int) l = true) {a x y z : Nat} (h : Sq4 F a x y z) : (tre l F (ts a x y z)).length = F - 4 ∧ 4 ≤ F := by
  have hn := isj_net hj
  have hF := net_fr hn
  have hp := ts_pc (F := F) (by omega) h
  have h1 := h.ax; have h2 := h.ay; have h3 := h.xz; have h4 := h.yx; have h5 := h.yz; have h6 := h.yF; have h7 := h.zF
  have h4F : 4 ≤ F := by omega
  have := tre_len (t0 := ts a x y z) (net_gd hn) (by rw [← isj_at hn]; exact hj) (by omega) (ts_lt h) (by omega)
  exact ⟨by rw [this, hp], h4F⟩
theorem spR_len (f : Int) (l : List (Int × Int)) : (spR f l).length ≤ 60 := by
  cases h : isjR f l
  · rw [(sp_no h).2]; simp
  · have hn := isj_net h
    have hF := net_fr hn
    obtain ⟨F, rfl⟩ := Int.eq_ofNat_of_zero_le (show 0 ≤ f by omega)
    cases hT : sqW l F F with
    | nil => rw [(sp_nil hT).2]; simp
    | cons q r =>
      obtain ⟨a, x, y, z, rfl, h4⟩ := sq_four (q := q) (l := l) (F := F) (k := F) (by rw [hT]; exact List.mem_cons_self ..)
      have hl := sp_len4 h h4
      rw [(sp_yes h hT).2, spL, List.length_append, List.length_append, List.length_reverse, hl.1]
      show F - 4 + (4 + (F - 4)) ≤ 60
      omega

end Go.Proofs.YtibjapfaljeclaaDoor
