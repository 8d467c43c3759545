/- All lists of wires: the pure part. -/
import Derived.Test.YtoigafjocckepaaWl
import Derived.Test.YtoigafjocckepaaLi0
import Derived.Test.YtoigafjocckepaaRs0
namespace Go.Proofs.Ytoigafjocckepaa
open Go.ChangeShapes Go.WideShapes Go.ChangeAt Go.RowKit
set_option linter.unusedVariables false


/-- The lists that are one wire longer than a list. -/
def ext (f : Nat) (l : List Int) : List (List Int) := (List.range' (nxt l) (f - nxt l)).map fun (x : Nat) => l ++ [(x : Int)]
theorem flat_one {α β : Type} (g : α → β) : ∀ L : List α, (L.flatMap fun x => [g x]) = L.map g
  | [] => rfl
  | a :: L => by rw [List.flatMap_cons, List.map_cons, flat_one g L]; rfl
theorem lx_one (f : Nat) (l : List Int) : lx f 1 l = ext f l := flat_one _ _
theorem lx_last (f : Nat) : ∀ m l, lx f (m + 1) l = (lx f m l).flatMap (ext f)
  | 0, l => by rw [lx_one]; simp [lx]
  | m + 1, l => by
    show (List.range' (nxt l) (f - nxt l)).flatMap (fun (x : Nat) => lx f (m + 1) (l ++ [(x : Int)])) = ((List.range' (nxt l) (f - nxt l)).flatMap fun (x : Nat) => lx f m (l ++ [(x : Int)])).flatMap (ext f)
    rw [List.flatMap_assoc]
    congr 1
    funext x
    exact lx_last f m (l ++ [(x : Int)])
theorem bm_app (l : List Int) (x : Nat) : ∀ k, k ≤ l.length → bm (l ++ [(x : Int)]) k = bm l k
  | 0, _ => rfl
  | k + 1, h => by
    show bm (l ++ [(x : Int)]) k ||| _ = bm l k ||| _
    rw [bm_app l x k (by omega), na_appl l _ k (by omega)]
theorem bw_app (l : List Int) (x : Nat) : bw (l ++ [(x : Int)]) = bw l ||| 2 ^ x := by
  unfold bw
  rw [List.length_append]
  show bm (l ++ [(x : Int)]) l.length ||| 2 ^ (na (l ++ [(x : Int)]) l.length).toNat = _
  rw [bm_app l x l.length (Nat.le_refl _), na_last]
  rfl
theorem ris_app {f : Nat} {l : List Int} (h : risB (f : Int) l = true) {x : Nat} (h1 : nxt l ≤ x) (h2 : x < f) : risB (f : Int) (l ++ [(x : Int)]) = true := by
  refine ris_yes fun j hj => ?_
  rw [List.length_append] at hj
  by_cases hjl : j < l.length
  · have hu := ris_at h hjl
    unfold up at hu ⊢
    rw [na_appl l _ j hjl]
    by_cases h0 : j = 0
    · subst h0; simpa using hu
    · rw [na_appl l _ (j - 1) (by omega)]; exact hu
  · have hje : j = l.length := by simp at hj; omega
    subst hje
    unfold up
    rw [na_last]
    simp only [Bool.and_eq_true, decide_eq_true_eq, Bool.or_eq_true, beq_iff_eq]
    refine ⟨by omega, ?_⟩
    by_cases h0 : l.length = 0
    · exact .inl h0
    · right
      rw [na_appl l _ (l.length - 1) (by omega)]
      have hu := up_parts (ris_at h (j := l.length - 1) (by omega))
      unfold nxt at h1
      obtain ⟨q, hq⟩ : ∃ q, l.length = q + 1 := ⟨l.length - 1, by omega⟩
      rw [hq] at h1 hu ⊢
      rw [lst_succ] at h1
      simp only [Nat.add_sub_cancel] at hu ⊢
      omega
theorem ext_ris {f : Nat} {l x : List Int} (h : risB (f : Int) l = true) (hx : x ∈ ext f l) : risB (f : Int) x = true := by
  unfold ext at hx
  rw [List.mem_map] at hx
  obtain ⟨y, hy, rfl⟩ := hx
  rw [List.mem_range'_1] at hy
  exact ris_app h hy.1 (by omega)
theorem lx_ris {f : Nat} : ∀ m, ∀ x, x ∈ lx f m [] → risB (f : Int) x = true
  | 0 => fun x hx => by
    simp only [lx, List.mem_singleton] at hx
    subst hx; rfl
  | m + 1 => fun x hx => by
    rw [lx_last, List.mem_flatMap] at hx
    obtain ⟨l, hl, hx⟩ := hx
    exact ext_ris (lx_ris m l hl) hx
theorem pow_lt_inj {a b : Nat} (h : 2 ^ a ≤ 2 ^ b - 1) : a < b := by
  by_cases hab : a < b
  · exact hab
  · have : 2 ^ b ≤ 2 ^ a := Nat.pow_le_pow_right (by omega : 0 < 2) (by omega)
    have h0 : 0 < 2 ^ b := Nat.two_pow_pos b
    omega
theorem e16_nxt {f : Nat} (hf : f ≤ 10) {l : List Int} (h : risB (f : Int) l = true) : e16 (bw l) = nxt l := by
  have h1 := bm_lt (f := (f : Int)) (by omega) h l.length (Nat.le_refl _)
  have h2 : bw l < 2 ^ nxt l := h1.1
  have hb : bw l < 1024 := h1.2
  have hall := e16_all ⟨bw l, hb⟩
  simp only at hall
  by_cases h0 : l.length = 0
  · obtain rfl : l = [] := List.eq_nil_of_length_eq_zero h0
    decide +kernel
  · obtain ⟨q, hq⟩ : ∃ q, l.length = q + 1 := ⟨l.length - 1, by omega⟩
    have hu := up_parts (ris_at h (j := q) (by omega))
    have hn : nxt l = (na l q).toNat + 1 := by unfold nxt; rw [hq, lst_succ]; omega
    have hge : 2 ^ (na l q).toNat ≤ bw l := by
      unfold bw
      rw [hq, bm_add (f := (f : Int)) (by omega) h (by omega)]
      omega
    have hpos : 0 < bw l := Nat.lt_of_lt_of_le (Nat.two_pow_pos _) hge
    have h3 := hall.2.2.1 hpos
    have h4 : (na l q).toNat < e16 (bw l) := by
      have : 2 ^ (na l q).toNat ≤ 2 ^ e16 (bw l) - 1 := by omega
      exact pow_lt_inj this
    have h5 : e16 (bw l) - 1 < nxt l := by
      have : 2 ^ (e16 (bw l) - 1) ≤ 2 ^ nxt l - 1 := by omega
      exact pow_lt_inj this
    omega
/-- The lists that are one wire longer, as bits. -/
def lgr (f n : Nat) : List Nat := (List.range' (e16 n) (f - e16 n)).map fun x => n ||| 2 ^ x
def lm (f : Nat) : Nat → List Nat | 0 => [0] | j + 1 => (lm f j).flatMap (lgr f)
theorem ext_bw {f : Nat} (hf : f ≤ 10) {l : List Int} (h : risB (f : Int) l = true) : (ext f l).map bw = lgr f (bw l) := by
  unfold ext lgr
  rw [List.map_map, e16_nxt hf h]
  congr 1
  funext x
  exact bw_app l x
theorem flat_map_bw {f : Nat} (hf : f ≤ 10) : ∀ L : List (List Int), (∀ x, x ∈ L → risB (f : Int) x = true) → (L.flatMap (ext f)).map bw = (L.map bw).flatMap (lgr f)
  | [], _ => rfl
  | a :: L, h => by
    rw [List.flatMap_cons, List.map_append, List.map_cons, List.flatMap_cons, ext_bw hf (h a (by simp)), flat_map_bw hf L (fun x hx => h x (by simp [hx]))]
theorem lm_lx {f : Nat} (hf : f ≤ 10) : ∀ j, lm f j = (lx f j []).map bw
  | 0 => rfl
  | j + 1 => by
    rw [lx_last, flat_map_bw hf _ (lx_ris j)]
    show (lm f j).flatMap (lgr f) = _
    rw [lm_lx hf j]
theorem lm_len {f : Nat} (hf : f ≤ 10) (j : Nat) : (lm f j).length ≤ 1024 := by
  rw [lm_lx hf, List.length_map]
  have h := lx_len f j []
  have h2 : 2 ^ (f - nxt []) ≤ 2 ^ 10 := Nat.pow_le_pow_right (by decide) (by omega)
  omega
theorem lm_lt {f : Nat} (hf : f ≤ 10) (j : Nat) : ∀ x, x ∈ lm f j → x < 1024 := by
  intro x hx
  rw [lm_lx hf, List.mem_map] at hx
  obtain ⟨l, hl, rfl⟩ := hx
  exact bw_lt (by omega) (lx_ris j l hl)
/-- All lists of at most m wires. -/
def la (f : Nat) : Nat → List Nat | 0 => [0] | m + 1 => la f m ++ lm f (m + 1)
def wL (f : Nat) : Nat → List (List Int) | 0 => lx f 0 [] | m + 1 => wL f m ++ lx f (m + 1) []
theorem la_wL {f : Nat} (hf : f ≤ 10) : ∀ m, la f m = (wL f m).map bw
  | 0 => rfl
  | m + 1 => by
    show la f m ++ lm f (m + 1) = (wL f m ++ lx f (m + 1) []).map bw
    rw [List.map_append, la_wL hf m, lm_lx hf]
theorem wL_len {f : Nat} (hf : f ≤ 10) : ∀ m, (wL f m).length ≤ 1024 * (m + 1)
  | 0 => by simp [wL, lx]
  | m + 1 => by
    have h1 := wL_len hf m
    have h2 := lx_len f (m + 1) []
    have h3 : 2 ^ (f - nxt []) ≤ 2 ^ 10 := Nat.pow_le_pow_right (by decide) (by omega)
    show (wL f m ++ lx f (m + 1) []).length ≤ _
    rw [List.length_append]
    omega
theorem wL_ris {f : Nat} : ∀ m, ∀ x, x ∈ wL f m → risB (f : Int) x = true
  | 0 => lx_ris 0
  | m + 1 => fun x hx => by
    have hx2 : x ∈ wL f m ++ lx f (m + 1) [] := hx
    rw [List.mem_append] at hx2
    rcases hx2 with h | h
    · exact wL_ris m x h
    · exact lx_ris (m + 1) x h
theorem la_len {f : Nat} (hf : f ≤ 10) (m : Nat) (hm : m ≤ 10) : (la f m).length ≤ 11264 := by
  rw [la_wL hf, List.length_map]; have := wL_len hf m; omega
theorem la_lt {f : Nat} (hf : f ≤ 10) (m : Nat) : ∀ x, x ∈ la f m → x < 1024 := by
  intro x hx
  rw [la_wL hf, List.mem_map] at hx
  obtain ⟨l, hl, rfl⟩ := hx
  exact bw_lt (by omega) (wL_ris m l hl)
theorem wa_mem (M : List Nat) (i : Nat) (h : i < M.length) : wa M i ∈ M := by rw [← wa_get M i h]; exact List.getElem_mem h

end Go.Proofs.Ytoigafjocckepaa
