/- The program's struct of who knows what. -/
import Derived.Test.YtmgmkgjefplfdaaGood
namespace Go.Proofs.Ytmgmkgjefplfdaa
open Go.ChangeShapes Go.WideShapes Go.ChangeAt Go.RowKit
set_option linter.unusedVariables false

theorem info133 : (Try.prog.info? 133).map (·.size) = some 11 := by kernel_rfl

/-- The program's struct of who knows what: so many friends, a set for each of ten. -/
def KA (f : Int) (s : Nat → Nat) : Array Value := (Value.int .i64 f :: (List.range 10).map fun i => Value.int .u16 (s i)).toArray

theorem KA_size (f : Int) (s : Nat → Nat) : (KA f s).size = 11 := by simp [KA]

theorem KA_zero (f : Int) (s : Nat → Nat) : (KA f s)[0]? = some (.int .i64 f) := by simp [KA]

theorem KA_get (f : Int) (s : Nat → Nat) (i : Nat) (h : i < 10) : (KA f s)[1 + i]? = some (.int .u16 (s i)) := by
  rw [Nat.add_comm]
  simp [KA, h]

theorem KA_one (f : Int) (s : Nat → Nat) : (KA f s).all (·.oneCell') = true := by
  rw [Array.all_eq_true_iff_forall_mem]
  intro x hx
  simp only [KA, List.mem_toArray, List.mem_cons, List.mem_map] at hx
  rcases hx with rfl | ⟨i, _, rfl⟩ <;> rfl

def upd (s : Nat → Nat) (i v : Nat) : Nat → Nat := fun j => if j = i then v else s j

theorem KA_set (f : Int) (s : Nat → Nat) (i v : Nat) : (KA f s).setIfInBounds (1 + i) (.int .u16 v) = KA f (upd s i v) := by
  apply Array.ext_getElem?
  intro j
  rw [Array.getElem?_setIfInBounds]
  by_cases hj : j < 11
  · rcases Nat.eq_zero_or_pos j with rfl | hp
    · rw [if_neg (by omega), KA_zero, KA_zero]
    · obtain ⟨m, rfl⟩ : ∃ m, j = 1 + m := ⟨j - 1, by omega⟩
      rw [KA_get f (upd s i v) m (by omega), KA_get f s m (by omega), KA_size]
      by_cases hm : m = i
      · subst hm; rw [if_pos rfl, if_pos (by omega)]; simp [upd]
      · rw [if_neg (by omega)]; simp [upd, hm]
  · have h1 : (KA f s)[j]? = none := by rw [Array.getElem?_eq_none_iff, KA_size]; omega
    have h2 : (KA f (upd s i v))[j]? = none := by rw [Array.getElem?_eq_none_iff, KA_size]; omega
    rw [h1, h2, KA_size]
    split
    · rw [if_neg (by omega)]
    · rfl

theorem below_setRow {B : Nat} {a w : World} (h : Below B a w) {g : Nat} (hg : B ≤ g) (cs : Array Value) : Below B a (w.setRow g cs) :=
  h.trans ⟨rfl, rfl, rfl, by simp, fun k hk => setRow_other w g k cs (by omega)⟩

theorem all_set {K : Array Value} {i : Nat} {v : Value} (h : K.all (·.oneCell') = true) (hv : v.oneCell' = true) : (K.setIfInBounds i v).all (·.oneCell') = true := by
  rw [Array.all_eq_true_iff_forall_mem] at h ⊢
  intro x hx
  rcases Array.mem_or_eq_of_mem_setIfInBounds hx with h1 | rfl
  · exact h x h1
  · exact hv

/-- At first each of so many knows the own news. -/
def own0 (k : Nat) : Nat → Nat := fun i => if i < k then 2 ^ i else 0

def ZA : Array Value := KA 0 fun _ => 0

theorem own0_upd (k : Nat) : upd (own0 k) k (2 ^ k) = own0 (k + 1) := by
  funext j
  unfold upd own0
  by_cases h : j = k
  · subst h; simp
  · by_cases h2 : j < k
    · simp [h, h2, show j < k + 1 by omega]
    · simp [h, h2, show ¬ j < k + 1 by omega]

theorem wrap_pow : ∀ k : Nat, k < 10 → IntKind.u16.wrap ((2 : Int) ^ k) = ((2 ^ k : Nat) : Int) := by decide

set_option maxRecDepth 20000 in
theorem ownNews_any (f : Nat) (w : World) (hf : f ≤ 10) :
    Calls Try.prog 147 #[.int .i64 f] w fun e w' => e = .returned (.agg (KA f (own0 f))) ∧ Below w.heap.size w w' := by
  go_enter Try.func147, Try.ntmps147
  go_wp2_with fail
  go_loopw [8] (fun i wr => ∃ k : Nat, k ≤ f ∧ i = .int .i64 k ∧ wr.heap[w.heap.size + 1]? = some (.cells (KA f (own0 k)) 133 (0, 0)) ∧ wr.heap[w.heap.size]? = some (.cells ZA 133 (0, 0)) ∧ Below w.heap.size w wr) (fun i _ => f - (intOf i).toNat)
  case atStart =>
    refine ⟨0, Nat.zero_le _, rfl, ?_, ?_, ((Below.refl _ _).alloc (Nat.le_refl _) _).alloc (by simp) _⟩
    · have e : ((w.alloc (.cells ZA 133)).alloc (.cells (KA f (own0 0)) 133)).heap[w.heap.size + 1]? = some (.cells (KA f (own0 0)) 133 (0, 0)) := by
        have := heap_alloc_new (w.alloc (.cells ZA 133)) (.cells (KA f (own0 0)) 133)
        simpa using this
      exact e
    · rw [Below.heap_alloc _ _ _ (by simp), heap_alloc_new]; rfl
  case round =>
    obtain ⟨k, hk, rfl, hB, hZ, hbel⟩ := hrel
    by_cases hlt : k < f
    · have hc := cell_of_row wr (w.heap.size + 1) (1 + k) _ _ _ hB
      have hfz := frozen_of_row wr (w.heap.size + 1) (1 + k) _ _ hB
      rw [KA_get _ _ k (by omega)] at hc
      have HB := Lib.hid hB
      have HZ := Lib.hid hZ
      have hlt2 : w.heap.size + 1 < wr.heap.size := (Array.getElem?_eq_some_iff.1 hB).1
      clear hB hZ
      go_wp2_with fail
      go_roundw
      case rel =>
        refine ⟨k + 1, by omega, by go_num, ?_, ?_, hbel.setCell (by show _ ≤ w.heap.size + 1; omega) _⟩
        · rw [wrap_pow k (by omega), ← own0_upd, ← KA_set]
          exact heap_setCell_same _ _ _ _ _ _ HB.out
        · rw [heap_setCell_other _ _ _ _ (by show _ ≠ w.heap.size + 1; omega)]
          exact HZ.out
      case measure => simp [intOf]; omega
    · obtain rfl : k = f := by omega
      have HB := Lib.hid hB
      have HZ := Lib.hid hZ
      clear hB hZ hlt hk
      go_upto_region 7 with (fail)
      go_wp2_with (first
        | (with_reducible refine wpList_load_row rfl 133 (.tmp 3) rfl (w.heap.size + 1) ?q1 133 _ (0, 0) _ HB.out Try.underlying133 rfl ?q3 ?_)
        | (with_reducible refine wpList_store_row rfl 133 (.tmp 2) (.tmp 17) rfl w.heap.size (KA k (own0 k)) ?r1 ?r2 133 _ HZ.out ?r3 ?r4 ?r5 ?_))
      case q1 => rfl
      case q3 => rw [info133, KA_size]
      case r3 => rw [info133, KA_size]
      case r4 => rw [KA_size]; rfl
      case r5 => exact KA_one _ _
      refine bodyPost_ret (results_cell_row rfl _ _ w.heap.size 133 _ (0, 0) _ rfl (setRow_heap _ _ _ _ _ _ HZ.out) Try.underlying133 rfl ?_) rfl ⟨rfl, below_setRow hbel (Nat.le_refl _) _⟩
      rw [info133, KA_size]

/-- What is known behind a call. -/
def stp (s : Nat → Nat) (c : Int × Int) : Nat → Nat := upd (upd s c.1.toNat (s c.1.toNat ||| s c.2.toNat)) c.2.toNat (s c.1.toNat ||| s c.2.toNat)

/-- What is known behind calls. -/
def play (f : Nat) (l : List (Int × Int)) : Nat → Nat := l.foldl stp (own0 f)

theorem own0_lt (f i : Nat) : own0 f i < 2 ^ f := by
  unfold own0
  split
  · exact Nat.pow_lt_pow_right (by decide) (by assumption)
  · exact Nat.two_pow_pos f

theorem upd_lt {s : Nat → Nat} {f : Nat} (h : ∀ i, s i < 2 ^ f) {v : Nat} (hv : v < 2 ^ f) (j : Nat) : ∀ i, upd s j v i < 2 ^ f := by
  intro i
  unfold upd
  split
  · exact hv
  · exact h i

theorem stp_lt {s : Nat → Nat} {f : Nat} (h : ∀ i, s i < 2 ^ f) (c : Int × Int) : ∀ i, stp s c i < 2 ^ f := by
  have hv : s c.1.toNat ||| s c.2.toNat < 2 ^ f := Nat.or_lt_two_pow (h _) (h _)
  exact upd_lt (upd_lt h hv _) hv _

theorem foldl_lt {f : Nat} (l : List (Int × Int)) : ∀ {s : Nat → Nat}, (∀ i, s i < 2 ^ f) → ∀ i, l.foldl stp s i < 2 ^ f := by
  induction l with
  | nil => intro s h; exact h
  | cons c l ih => intro s h; exact ih (stp_lt h c)

theorem play_lt (f : Nat) (l : List (Int × Int)) (i : Nat) : play f l i < 2 ^ f := foldl_lt l (own0_lt f) i

theorem play_small (f : Nat) (hf : f ≤ 10) (l : List (Int × Int)) (i : Nat) : play f l i < 1024 :=
  Nat.lt_of_lt_of_le (play_lt f l i) (Nat.pow_le_pow_right (by decide) hf)

theorem play_succ (f : Nat) (l : List (Int × Int)) (k : Nat) (h : k < l.length) : play f (l.take (k + 1)) = stp (play f (l.take k)) (ca l k, cb l k) := by
  rw [List.take_succ_eq_append_getElem h, ca_cb l k h]
  simp [play, List.foldl_append]

theorem bits_or_nat (x y : Nat) (hx : x < 1024) (hy : y < 1024) : bits BinOp.or IntKind.u16 x y = ((x ||| y : Nat) : Int) := by
  have hx2 : x ||| y < 2 ^ 10 := Nat.or_lt_two_pow (n := 10) hx hy
  have h1 : (BitVec.ofInt 16 (x : Int)).toNat = x := by
    rw [BitVec.ofInt_natCast, BitVec.toNat_ofNat]; exact Nat.mod_eq_of_lt (by omega)
  have h2 : (BitVec.ofInt 16 (y : Int)).toNat = y := by
    rw [BitVec.ofInt_natCast, BitVec.toNat_ofNat]; exact Nat.mod_eq_of_lt (by omega)
  show IntKind.u16.wrap ((BitVec.ofInt 16 (x : Int) ||| BitVec.ofInt 16 (y : Int)).toNat : Int) = _
  rw [BitVec.toNat_or, h1, h2, IntKind.wrap_u16]
  omega

theorem gd_call {f : Int} {l : List (Int × Int)} (h : gdB f l = true) {i : Nat} (hi : i < l.length) : 0 ≤ ca l i ∧ ca l i < cb l i ∧ cb l i < f := by
  simp only [gdB, Bool.and_eq_true, List.all_eq_true] at h
  have h2 := h.2 l[i] (List.getElem_mem hi)
  rw [ca_cb l i hi] at h2
  simpa [calB] using h2

theorem gd_len' {f : Int} {l : List (Int × Int)} (h : gdB f l = true) : l.length ≤ 60 := by
  simp only [gdB, Bool.and_eq_true, decide_eq_true_eq] at h
  exact h.1.2

theorem gd_fr {f : Int} {l : List (Int × Int)} (h : gdB f l = true) : 1 ≤ f ∧ f ≤ 10 := by
  simp only [gdB, Bool.and_eq_true] at h
  simpa [frB] using h.1.1

end Go.Proofs.Ytmgmkgjefplfdaa
