/- The program's struct of who knows what: at first, behind a call, behind calls. -/
import Derived.Test.YtjdanppciginkaaGood
namespace Go.Proofs.Ytjdanppciginkaa
open Go.ChangeShapes Go.WideShapes Go.ChangeAt Go.RowKit

theorem info49 : (Try.prog.info? 49).map (·.size) = some 11 := by kernel_rfl

/-- The program's struct of who knows what: so many friends, a set for each of ten. -/
def KA (f : Int) (s : Nat → Nat) : Array Value := (Value.int .i64 f :: (List.range 10).map fun i => Value.int .u16 (s i)).toArray

theorem KA_size (f : Int) (s : Nat → Nat) : (KA f s).size = 11 := by simp [KA]

theorem KA_zero (f : Int) (s : Nat → Nat) : (KA f s)[0]? = some (.int .i64 f) := by simp [KA]

theorem KA_get (f : Int) (s : Nat → Nat) (i : Nat) (h : i < 10) : (KA f s)[1 + i]? = some (.int .u16 (s i)) := by
  rw [Nat.add_comm]
  simp [KA, h]

theorem KA_one (f : Int) (s : Nat → Nat) : (KA f s).all (·.oneCell') = true := by
  rw [Array.all_eq_true_iff_forall_mem]
  intro x hx
  simp only [KA, List.mem_toArray, List.mem_cons, List.mem_map] at hx
  rcases hx with rfl | ⟨i, _, rfl⟩ <;> rfl

def upd (s : Nat → Nat) (i v : Nat) : Nat → Nat := fun j => if j = i then v else s j

theorem KA_set (f : Int) (s : Nat → Nat) (i v : Nat) : (KA f s).setIfInBounds (1 + i) (.int .u16 v) = KA f (upd s i v) := by
  apply Array.ext_getElem?
  intro j
  rw [Array.getElem?_setIfInBounds]
  by_cases hj : j < 11
  · rcases Nat.eq_zero_or_pos j with rfl | hp
    · rw [if_neg (by omega), KA_zero, KA_zero]
    · obtain ⟨m, rfl⟩ : ∃ m, j = 1 + m := ⟨j - 1, by omega⟩
      rw [KA_get f (upd s i v) m (by omega), KA_get f s m (by omega), KA_size]
      by_cases hm : m = i
      · subst hm; rw [if_pos rfl, if_pos (by omega)]; simp [upd]
      · rw [if_neg (by omega)]; simp [upd, hm]
  · have h1 : (KA f s)[j]? = none := by rw [Array.getElem?_eq_none_iff, KA_size]; omega
    have h2 : (KA f (upd s i v))[j]? = none := by rw [Array.getElem?_eq_none_iff, KA_size]; omega
    rw [h1, h2, KA_size]
    split
    · rw [if_neg (by omega)]
    · rfl

theorem below_setRow {B : Nat} {a w : World} (h : Below B a w) {g : Nat} (hg : B ≤ g) (cs : Array Value) : Below B a (w.setRow g cs) :=
  h.trans ⟨rfl, rfl, rfl, by simp, fun k hk => setRow_other w g k cs (by omega)⟩

theorem all_set {K : Array Value} {i : Nat} {v : Value} (h : K.all (·.oneCell') = true) (hv : v.oneCell' = true) : (K.setIfInBounds i v).all (·.oneCell') = true := by
  rw [Array.all_eq_true_iff_forall_mem] at h ⊢
  intro x hx
  rcases Array.mem_or_eq_of_mem_setIfInBounds hx with h1 | rfl
  · exact h x h1
  · exact hv

/-- What the two stores leave. -/
theorem two_stores (w : World) (K Z C : Array Value) (a b nq : Nat) (z : Value) :
    (((((w.alloc (.cells K 49)).alloc (.cells C 42)).alloc (.cells Z 49)).drewN nq).setCell ⟨w.heap.size, 1 + a, none⟩ z).setCell ⟨w.heap.size, 1 + b, none⟩ z |>.heap[w.heap.size]? = some (.cells ((K.setIfInBounds (1 + a) z).setIfInBounds (1 + b) z) 49 (0, 0)) := by
  refine heap_setCell_same _ _ _ _ _ _ ?_
  refine heap_setCell_same _ _ _ _ _ _ ?_
  show (((w.alloc (.cells K 49)).alloc (.cells C 42)).alloc (.cells Z 49)).heap[w.heap.size]? = _
  rw [Below.heap_alloc _ _ _ (by simp; omega), Below.heap_alloc _ _ _ (by simp), heap_alloc_new]

theorem two_stores_out (w : World) (K Z C : Array Value) (a b nq : Nat) (z : Value) :
    (((((w.alloc (.cells K 49)).alloc (.cells C 42)).alloc (.cells Z 49)).drewN nq).setCell ⟨w.heap.size, 1 + a, none⟩ z).setCell ⟨w.heap.size, 1 + b, none⟩ z |>.heap[w.heap.size + 1 + 1]? = some (.cells Z 49 (0, 0)) := by
  rw [heap_setCell_other _ _ _ _ (by show _ ≠ w.heap.size; omega), heap_setCell_other _ _ _ _ (by show _ ≠ w.heap.size; omega)]
  show (((w.alloc (.cells K 49)).alloc (.cells C 42)).alloc (.cells Z 49)).heap[w.heap.size + 1 + 1]? = _
  have := heap_alloc_new ((w.alloc (.cells K 49)).alloc (.cells C 42)) (.cells Z 49)
  simpa using this

theorem behind_any (K : Array Value) (a b : Nat) (x y : Int) (w : World) (hK : K.size = 11) (h1 : K.all (·.oneCell') = true) (ha : K[1 + a]? = some (.int .u16 x)) (hb : K[1 + b]? = some (.int .u16 y)) (hab : a < b) (b1 : b < 10) :
    Calls Try.prog 41 #[.agg K, .agg #[.int .i64 a, .int .i64 b]] w fun e w' => e = .returned (.agg ((K.setIfInBounds (1 + a) (.int .u16 (bits BinOp.or IntKind.u16 x y))).setIfInBounds (1 + b) (.int .u16 (bits BinOp.or IntKind.u16 x y)))) ∧ Below w.heap.size w w' := by
  have a2 : (a : Int) < 10 := by omega
  have b2 : (b : Int) < 10 := by omega
  have a0 : (0 : Int) ≤ a := by omega
  have b0 : (0 : Int) ≤ b := by omega
  have HK := Lib.hid hK
  have HK1 := Lib.hid h1
  clear hK h1
  go_enter Try.func41, Try.ntmps41
  go_wp2_with fail
  go_quiet (fail)
  go_upto_region 4 with (fail)
  go_wp2_with (first
    | (with_reducible refine wpList_load_row rfl 49 (.tmp 2) rfl w.heap.size ?q1 49 _ (0, 0) _ (two_stores w K _ _ a b nq _) Try.underlying49 rfl ?q3 ?_)
    | (with_reducible refine wpList_store_row rfl 49 (.tmp 4) (.tmp 27) rfl (w.heap.size + 1 + 1) ((K.setIfInBounds (1 + a) (.int .u16 (bits BinOp.or IntKind.u16 x y))).setIfInBounds (1 + b) (.int .u16 (bits BinOp.or IntKind.u16 x y))) ?r1 ?r2 49 _ (two_stores_out w K _ _ a b nq _) ?r3 ?r4 ?r5 ?_))
  case q1 => rfl
  case q3 => rw [info49, Array.size_setIfInBounds, Array.size_setIfInBounds, HK.out]
  case r3 => rw [info49, Array.size_setIfInBounds, Array.size_setIfInBounds, HK.out]
  case r4 => rw [Array.size_setIfInBounds, Array.size_setIfInBounds, HK.out]; rfl
  case r5 => exact all_set (all_set HK1.out rfl) rfl
  refine bodyPost_ret (results_cell_row rfl _ _ (w.heap.size + 1 + 1) 49 _ (0, 0) _ rfl (setRow_heap _ _ _ _ _ _ (two_stores_out w K _ _ a b nq _)) Try.underlying49 rfl ?_) rfl ⟨rfl, ?_⟩
  · rw [info49, Array.size_setIfInBounds, Array.size_setIfInBounds, HK.out]
  · refine below_setRow (((below_drewN ?_ _).setCell (by show _ ≤ w.heap.size; omega) _).setCell (by show _ ≤ w.heap.size; omega) _) (by omega) _
    exact (((Below.refl _ _).alloc (Nat.le_refl _) _).alloc (by simp) _).alloc (by simp; omega) _

/-- At first each of so many knows the own news. -/
def own0 (k : Nat) : Nat → Nat := fun i => if i < k then 2 ^ i else 0

def ZA : Array Value := KA 0 fun _ => 0

theorem own0_upd (k : Nat) : upd (own0 k) k (2 ^ k) = own0 (k + 1) := by
  funext j
  unfold upd own0
  by_cases h : j = k
  · subst h; simp
  · by_cases h2 : j < k
    · simp [h, h2, show j < k + 1 by omega]
    · simp [h, h2, show ¬ j < k + 1 by omega]

theorem wrap_pow : ∀ k : Nat, k < 10 → IntKind.u16.wrap ((2 : Int) ^ k) = ((2 ^ k : Nat) : Int) := by decide

set_option maxRecDepth 20000 in
theorem ownNews_any (f : Nat) (w : World) (hf : f ≤ 10) :
    Calls Try.prog 34 #[.int .i64 f] w fun e w' => e = .returned (.agg (KA f (own0 f))) ∧ Below w.heap.size w w' := by
  go_enter Try.func34, Try.ntmps34
  go_wp2_with fail
  go_loopw [8] (fun i wr => ∃ k : Nat, k ≤ f ∧ i = .int .i64 k ∧ wr.heap[w.heap.size + 1]? = some (.cells (KA f (own0 k)) 49 (0, 0)) ∧ wr.heap[w.heap.size]? = some (.cells ZA 49 (0, 0)) ∧ Below w.heap.size w wr) (fun i _ => f - (intOf i).toNat)
  case atStart =>
    refine ⟨0, Nat.zero_le _, rfl, ?_, ?_, ((Below.refl _ _).alloc (Nat.le_refl _) _).alloc (by simp) _⟩
    · have e : ((w.alloc (.cells ZA 49)).alloc (.cells (KA f (own0 0)) 49)).heap[w.heap.size + 1]? = some (.cells (KA f (own0 0)) 49 (0, 0)) := by
        have := heap_alloc_new (w.alloc (.cells ZA 49)) (.cells (KA f (own0 0)) 49)
        simpa using this
      exact e
    · rw [Below.heap_alloc _ _ _ (by simp), heap_alloc_new]; rfl
  case round =>
    obtain ⟨k, hk, rfl, hB, hZ, hbel⟩ := hrel
    by_cases hlt : k < f
    · have hc := cell_of_row wr (w.heap.size + 1) (1 + k) _ _ _ hB
      have hfz := frozen_of_row wr (w.heap.size + 1) (1 + k) _ _ hB
      rw [KA_get _ _ k (by omega)] at hc
      have HB := Lib.hid hB
      have HZ := Lib.hid hZ
      have hlt2 : w.heap.size + 1 < wr.heap.size := (Array.getElem?_eq_some_iff.1 hB).1
      clear hB hZ
      go_wp2_with fail
      go_roundw
      case rel =>
        refine ⟨k + 1, by omega, by go_num, ?_, ?_, hbel.setCell (by show _ ≤ w.heap.size + 1; omega) _⟩
        · rw [wrap_pow k (by omega), ← own0_upd, ← KA_set]
          exact heap_setCell_same _ _ _ _ _ _ HB.out
        · rw [heap_setCell_other _ _ _ _ (by show _ ≠ w.heap.size + 1; omega)]
          exact HZ.out
      case measure => simp [intOf]; omega
    · obtain rfl : k = f := by omega
      have HB := Lib.hid hB
      have HZ := Lib.hid hZ
      clear hB hZ hlt hk
      go_upto_region 7 with (fail)
      go_wp2_with (first
        | (with_reducible refine wpList_load_row rfl 49 (.tmp 3) rfl (w.heap.size + 1) ?q1 49 _ (0, 0) _ HB.out Try.underlying49 rfl ?q3 ?_)
        | (with_reducible refine wpList_store_row rfl 49 (.tmp 2) (.tmp 17) rfl w.heap.size (KA k (own0 k)) ?r1 ?r2 49 _ HZ.out ?r3 ?r4 ?r5 ?_))
      case q1 => rfl
      case q3 => rw [info49, KA_size]
      case r3 => rw [info49, KA_size]
      case r4 => rw [KA_size]; rfl
      case r5 => exact KA_one _ _
      refine bodyPost_ret (results_cell_row rfl _ _ w.heap.size 49 _ (0, 0) _ rfl (setRow_heap _ _ _ _ _ _ HZ.out) Try.underlying49 rfl ?_) rfl ⟨rfl, below_setRow hbel (Nat.le_refl _) _⟩
      rw [info49, KA_size]

/-- What is known behind a call. -/
def stp (s : Nat → Nat) (c : Int × Int) : Nat → Nat := upd (upd s c.1.toNat (s c.1.toNat ||| s c.2.toNat)) c.2.toNat (s c.1.toNat ||| s c.2.toNat)

/-- What is known behind calls. -/
def play (f : Nat) (l : List (Int × Int)) : Nat → Nat := l.foldl stp (own0 f)

theorem own0_lt (f i : Nat) : own0 f i < 2 ^ f := by
  unfold own0
  split
  · exact Nat.pow_lt_pow_right (by decide) (by assumption)
  · exact Nat.two_pow_pos f

theorem upd_lt {s : Nat → Nat} {f : Nat} (h : ∀ i, s i < 2 ^ f) {v : Nat} (hv : v < 2 ^ f) (j : Nat) : ∀ i, upd s j v i < 2 ^ f := by
  intro i
  unfold upd
  split
  · exact hv
  · exact h i

theorem stp_lt {s : Nat → Nat} {f : Nat} (h : ∀ i, s i < 2 ^ f) (c : Int × Int) : ∀ i, stp s c i < 2 ^ f := by
  have hv : s c.1.toNat ||| s c.2.toNat < 2 ^ f := Nat.or_lt_two_pow (h _) (h _)
  exact upd_lt (upd_lt h hv _) hv _

theorem foldl_lt {f : Nat} (l : List (Int × Int)) : ∀ {s : Nat → Nat}, (∀ i, s i < 2 ^ f) → ∀ i, l.foldl stp s i < 2 ^ f := by
  induction l with
  | nil => intro s h; exact h
  | cons c l ih => intro s h; exact ih (stp_lt h c)

theorem play_lt (f : Nat) (l : List (Int × Int)) (i : Nat) : play f l i < 2 ^ f := foldl_lt l (own0_lt f) i

theorem play_small (f : Nat) (hf : f ≤ 10) (l : List (Int × Int)) (i : Nat) : play f l i < 1024 :=
  Nat.lt_of_lt_of_le (play_lt f l i) (Nat.pow_le_pow_right (by decide) hf)

theorem play_succ (f : Nat) (l : List (Int × Int)) (k : Nat) (h : k < l.length) : play f (l.take (k + 1)) = stp (play f (l.take k)) (ca l k, cb l k) := by
  rw [List.take_succ_eq_append_getElem h, ca_cb l k h]
  simp [play, List.foldl_append]

theorem bits_or_nat (x y : Nat) (hx : x < 1024) (hy : y < 1024) : bits BinOp.or IntKind.u16 x y = ((x ||| y : Nat) : Int) := by
  have hx2 : x ||| y < 2 ^ 10 := Nat.or_lt_two_pow (n := 10) hx hy
  have h1 : (BitVec.ofInt 16 (x : Int)).toNat = x := by
    rw [BitVec.ofInt_natCast, BitVec.toNat_ofNat]; exact Nat.mod_eq_of_lt (by omega)
  have h2 : (BitVec.ofInt 16 (y : Int)).toNat = y := by
    rw [BitVec.ofInt_natCast, BitVec.toNat_ofNat]; exact Nat.mod_eq_of_lt (by omega)
  show IntKind.u16.wrap ((BitVec.ofInt 16 (x : Int) ||| BitVec.ofInt 16 (y : Int)).toNat : Int) = _
  rw [BitVec.toNat_or, h1, h2, IntKind.wrap_u16]
  omega

theorem behind_st (f : Int) (s : Nat → Nat) (a b : Int) (w : World) (hs : ∀ i, s i < 1024) (ha : 0 ≤ a) (hab : a < b) (hb : b < 10) :
    Calls Try.prog 41 #[.agg (KA f s), .agg #[.int .i64 a, .int .i64 b]] w fun e w' => e = .returned (.agg (KA f (stp s (a, b)))) ∧ Below w.heap.size w w' := by
  obtain ⟨a, rfl⟩ := Int.eq_ofNat_of_zero_le ha
  obtain ⟨b, rfl⟩ := Int.eq_ofNat_of_zero_le (show 0 ≤ b by omega)
  refine (behind_any (KA f s) a b (s a) (s b) w (KA_size f s) (KA_one f s) (KA_get f s a (by omega)) (KA_get f s b (by omega)) (by omega) (by omega)).mono ?_
  rintro e w' ⟨rfl, hb'⟩
  rw [bits_or_nat _ _ (hs a) (hs b), KA_set, KA_set]
  exact ⟨rfl, hb'⟩

theorem gd_call {f : Int} {l : List (Int × Int)} (h : gdB f l = true) {i : Nat} (hi : i < l.length) : 0 ≤ ca l i ∧ ca l i < cb l i ∧ cb l i < f := by
  simp only [gdB, Bool.and_eq_true, List.all_eq_true] at h
  have h2 := h.2 l[i] (List.getElem_mem hi)
  rw [ca_cb l i hi] at h2
  simpa [calB] using h2

theorem gd_len' {f : Int} {l : List (Int × Int)} (h : gdB f l = true) : l.length ≤ 60 := by
  simp only [gdB, Bool.and_eq_true, decide_eq_true_eq] at h
  exact h.1.2

theorem gd_fr {f : Int} {l : List (Int × Int)} (h : gdB f l = true) : 1 ≤ f ∧ f ≤ 10 := by
  simp only [gdB, Bool.and_eq_true] at h
  simpa [frB] using h.1.1

set_option maxRecDepth 20000 in
theorem knowledgeBehind_pos (b off cap : Nat) (f : Nat) (l : List (Int × Int)) (n : Nat) (w : World) (Hn : Hid (n = l.length)) (hl : n ≤ 60) (hg : gdB (f : Int) l = true)
    (Hc : Hid (∀ i, i < n → w.cell? ⟨b, off + i * 2, none⟩ = some (.int .i64 (ca l i)) ∧ w.cell? ⟨b, off + i * 2 + 1, none⟩ = some (.int .i64 (cb l i)))) :
    Calls Try.prog 22 #[.int .i64 f, .slice (some ⟨b, off, none⟩) n cap] w fun e w' => e = .returned (.agg (KA f (play f l))) ∧ Below w.heap.size w w' := by
  have hff := gd_fr hg
  have Hg := Lib.hid hg
  clear hg
  go_enter Try.func22, Try.ntmps22
  go_wp2_with fail
  refine (ownNews_any f _ (by omega)).mono ?_
  rintro e w1 ⟨rfl, hb1⟩
  have hZ1 : w1.heap[w.heap.size]? = some (.cells ZA 49 (0, 0)) := (hb1.block _ (by simp)).trans (heap_alloc_new w _)
  have hbel1 : Below w.heap.size w w1 := ((Below.refl _ _).alloc (Nat.le_refl _) _).trans (hb1.mono (by simp))
  have hs1 := hbel1.size
  have hlt1 : w.heap.size < w1.heap.size := (Array.getElem?_eq_some_iff.1 hZ1).1
  have HZ1 := Lib.hid hZ1
  have Hb1 := Lib.hid hbel1
  clear hb1 hZ1 hbel1
  go_wp2_with (with_reducible refine wpList_store_row rfl 49 (.tmp 5) (.tmp 9) rfl w1.heap.size (KA f (own0 f)) ?r1 ?r2 49 _ (heap_alloc_new w1 _) ?r3 ?r4 ?r5 ?_)
  case r1 => rfl
  case r2 => rfl
  case r3 => rw [info49, KA_size]
  case r4 => rw [KA_size]; rfl
  case r5 => exact KA_one _ _
  have hB0 : ((w1.alloc (.cells ZA 49)).setRow w1.heap.size (KA f (own0 f))).heap[w1.heap.size]? = some (.cells (KA f (own0 f)) 49 (0, 0)) := setRow_heap _ _ _ _ _ _ (heap_alloc_new w1 _)
  have hZ0 : ((w1.alloc (.cells ZA 49)).setRow w1.heap.size (KA f (own0 f))).heap[w.heap.size]? = some (.cells ZA 49 (0, 0)) := by
    rw [setRow_other _ _ _ _ (by omega), Below.heap_alloc _ _ _ hlt1]; exact HZ1.out
  have hb0 : Below w.heap.size w ((w1.alloc (.cells ZA 49)).setRow w1.heap.size (KA f (own0 f))) := below_setRow (Hb1.out.alloc hs1 _) hs1 _
  have HB0 := Lib.hid hB0
  have HZ0 := Lib.hid hZ0
  have HH0 := Lib.hid hb0
  clear hB0 hZ0 hb0
  go_loopw [12] (fun i wr => ∃ k : Nat, k ≤ n ∧ i = .int .i64 k ∧ wr.heap[w1.heap.size]? = some (.cells (KA f (play f (l.take k))) 49 (0, 0)) ∧ wr.heap[w.heap.size]? = some (.cells ZA 49 (0, 0)) ∧ Below w.heap.size w wr) (fun i _ => n - (intOf i).toNat)
  case atStart => exact ⟨0, Nat.zero_le _, rfl, HB0.out, HZ0.out, HH0.out⟩
  case round =>
    obtain ⟨k, hk, rfl, hB, hZ, hbel⟩ := hrel
    have HBk := Lib.hid hB
    have HZk := Lib.hid hZ
    have hsz := hbel.size
    have hB1 : w1.heap.size < wr.heap.size := (Array.getElem?_eq_some_iff.1 hB).1
    clear hB hZ
    by_cases hlt : k < n
    · have h0 := hbel.cell (p := ⟨b, off + k * 2, none⟩) (World.block_lt_of_cell? w _ (Hc.out k hlt).1)
      have h1 := hbel.cell (p := ⟨b, off + k * 2 + 1, none⟩) (World.block_lt_of_cell? w _ (Hc.out k hlt).2)
      rw [(Hc.out k hlt).1] at h0
      rw [(Hc.out k hlt).2] at h1
      have hgc := gd_call Hg.out (by rw [← Hn.out]; exact hlt)
      have HB2 := Lib.hid ((Below.heap_alloc wr (.cells #[.int .i64 (ca l k), .int .i64 (cb l k)] 42) _ hB1).trans HBk.out)
      go_wp2_with (with_reducible refine wpList_load_row rfl 49 (.tmp 5) rfl w1.heap.size ?q1 49 _ (0, 0) _ HB2.out Try.underlying49 rfl ?q3 ?_)
      case q1 => rfl
      case q3 => rw [info49, KA_size]
      go_wp2_with fail
      refine (behind_st f (play f (l.take k)) _ _ _ (play_small f (by omega) _) hgc.1 hgc.2.1 (by omega)).mono ?_
      rintro e w3 ⟨rfl, hb3⟩
      have hB3 : w3.heap[w1.heap.size]? = some (.cells (KA f (play f (l.take k))) 49 (0, 0)) := (hb3.block _ (by simp; omega)).trans HB2.out
      have hZ3 : w3.heap[w.heap.size]? = some (.cells ZA 49 (0, 0)) := (hb3.block _ (by simp; omega)).trans ((Below.heap_alloc wr _ _ (by omega)).trans HZk.out)
      have hbel3 : Below w.heap.size w w3 := (hbel.alloc hsz _).trans (hb3.mono (by simp; omega))
      have HB3 := Lib.hid hB3
      have HZ3 := Lib.hid hZ3
      have HH3 := Lib.hid hbel3
      clear hB3 hZ3 hbel3 hb3 hbel h0 h1
      go_wp2_with (with_reducible refine wpList_store_row rfl 49 (.tmp 5) (.tmp 18) rfl w1.heap.size (KA f (stp (play f (l.take k)) (ca l k, cb l k))) ?s1 ?s2 49 _ HB3.out ?s3 ?s4 ?s5 ?_)
      case s1 => rfl
      case s2 => rfl
      case s3 => rw [info49, KA_size]
      case s4 => rw [KA_size, KA_size]
      case s5 => exact KA_one _ _
      go_roundw
      case rel =>
        refine ⟨k + 1, by omega, by go_num, ?_, ?_, below_setRow HH3.out hs1 _⟩
        · rw [play_succ f l k (by rw [← Hn.out]; exact hlt)]
          exact setRow_heap _ _ _ _ _ _ HB3.out
        · rw [setRow_other _ _ _ _ (by omega)]
          exact HZ3.out
      case measure => simp [intOf]; omega
    · obtain rfl : k = n := by omega
      have hp : l.take k = l := List.take_of_length_le (by rw [← Hn.out]; exact Nat.le_refl _)
      rw [hp] at HBk
      have Hbel := Lib.hid hbel
      clear hlt hk hp hbel
      go_wp2_with (first
        | (with_reducible refine wpList_load_row rfl 49 (.tmp 5) rfl w1.heap.size ?u1 49 _ (0, 0) _ HBk.out Try.underlying49 rfl ?u3 ?_)
        | (with_reducible refine wpList_store_row rfl 49 (.tmp 4) (.tmp 20) rfl w.heap.size (KA f (play f l)) ?v1 ?v2 49 _ HZk.out ?v3 ?v4 ?v5 ?_))
      any_goals first | rfl | (rw [info49, KA_size]; done) | (rw [KA_size]; rfl) | exact KA_one _ _
      refine bodyPost_ret (results_cell_row rfl _ _ w.heap.size 49 _ (0, 0) _ rfl (setRow_heap _ _ _ _ _ _ HZk.out) Try.underlying49 rfl ?_) rfl ⟨rfl, below_setRow Hbel.out (Nat.le_refl _) _⟩
      rw [info49, KA_size]

set_option maxRecDepth 20000 in
theorem knowledgeBehind_zero (ao : Option Addr) (cap : Nat) (f : Nat) (w : World) (hf : f ≤ 10) :
    Calls Try.prog 22 #[.int .i64 f, .slice ao 0 cap] w fun e w' => e = .returned (.agg (KA f (own0 f))) ∧ Below w.heap.size w w' := by
  go_enter Try.func22, Try.ntmps22
  go_wp2_with fail
  refine (ownNews_any f _ hf).mono ?_
  rintro e w1 ⟨rfl, hb1⟩
  have hZ1 : w1.heap[w.heap.size]? = some (.cells ZA 49 (0, 0)) := (hb1.block _ (by simp)).trans (heap_alloc_new w _)
  have hbel1 : Below w.heap.size w w1 := ((Below.refl _ _).alloc (Nat.le_refl _) _).trans (hb1.mono (by simp))
  have hs1 := hbel1.size
  have hlt1 : w.heap.size < w1.heap.size := (Array.getElem?_eq_some_iff.1 hZ1).1
  have HZ1 := Lib.hid hZ1
  have Hb1 := Lib.hid hbel1
  clear hb1 hZ1 hbel1
  go_wp2_with (with_reducible refine wpList_store_row rfl 49 (.tmp 5) (.tmp 9) rfl w1.heap.size (KA f (own0 f)) ?r1 ?r2 49 _ (heap_alloc_new w1 _) ?r3 ?r4 ?r5 ?_)
  case r1 => rfl
  case r2 => rfl
  case r3 => rw [info49, KA_size]
  case r4 => rw [KA_size]; rfl
  case r5 => exact KA_one _ _
  have hB0 : ((w1.alloc (.cells ZA 49)).setRow w1.heap.size (KA f (own0 f))).heap[w1.heap.size]? = some (.cells (KA f (own0 f)) 49 (0, 0)) := setRow_heap _ _ _ _ _ _ (heap_alloc_new w1 _)
  have hZ0 : ((w1.alloc (.cells ZA 49)).setRow w1.heap.size (KA f (own0 f))).heap[w.heap.size]? = some (.cells ZA 49 (0, 0)) := by
    rw [setRow_other _ _ _ _ (by omega), Below.heap_alloc _ _ _ hlt1]; exact HZ1.out
  have hb0 : Below w.heap.size w ((w1.alloc (.cells ZA 49)).setRow w1.heap.size (KA f (own0 f))) := below_setRow (Hb1.out.alloc hs1 _) hs1 _
  have HB0 := Lib.hid hB0
  have HZ0 := Lib.hid hZ0
  have HH0 := Lib.hid hb0
  clear hB0 hZ0 hb0
  go_loopw [12] (fun i wr => i = .int .i64 0 ∧ wr.heap[w1.heap.size]? = some (.cells (KA f (own0 f)) 49 (0, 0)) ∧ wr.heap[w.heap.size]? = some (.cells ZA 49 (0, 0)) ∧ Below w.heap.size w wr) (fun _ _ => 0)
  case atStart => exact ⟨rfl, HB0.out, HZ0.out, HH0.out⟩
  case round =>
    obtain ⟨rfl, hB, hZ, hbel⟩ := hrel
    have HBk := Lib.hid hB
    have HZk := Lib.hid hZ
    have Hbel := Lib.hid hbel
    clear hB hZ hbel
    go_wp2_with (first
      | (with_reducible refine wpList_load_row rfl 49 (.tmp 5) rfl w1.heap.size ?u1 49 _ (0, 0) _ HBk.out Try.underlying49 rfl ?u3 ?_)
      | (with_reducible refine wpList_store_row rfl 49 (.tmp 4) (.tmp 20) rfl w.heap.size (KA f (own0 f)) ?v1 ?v2 49 _ HZk.out ?v3 ?v4 ?v5 ?_))
    any_goals first | rfl | (rw [info49, KA_size]; done) | (rw [KA_size]; rfl) | exact KA_one _ _
    refine bodyPost_ret (results_cell_row rfl _ _ w.heap.size 49 _ (0, 0) _ rfl (setRow_heap _ _ _ _ _ _ HZk.out) Try.underlying49 rfl ?_) rfl ⟨rfl, below_setRow Hbel.out (Nat.le_refl _) _⟩
    rw [info49, KA_size]

/-- The program's struct behind calls. -/
theorem knowledgeBehind_any (f : Nat) (ao : Option Addr) (cap : Nat) (l : List (Int × Int)) (n : Nat) (w : World) (Hn : Hid (n = l.length)) (hg : gdB (f : Int) l = true) (hc : CallsAt w ao l) :
    Calls Try.prog 22 #[.int .i64 f, .slice ao n cap] w fun e w' => e = .returned (.agg (KA f (play f l))) ∧ Below w.heap.size w w' := by
  have hf := gd_fr hg
  by_cases h0 : n = 0
  · subst h0
    have : l = [] := List.eq_nil_of_length_eq_zero Hn.out.symm
    subst this
    exact knowledgeBehind_zero ao cap f w (by omega)
  · rcases hc with h | ⟨b, off, rfl, hc⟩
    · subst h; exact absurd Hn.out h0
    · exact knowledgeBehind_pos b off cap f l n w Hn (by rw [Hn.out]; exact gd_len' hg) hg (by rw [Hn.out]; exact hc)
end Go.Proofs.Ytjdanppciginkaa
