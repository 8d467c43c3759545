/- The program's struct of who knows what behind a list of calls. -/
import Derived.Test.YtjmckdnjghnlbaaKnow
namespace Go.Proofs.Ytjmckdnjghnlbaa
open Go.ChangeShapes Go.WideShapes Go.ChangeAt Go.RowKit

/-- What is known behind a call. -/
def stp (s : Nat → Nat) (c : Int × Int) : Nat → Nat := upd (upd s c.1.toNat (s c.1.toNat ||| s c.2.toNat)) c.2.toNat (s c.1.toNat ||| s c.2.toNat)
/-- What is known behind calls. -/
def play (f : Nat) (l : List (Int × Int)) : Nat → Nat := l.foldl stp (own0 f)

theorem own0_lt (f i : Nat) : own0 f i < 2 ^ f := by
  unfold own0
  split
  · exact Nat.pow_lt_pow_right (by decide) (by assumption)
  · exact Nat.two_pow_pos f
theorem upd_lt {s : Nat → Nat} {f : Nat} (h : ∀ i, s i < 2 ^ f) {v : Nat} (hv : v < 2 ^ f) (j : Nat) : ∀ i, upd s j v i < 2 ^ f := by
  intro i
  unfold upd
  split
  · exact hv
  · exact h i
theorem stp_lt {s : Nat → Nat} {f : Nat} (h : ∀ i, s i < 2 ^ f) (c : Int × Int) : ∀ i, stp s c i < 2 ^ f := by
  have hv : s c.1.toNat ||| s c.2.toNat < 2 ^ f := Nat.or_lt_two_pow (h _) (h _)
  exact upd_lt (upd_lt h hv _) hv _
theorem foldl_lt {f : Nat} (l : List (Int × Int)) : ∀ {s : Nat → Nat}, (∀ i, s i < 2 ^ f) → ∀ i, l.foldl stp s i < 2 ^ f := by
  induction l with
  | nil => intro s h; exact h
  | cons c l ih => intro s h; exact ih (stp_lt h c)
theorem play_lt (f : Nat) (l : List (Int × Int)) (i : Nat) : play f l i < 2 ^ f := foldl_lt l (own0_lt f) i
theorem play_small (f : Nat) (hf : f ≤ 10) (l : List (Int × Int)) (i : Nat) : play f l i < 1024 :=
  Nat.lt_of_lt_of_le (play_lt f l i) (Nat.pow_le_pow_right (by decide) hf)
theorem play_succ (f : Nat) (l : List (Int × Int)) (k : Nat) (h : k < l.length) : play f (l.take (k + 1)) = stp (play f (l.take k)) (ca l k, cb l k) := by
  rw [List.take_succ_eq_append_getElem h, ca_cb l k h]
  simp [play, List.foldl_append]

theorem bits_or_nat (x y : Nat) (hx : x < 1024) (hy : y < 1024) : bits BinOp.or IntKind.u16 x y = ((x ||| y : Nat) : Int) := by
  have hx2 : x ||| y < 2 ^ 10 := Nat.or_lt_two_pow (n := 10) hx hy
  have h1 : (BitVec.ofInt 16 (x : Int)).toNat = x := by
    rw [BitVec.ofInt_natCast, BitVec.toNat_ofNat]; exact Nat.mod_eq_of_lt (by omega)
  have h2 : (BitVec.ofInt 16 (y : Int)).toNat = y := by
    rw [BitVec.ofInt_natCast, BitVec.toNat_ofNat]; exact Nat.mod_eq_of_lt (by omega)
  show IntKind.u16.wrap ((BitVec.ofInt 16 (x : Int) ||| BitVec.ofInt 16 (y : Int)).toNat : Int) = _
  rw [BitVec.toNat_or, h1, h2, IntKind.wrap_u16]
  omega

theorem behind_st (f : Int) (s : Nat → Nat) (a b : Int) (w : World) (hs : ∀ i, s i < 1024) (ha : 0 ≤ a) (hab : a < b) (hb : b < 10) :
    Calls Try.prog 103 #[.agg (KA f s), .agg #[.int .i64 a, .int .i64 b]] w fun e w' => e = .returned (.agg (KA f (stp s (a, b)))) ∧ Below w.heap.size w w' := by
  obtain ⟨a, rfl⟩ := Int.eq_ofNat_of_zero_le ha
  obtain ⟨b, rfl⟩ := Int.eq_ofNat_of_zero_le (show 0 ≤ b by omega)
  refine (behind_any (KA f s) a b (s a) (s b) w (KA_size f s) (KA_one f s) (KA_get f s a (by omega)) (KA_get f s b (by omega)) (by omega) (by omega)).mono ?_
  rintro e w' ⟨rfl, hb'⟩
  rw [bits_or_nat _ _ (hs a) (hs b), KA_set, KA_set]
  exact ⟨rfl, hb'⟩

theorem gd_call {f : Int} {l : List (Int × Int)} (h : gdB f l = true) {i : Nat} (hi : i < l.length) : 0 ≤ ca l i ∧ ca l i < cb l i ∧ cb l i < f := by
  simp only [gdB, Bool.and_eq_true, List.all_eq_true] at h
  have h2 := h.2 l[i] (List.getElem_mem hi)
  rw [ca_cb l i hi] at h2
  simpa [calB] using h2
theorem gd_len' {f : Int} {l : List (Int × Int)} (h : gdB f l = true) : l.length ≤ 60 := by
  simp only [gdB, Bool.and_eq_true, decide_eq_true_eq] at h
  exact h.1.2
theorem gd_fr {f : Int} {l : List (Int × Int)} (h : gdB f l = true) : 1 ≤ f ∧ f ≤ 10 := by
  simp only [gdB, Bool.and_eq_true] at h
  simpa [frB] using h.1.1

set_option maxRecDepth 20000 in
theorem knowledgeBehind_pos (b off cap : Nat) (f : Nat) (l : List (Int × Int)) (n : Nat) (w : World) (Hn : Hid (n = l.length)) (hl : n ≤ 60) (hg : gdB (f : Int) l = true)
    (Hc : Hid (∀ i, i < n → w.cell? ⟨b, off + i * 2, none⟩ = some (.int .i64 (ca l i)) ∧ w.cell? ⟨b, off + i * 2 + 1, none⟩ = some (.int .i64 (cb l i)))) :
    Calls Try.prog 70 #[.int .i64 f, .slice (some ⟨b, off, none⟩) n cap] w fun e w' => e = .returned (.agg (KA f (play f l))) ∧ Below w.heap.size w w' := by
  have hff := gd_fr hg
  have Hg := Lib.hid hg
  clear hg
  go_enter Try.func70, Try.ntmps70
  go_wp2_with fail
  refine (ownNews_any f _ (by omega)).mono ?_
  rintro e w1 ⟨rfl, hb1⟩
  have hZ1 : w1.heap[w.heap.size]? = some (.cells ZA 67 (0, 0)) := (hb1.block _ (by simp)).trans (heap_alloc_new w _)
  have hbel1 : Below w.heap.size w w1 := ((Below.refl _ _).alloc (Nat.le_refl _) _).trans (hb1.mono (by simp))
  have hs1 := hbel1.size
  have hlt1 : w.heap.size < w1.heap.size := (Array.getElem?_eq_some_iff.1 hZ1).1
  have HZ1 := Lib.hid hZ1
  have Hb1 := Lib.hid hbel1
  clear hb1 hZ1 hbel1
  go_wp2_with (with_reducible refine wpList_store_row rfl 67 (.tmp 5) (.tmp 9) rfl w1.heap.size (KA f (own0 f)) ?r1 ?r2 67 _ (heap_alloc_new w1 _) ?r3 ?r4 ?r5 ?_)
  case r1 => rfl
  case r2 => rfl
  case r3 => rw [info67, KA_size]
  case r4 => rw [KA_size]; rfl
  case r5 => exact KA_one _ _
  have hB0 : ((w1.alloc (.cells ZA 67)).setRow w1.heap.size (KA f (own0 f))).heap[w1.heap.size]? = some (.cells (KA f (own0 f)) 67 (0, 0)) := setRow_heap _ _ _ _ _ _ (heap_alloc_new w1 _)
  have hZ0 : ((w1.alloc (.cells ZA 67)).setRow w1.heap.size (KA f (own0 f))).heap[w.heap.size]? = some (.cells ZA 67 (0, 0)) := by
    rw [setRow_other _ _ _ _ (by omega), Below.heap_alloc _ _ _ hlt1]; exact HZ1.out
  have hb0 : Below w.heap.size w ((w1.alloc (.cells ZA 67)).setRow w1.heap.size (KA f (own0 f))) := below_setRow (Hb1.out.alloc hs1 _) hs1 _
  have HB0 := Lib.hid hB0
  have HZ0 := Lib.hid hZ0
  have HH0 := Lib.hid hb0
  clear hB0 hZ0 hb0
  go_loopw [12] (fun i wr => ∃ k : Nat, k ≤ n ∧ i = .int .i64 k ∧ wr.heap[w1.heap.size]? = some (.cells (KA f (play f (l.take k))) 67 (0, 0)) ∧ wr.heap[w.heap.size]? = some (.cells ZA 67 (0, 0)) ∧ Below w.heap.size w wr) (fun i _ => n - (intOf i).toNat)
  case atStart => exact ⟨0, Nat.zero_le _, rfl, HB0.out, HZ0.out, HH0.out⟩
  case round =>
    obtain ⟨k, hk, rfl, hB, hZ, hbel⟩ := hrel
    have HBk := Lib.hid hB
    have HZk := Lib.hid hZ
    have hsz := hbel.size
    have hB1 : w1.heap.size < wr.heap.size := (Array.getElem?_eq_some_iff.1 hB).1
    clear hB hZ
    by_cases hlt : k < n
    · have h0 := hbel.cell (p := ⟨b, off + k * 2, none⟩) (World.block_lt_of_cell? w _ (Hc.out k hlt).1)
      have h1 := hbel.cell (p := ⟨b, off + k * 2 + 1, none⟩) (World.block_lt_of_cell? w _ (Hc.out k hlt).2)
      rw [(Hc.out k hlt).1] at h0
      rw [(Hc.out k hlt).2] at h1
      have hgc := gd_call Hg.out (by rw [← Hn.out]; exact hlt)
      have HB2 := Lib.hid ((Below.heap_alloc wr (.cells #[.int .i64 (ca l k), .int .i64 (cb l k)] 56) _ hB1).trans HBk.out)
      go_wp2_with (with_reducible refine wpList_load_row rfl 67 (.tmp 5) rfl w1.heap.size ?q1 67 _ (0, 0) _ HB2.out Try.underlying67 rfl ?q3 ?_)
      case q1 => rfl
      case q3 => rw [info67, KA_size]
      go_wp2_with fail
      refine (behind_st f (play f (l.take k)) _ _ _ (play_small f (by omega) _) hgc.1 hgc.2.1 (by omega)).mono ?_
      rintro e w3 ⟨rfl, hb3⟩
      have hB3 : w3.heap[w1.heap.size]? = some (.cells (KA f (play f (l.take k))) 67 (0, 0)) := (hb3.block _ (by simp; omega)).trans HB2.out
      have hZ3 : w3.heap[w.heap.size]? = some (.cells ZA 67 (0, 0)) := (hb3.block _ (by simp; omega)).trans ((Below.heap_alloc wr _ _ (by omega)).trans HZk.out)
      have hbel3 : Below w.heap.size w w3 := (hbel.alloc hsz _).trans (hb3.mono (by simp; omega))
      have HB3 := Lib.hid hB3
      have HZ3 := Lib.hid hZ3
      have HH3 := Lib.hid hbel3
      clear hB3 hZ3 hbel3 hb3 hbel h0 h1
      go_wp2_with (with_reducible refine wpList_store_row rfl 67 (.tmp 5) (.tmp 18) rfl w1.heap.size (KA f (stp (play f (l.take k)) (ca l k, cb l k))) ?s1 ?s2 67 _ HB3.out ?s3 ?s4 ?s5 ?_)
      case s1 => rfl
      case s2 => rfl
      case s3 => rw [info67, KA_size]
      case s4 => rw [KA_size, KA_size]
      case s5 => exact KA_one _ _
      go_roundw
      case rel =>
        refine ⟨k + 1, by omega, by go_num, ?_, ?_, below_setRow HH3.out hs1 _⟩
        · rw [play_succ f l k (by rw [← Hn.out]; exact hlt)]
          exact setRow_heap _ _ _ _ _ _ HB3.out
        · rw [setRow_other _ _ _ _ (by omega)]
          exact HZ3.out
      case measure => simp [intOf]; omega
    · obtain rfl : k = n := by omega
      have hp : l.take k = l := List.take_of_length_le (by rw [← Hn.out]; exact Nat.le_refl _)
      rw [hp] at HBk
      have Hbel := Lib.hid hbel
      clear hlt hk hp hbel
      go_wp2_with (first
        | (with_reducible refine wpList_load_row rfl 67 (.tmp 5) rfl w1.heap.size ?u1 67 _ (0, 0) _ HBk.out Try.underlying67 rfl ?u3 ?_)
        | (with_reducible refine wpList_store_row rfl 67 (.tmp 4) (.tmp 20) rfl w.heap.size (KA f (play f l)) ?v1 ?v2 67 _ HZk.out ?v3 ?v4 ?v5 ?_))
      any_goals first | rfl | (rw [info67, KA_size]; done) | (rw [KA_size]; rfl) | exact KA_one _ _
      refine bodyPost_ret (results_cell_row rfl _ _ w.heap.size 67 _ (0, 0) _ rfl (setRow_heap _ _ _ _ _ _ HZk.out) Try.underlying67 rfl ?_) rfl ⟨rfl, below_setRow Hbel.out (Nat.le_refl _) _⟩
      rw [info67, KA_size]

set_option maxRecDepth 20000 in
theorem knowledgeBehind_zero (ao : Option Addr) (cap : Nat) (f : Nat) (w : World) (hf : f ≤ 10) :
    Calls Try.prog 70 #[.int .i64 f, .slice ao 0 cap] w fun e w' => e = .returned (.agg (KA f (own0 f))) ∧ Below w.heap.size w w' := by
  go_enter Try.func70, Try.ntmps70
  go_wp2_with fail
  refine (ownNews_any f _ hf).mono ?_
  rintro e w1 ⟨rfl, hb1⟩
  have hZ1 : w1.heap[w.heap.size]? = some (.cells ZA 67 (0, 0)) := (hb1.block _ (by simp)).trans (heap_alloc_new w _)
  have hbel1 : Below w.heap.size w w1 := ((Below.refl _ _).alloc (Nat.le_refl _) _).trans (hb1.mono (by simp))
  have hs1 := hbel1.size
  have hlt1 : w.heap.size < w1.heap.size := (Array.getElem?_eq_some_iff.1 hZ1).1
  have HZ1 := Lib.hid hZ1
  have Hb1 := Lib.hid hbel1
  clear hb1 hZ1 hbel1
  go_wp2_with (with_reducible refine wpList_store_row rfl 67 (.tmp 5) (.tmp 9) rfl w1.heap.size (KA f (own0 f)) ?r1 ?r2 67 _ (heap_alloc_new w1 _) ?r3 ?r4 ?r5 ?_)
  case r1 => rfl
  case r2 => rfl
  case r3 => rw [info67, KA_size]
  case r4 => rw [KA_size]; rfl
  case r5 => exact KA_one _ _
  have hB0 : ((w1.alloc (.cells ZA 67)).setRow w1.heap.size (KA f (own0 f))).heap[w1.heap.size]? = some (.cells (KA f (own0 f)) 67 (0, 0)) := setRow_heap _ _ _ _ _ _ (heap_alloc_new w1 _)
  have hZ0 : ((w1.alloc (.cells ZA 67)).setRow w1.heap.size (KA f (own0 f))).heap[w.heap.size]? = some (.cells ZA 67 (0, 0)) := by
    rw [setRow_other _ _ _ _ (by omega), Below.heap_alloc _ _ _ hlt1]; exact HZ1.out
  have hb0 : Below w.heap.size w ((w1.alloc (.cells ZA 67)).setRow w1.heap.size (KA f (own0 f))) := below_setRow (Hb1.out.alloc hs1 _) hs1 _
  have HB0 := Lib.hid hB0
  have HZ0 := Lib.hid hZ0
  have HH0 := Lib.hid hb0
  clear hB0 hZ0 hb0
  go_loopw [12] (fun i wr => i = .int .i64 0 ∧ wr.heap[w1.heap.size]? = some (.cells (KA f (own0 f)) 67 (0, 0)) ∧ wr.heap[w.heap.size]? = some (.cells ZA 67 (0, 0)) ∧ Below w.heap.size w wr) (fun _ _ => 0)
  case atStart => exact ⟨rfl, HB0.out, HZ0.out, HH0.out⟩
  case round =>
    obtain ⟨rfl, hB, hZ, hbel⟩ := hrel
    have HBk := Lib.hid hB
    have HZk := Lib.hid hZ
    have Hbel := Lib.hid hbel
    clear hB hZ hbel
    go_wp2_with (first
      | (with_reducible refine wpList_load_row rfl 67 (.tmp 5) rfl w1.heap.size ?u1 67 _ (0, 0) _ HBk.out Try.underlying67 rfl ?u3 ?_)
      | (with_reducible refine wpList_store_row rfl 67 (.tmp 4) (.tmp 20) rfl w.heap.size (KA f (own0 f)) ?v1 ?v2 67 _ HZk.out ?v3 ?v4 ?v5 ?_))
    any_goals first | rfl | (rw [info67, KA_size]; done) | (rw [KA_size]; rfl) | exact KA_one _ _
    refine bodyPost_ret (results_cell_row rfl _ _ w.heap.size 67 _ (0, 0) _ rfl (setRow_heap _ _ _ _ _ _ HZk.out) Try.underlying67 rfl ?_) rfl ⟨rfl, below_setRow Hbel.out (Nat.le_refl _) _⟩
    rw [info67, KA_size]

/-- The program's struct behind calls. -/
theorem knowledgeBehind_any (f : Nat) (ao : Option Addr) (cap : Nat) (l : List (Int × Int)) (n : Nat) (w : World) (Hn : Hid (n = l.length)) (hg : gdB (f : Int) l = true) (hc : CallsAt w ao l) :
    Calls Try.prog 70 #[.int .i64 f, .slice ao n cap] w fun e w' => e = .returned (.agg (KA f (play f l))) ∧ Below w.heap.size w w' := by
  have hf := gd_fr hg
  by_cases h0 : n = 0
  · subst h0
    have : l = [] := List.eq_nil_of_length_eq_zero Hn.out.symm
    subst this
    exact knowledgeBehind_zero ao cap f w (by omega)
  · rcases hc with h | ⟨b, off, rfl, hc⟩
    · subst h; exact absurd Hn.out h0
    · exact knowledgeBehind_pos b off cap f l n w Hn (by rw [Hn.out]; exact gd_len' hg) hg (by rw [Hn.out]; exact hc)
end Go.Proofs.Ytjmckdnjghnlbaa
