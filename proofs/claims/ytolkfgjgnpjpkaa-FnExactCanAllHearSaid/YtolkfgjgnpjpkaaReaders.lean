/- What readers know behind letters: the program. -/
import Derived.Test.YtolkfgjgnpjpkaaBefore
namespace Go.Proofs.Ytolkfgjgnpjpkaa
open Go.ChangeShapes Go.WideShapes Go.ChangeAt Go.RowKit Go.Maps Go.Shelf
set_option linter.unusedVariables false

theorem own0_lt (f i : Nat) : own0 f i < 2 ^ f := by
  unfold own0
  split
  · exact Nat.pow_lt_pow_right (by decide) (by assumption)
  · exact Nat.two_pow_pos f

theorem upd_lt {s : Nat → Nat} {f : Nat} (h : ∀ i, s i < 2 ^ f) {v : Nat} (hv : v < 2 ^ f) (j : Nat) : ∀ i, upd s j v i < 2 ^ f := by
  intro i
  unfold upd
  split
  · exact hv
  · exact h i
/-- What is known behind a letter. -/
def stpL (s : Nat → Nat) (c : Int × Int) : Nat → Nat := upd s c.2.toNat (s c.2.toNat ||| s c.1.toNat)
/-- What is known behind letters. -/
def playL (f : Nat) (l : List (Int × Int)) : Nat → Nat := l.foldl stpL (own0 f)
theorem stpL_lt {s : Nat → Nat} {f : Nat} (h : ∀ i, s i < 2 ^ f) (c : Int × Int) : ∀ i, stpL s c i < 2 ^ f := upd_lt h (Nat.or_lt_two_pow (h _) (h _)) _
theorem foldlL_lt {f : Nat} (l : List (Int × Int)) : ∀ {s : Nat → Nat}, (∀ i, s i < 2 ^ f) → ∀ i, l.foldl stpL s i < 2 ^ f := by
  induction l with
  | nil => intro s h; exact h
  | cons c l ih => intro s h; exact ih (stpL_lt h c)
theorem playL_lt (f : Nat) (l : List (Int × Int)) (i : Nat) : playL f l i < 2 ^ f := foldlL_lt l (own0_lt f) i
theorem pow_small {f x : Nat} (hf : f ≤ 10) (h : x < 2 ^ f) : x < 1024 := Nat.lt_of_lt_of_le h (Nat.pow_le_pow_right (by decide) hf)
theorem foldlL_succ (s : Nat → Nat) (l : List (Int × Int)) (k : Nat) (h : k < l.length) : (l.take (k + 1)).foldl stpL s = stpL ((l.take k).foldl stpL s) (ca l k, cb l k) := by
  rw [List.take_succ_eq_append_getElem h, ca_cb l k h]
  simp [List.foldl_append]
theorem playL_succ (f : Nat) (l : List (Int × Int)) (k : Nat) (h : k < l.length) : playL f (l.take (k + 1)) = stpL (playL f (l.take k)) (ca l k, cb l k) := foldlL_succ _ l k h

theorem upd_same (s : Nat → Nat) (i v : Nat) : upd s i v i = v := by simp [upd]

/-- Outside of these blocks nothing that was there has turned. -/
def Off (bs : List Nat) (w w' : World) : Prop := ∀ k, k < w.heap.size → k ∉ bs → w'.heap[k]? = w.heap[k]?
theorem own_same {w w' : World} {base : Nat} {e : TypeId} {size : Nat} {v : Value} {n : Nat} {xs : List Value} (h : w.ownsRow base e size v n xs) (he : ∀ k, v.ownBlock = some k → w'.heap[k]? = w.heap[k]?) : w'.ownsRow base e size v n xs := by
  refine ⟨h.1, ?_⟩
  rcases h.2 with hn | ⟨g, cap, cur, rfl, hbg, hgg, rest⟩
  · exact .inl hn
  · exact .inr ⟨g, cap, cur, rfl, hbg, by rw [he g rfl]; exact hgg, rest⟩
theorem cells_of {w : World} {base : Nat} {e : TypeId} {size : Nat} {v : Value} {n : Nat} {xs : List Value} (h : w.ownsRow base e size v n xs) {k : Nat} (hk : v.ownBlock = some k) : ∃ cur fr, w.heap[k]? = some (.cells cur e fr) := by
  rcases h.2 with ⟨rfl, _⟩ | ⟨g, cap, cur, rfl, _, hgg, _⟩
  · cases hk
  · obtain rfl : g = k := by simpa [Value.ownBlock] using hk
    exact ⟨cur, _, hgg⟩
theorem RdB.not_in {w : World} {base g cap : Nat} {bs : List Nat} {s : Nat → Nat} (h : RdB w base g cap bs s) {b2 : Nat} {e : TypeId} {size : Nat} {v : Value} {n : Nat} {xs : List Value} (hv : w.ownsRow b2 e size v n xs) {k : Nat} (hk : v.ownBlock = some k) : k ∉ bs := by
  intro hin
  obtain ⟨cur, fr, hc⟩ := cells_of hv hk
  obtain ⟨i, hi, rfl⟩ := List.getElem_of_mem hin
  obtain ⟨es, clock, hb, _⟩ := (h.2.2 i hi).2
  rw [hc] at hb; cases hb
/-- A row of numbers turns: the readers stay. -/
theorem RdB.beside {w w' : World} {base g cap : Nat} {bs : List Nat} {s : Nat → Nat} (h : RdB w base g cap bs s) {b2 : Nat} {v : Value} {n : Nat} {xs : List Value} (hv : w.ownsRow b2 3 1 v n xs) (hgr : w.grownBy w' v.ownBlock) : RdB w' base g cap bs s := by
  have hne : ∀ k, v.ownBlock = some k → k ≠ g := by
    intro k hk e
    obtain ⟨cur, fr, hc⟩ := cells_of hv hk
    obtain ⟨cur2, fr2, hc2⟩ := cells_of h.1 (k := g) rfl
    rw [e, hc2] at hc
    simp at hc
  refine ⟨h.1.kept hgr ?_, h.2.1, fun i hi => ⟨(h.2.2 i hi).1, ((h.2.2 i hi).2).kept hgr ?_⟩⟩
  · cases hb : v.ownBlock with
    | none => exact .inr (by simp [Value.ownBlock])
    | some k => exact .inr (by have := hne k hb; simpa [Value.ownBlock] using (Ne.symm this))
  · intro e
    exact h.not_in hv e.symm (List.getElem_mem hi)

set_option maxRecDepth 20000 in
theorem read_off (base g cap a b F : Nat) (bs : List Nat) (s : Nat → Nat) (w : World) (hF : bs.length = F) (hcap : F ≤ cap) (hF10 : F ≤ 10) (ha : a < F) (hb : b < F) (hab : a ≠ b) (hbase : base ≤ w.heap.size) (h : RdB w base g cap bs s) :
    Calls Try.prog 77 #[.slice (some ⟨g, 0, none⟩) F cap, .agg #[.int .i64 a, .int .i64 b]] w fun e w' => e = .returned (.int .i64 ((pc (s b ||| s a) : Int) - pc (s b))) ∧ RdB w' base g cap bs (upd s b (s b ||| s a)) ∧ Below base w w' ∧ Off bs w w' := by
  subst hF
  have ca0 := (h.alloc (.cells #[.int .i64 a, .int .i64 b] 62)).cell a ha
  have cb0 := (h.alloc (.cells #[.int .i64 a, .int .i64 b] 62)).cell b hb
  have hset := ((h.alloc (.cells #[.int .i64 a, .int .i64 b] 62)).2.2 b hb).2
  have hseta := ((h.alloc (.cells #[.int .i64 a, .int .i64 b] 62)).2.2 a ha).2
  have hne : bs[b] ≠ bs[a] := fun e => hab ((List.getElem_inj h.2.1).1 e).symm
  have hbb := (h.2.2 b hb).1
  have hbl := (h.2.2 b hb).2.lt
  have Hh := Lib.hid h
  have hx0 : (0 : Int) ≤ (a : Int) := by omega
  have hx1 : (a : Int) < (bs.length : Int) := by omega
  have hy0 : (0 : Int) ≤ (b : Int) := by omega
  have hy1 : (b : Int) < (bs.length : Int) := by omega
  have hbin : bs[b] ∈ bs := List.getElem_mem hb
  have hp1 := pc_ten (s b)
  have hp2 := pc_ten (s b ||| s a)
  generalize hba : bs[a] = xa at *
  generalize hbb' : bs[b] = xb at *
  have hsz1 := size_setD (s b)
  have hsz2 := size_setD (s b ||| s a)
  clear h
  go_enter Try.func77, Try.ntmps77
  go_wp2_with (at_len; refine wpList_len_own _ rfl _ 72 rfl 3 4 Try.underlying72 (plainElem (H := Unit) Try.prog 4) xb 10 (setD (s b)) rfl hset ?_)
  go_wp2_with fail
  have e0 : (w.alloc (.cells #[.int .i64 a, .int .i64 b] 62)).cell? ⟨w.heap.size, 0, none⟩ = some (.int .i64 a) := by simp
  have e1 : (w.alloc (.cells #[.int .i64 a, .int .i64 b] 62)).cell? ⟨w.heap.size, 1, none⟩ = some (.int .i64 b) := by simp
  have hold : ∀ k, k < w.heap.size → (w.alloc (.cells #[.int .i64 a, .int .i64 b] 62)).heap[k]? = w.heap[k]? := fun k hk => Below.heap_alloc w _ _ hk
  have Hold := Lib.hid hold
  clear hold
  have hr1 := Hh.out.alloc (.cells #[.int .i64 a, .int .i64 b] 62)
  have hb1 : Below base w (w.alloc (.cells #[.int .i64 a, .int .i64 b] 62)) := (Below.refl base w).alloc hbase _
  have hsz : (w.alloc (.cells #[.int .i64 a, .int .i64 b] 62)).heap.size = w.heap.size + 1 := by simp
  generalize w.alloc (.cells #[.int .i64 a, .int .i64 b] 62) = w1 at ca0 cb0 hset hseta e0 e1 hr1 hb1 hsz Hold ⊢
  have Hr1 := Lib.hid hr1
  clear hr1
  go_still_tail 10, (by kernel_rfl)
  change wpList _ _ _ _ _ w1.drew
  have hset' : SetAt w1.drew xb (s b) := hset
  have hseta' : SetAt w1.drew xa (s a) := hseta
  go_wp2_with fail
  refine (copy_any xb xa (s b) (s a) _ hset' hseta' hne).mono ?_
  rintro e w2 ⟨rfl, hs2, hg2⟩
  have hr2 : RdB w2 base g cap bs (upd s b (s b ||| s a)) := RdB.upd Hr1.out.drew b (s b ||| s a) hb (by rw [hbb']; exact hg2) (by rw [hbb']; exact hs2)
  have cb2 := hr2.cell b hb
  rw [hbb'] at cb2
  have box : w2.cell? ⟨w.heap.size, 1, none⟩ = some (.int .i64 b) := by
    rw [hg2.cell_far _ (by show w.heap.size < w1.heap.size; omega) (by simp; omega)]
    exact e1
  have Hoff : Hid (Off bs w w2) := fun k hk hn => (hg2.block k (by show k < w1.heap.size; omega) (by intro e; cases e; exact hn hbin)).trans (Hold.out k hk)
  have Hr2 := Lib.hid hr2
  have Hbel := Lib.hid (hb1.drew.grown hg2 (by show base ≤ w1.heap.size; omega) (fun j hj => by cases hj; exact hbb))
  clear hr2 hset hseta hset' hseta' hg2 ca0 cb0
  go_wp2_with (at_len; refine wpList_len_own _ rfl _ 72 rfl 3 4 Try.underlying72 (plainElem (H := Unit) Try.prog 4) xb 10 (setD (s b ||| s a)) rfl hs2 ?_)
  go_wp2_with fail
  go_ret
  exact ⟨rfl, Hr2.out, Hbel.out, Hoff.out⟩

theorem read_any (base g cap a b F : Nat) (bs : List Nat) (s : Nat → Nat) (w : World) (hF : bs.length = F) (hcap : F ≤ cap) (hF10 : F ≤ 10) (ha : a < F) (hb : b < F) (hab : a ≠ b) (hbase : base ≤ w.heap.size) (h : RdB w base g cap bs s) :
    Calls Try.prog 77 #[.slice (some ⟨g, 0, none⟩) F cap, .agg #[.int .i64 a, .int .i64 b]] w fun e w' => e = .returned (.int .i64 ((pc (s b ||| s a) : Int) - pc (s b))) ∧ RdB w' base g cap bs (upd s b (s b ||| s a)) ∧ Below base w w' :=
  (read_off base g cap a b F bs s w hF hcap hF10 ha hb hab hbase h).mono fun _ _ ⟨h1, h2, h3, _⟩ => ⟨h1, h2, h3⟩

end Go.Proofs.Ytolkfgjgnpjpkaa
