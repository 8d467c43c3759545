/- Lists of calls in memory, and what the laws' own helpers do with them: their sizes, copies, comparisons and marks. -/
import Derived.Test.YtjmckdnjghnlbaaRows
import Derived.WalkKit
import Derived.ProofKit
import Derived.OpenShut
import Derived.Outline
import Derived.Handy
import Derived.WalkLawsBesides
import Derived.WalkSpells
import Derived.Lib.Hide
namespace Go.Proofs.Ytjmckdnjghnlbaa
open Go.ChangeShapes Go.WideShapes Go.ChangeAt Go.RowKit

theorem info56 : (Try.prog.info? 56).map (fun i => (i.zero, i.size, i.bytes)) = some (some (.agg #[.int .i64 0, .int .i64 0]), 2, 16) := by kernel_rfl

/-- The cells of a list of calls. -/
def cs (l : List (Int × Int)) : List Value := l.flatMap fun c => [.int .i64 c.1, .int .i64 c.2]
def ca (l : List (Int × Int)) (i : Nat) : Int := (l.getD i (0, 0)).1
def cb (l : List (Int × Int)) (i : Nat) : Int := (l.getD i (0, 0)).2

theorem cs_length (l : List (Int × Int)) : (cs l).length = l.length * 2 := by
  induction l with
  | nil => rfl
  | cons c l ih => simp only [cs, List.flatMap_cons, List.length_append, List.length_cons, List.length_nil] at ih ⊢; omega

theorem cs_append (l m : List (Int × Int)) : cs (l ++ m) = cs l ++ cs m := by simp [cs]

theorem cs_even (l : List (Int × Int)) : ∀ i, i < l.length → (cs l)[i * 2]? = some (.int .i64 (ca l i)) := by
  induction l with
  | nil => intro i h; simp at h
  | cons c l ih =>
    intro i h
    cases i with
    | zero => rfl
    | succ i =>
      have := ih i (by simpa using h)
      rw [show (i + 1) * 2 = i * 2 + 1 + 1 from by omega]
      exact this

theorem cs_odd (l : List (Int × Int)) : ∀ i, i < l.length → (cs l)[i * 2 + 1]? = some (.int .i64 (cb l i)) := by
  induction l with
  | nil => intro i h; simp at h
  | cons c l ih =>
    intro i h
    cases i with
    | zero => rfl
    | succ i =>
      have := ih i (by simpa using h)
      rw [show (i + 1) * 2 + 1 = i * 2 + 1 + 1 + 1 from by omega]
      exact this

theorem cs_set (l : List (Int × Int)) : ∀ i (a b : Int), ((cs l).set (i * 2) (.int .i64 a)).set (i * 2 + 1) (.int .i64 b) = cs (l.set i (a, b)) := by
  induction l with
  | nil => intro i a b; rfl
  | cons c l ih =>
    intro i a b
    cases i with
    | zero => rfl
    | succ i =>
      have := ih i a b
      rw [show (i + 1) * 2 = i * 2 + 1 + 1 from by omega]
      simp only [cs, List.flatMap_cons, List.cons_append, List.nil_append, List.set_cons_succ] at this ⊢
      rw [this]

theorem cs_one (l : List (Int × Int)) : ∀ u ∈ cs l, u.oneCell' = true := by
  intro u hu
  simp only [cs, List.mem_flatMap, List.mem_cons, List.not_mem_nil, or_false] at hu
  obtain ⟨c, _, rfl | rfl⟩ := hu <;> rfl

theorem ca_cb (l : List (Int × Int)) (i : Nat) (h : i < l.length) : l[i] = (ca l i, cb l i) := by
  simp [ca, cb, List.getD_eq_getElem?_getD, h]

/-- The slice at this address reads as these calls. -/
def CallsAt (w : World) (ao : Option Addr) (l : List (Int × Int)) : Prop :=
  l = [] ∨ ∃ b off, ao = some ⟨b, off, none⟩ ∧ ∀ i, i < l.length → w.cell? ⟨b, off + i * 2, none⟩ = some (.int .i64 (ca l i)) ∧ w.cell? ⟨b, off + i * 2 + 1, none⟩ = some (.int .i64 (cb l i))

theorem CallsAt.kept {w w' : World} {ao : Option Addr} {l : List (Int × Int)} (h : CallsAt w ao l) (hb : Below w.heap.size w w') : CallsAt w' ao l := by
  rcases h with h | ⟨b, off, h, hc⟩
  · exact .inl h
  · refine .inr ⟨b, off, h, fun i hi => ?_⟩
    obtain ⟨h1, h2⟩ := hc i hi
    have hbk := World.block_lt_of_cell? w _ h1
    exact ⟨(hb.cell (p := ⟨b, off + i * 2, none⟩) hbk).trans h1, (hb.cell (p := ⟨b, off + i * 2 + 1, none⟩) hbk).trans h2⟩

theorem own_at {w : World} {base g n cap : Nat} {l : List (Int × Int)} (h : w.ownsRow base 56 2 (.slice (some ⟨g, 0, none⟩) n cap) n (cs l)) (hn : n = l.length) : CallsAt w (some ⟨g, 0, none⟩) l := by
  subst hn
  refine .inr ⟨g, 0, rfl, fun i hi => ?_⟩
  have h1 := h.cellAt (i * 2) (by omega)
  have h2 := h.cellAt (i * 2 + 1) (by omega)
  rw [cs_even l i hi] at h1
  rw [cs_odd l i hi] at h2
  simp only [Nat.zero_add]
  exact ⟨h1, h2⟩

/-- A value that owns the cells of calls: its shape, and how it reads. -/
theorem own_shape {w : World} {base n : Nat} {v : Value} {l : List (Int × Int)} (h : w.ownsRow base 56 2 v n (cs l)) (hn : n = l.length) :
    ∃ ao cap, v = .slice ao n cap ∧ CallsAt w ao l ∧ (ao = none → n = 0) ∧ (∀ b off, ao = some ⟨b, off, none⟩ → off = 0 ∧ base ≤ b ∧ b < w.heap.size) := by
  rcases h.2 with ⟨rfl, h0⟩ | ⟨g, cap, cur, rfl, hb, hg, _⟩
  · refine ⟨none, 0, by rw [h0], .inl ?_, (fun _ => h0), (fun b off hh => by cases hh)⟩
    exact List.eq_nil_of_length_eq_zero (by omega)
  · refine ⟨some ⟨g, 0, none⟩, cap, rfl, own_at h hn, (fun hh => by cases hh), fun b off hh => ?_⟩
    simp only [Option.some.injEq, Addr.mk.injEq, and_true] at hh
    obtain ⟨rfl, rfl⟩ := hh
    exact ⟨rfl, hb, (Array.getElem?_eq_some_iff.1 hg).1⟩

theorem own_some {w : World} {base : Nat} {e : TypeId} {size : Nat} {g n cap : Nat} {xs : List Value} (h : w.ownsRow base e size (.slice (some ⟨g, 0, none⟩) n cap) n xs) (j : Nat) (hj : j < n * size) : ∃ u, w.cell? ⟨g, j, none⟩ = some u := by
  have hx : j < xs.length := by rw [h.1]; exact hj
  exact ⟨xs[j], by rw [h.cellAt j hj, List.getElem?_eq_getElem hx]⟩

/-- What is owned stays owned where only what is at or beyond a bound above it turns. -/
theorem own_below {w w' : World} {base : Nat} {e : TypeId} {size : Nat} {v : Value} {n B : Nat} {xs : List Value} (h : w.ownsRow base e size v n xs) (hb : Below B w w') (hB : ∀ k, v.ownBlock = some k → k < B) : w'.ownsRow base e size v n xs := by
  refine ⟨h.1, ?_⟩
  rcases h.2 with hn | ⟨g, cap, cur, rfl, hbg, hgg, rest⟩
  · exact .inl hn
  · exact .inr ⟨g, cap, cur, rfl, hbg, by rw [hb.block g (hB g rfl)]; exact hgg, rest⟩

theorem own_later {w w' : World} {base : Nat} {e : TypeId} {size : Nat} {v : Value} {n : Nat} {xs : List Value} (h : w.ownsRow base e size v n xs) (hb : Below w.heap.size w w') : w'.ownsRow base e size v n xs :=
  own_below h hb fun k hk => (h.lt k hk).2

/-- Two cells of one call written. -/
theorem own_set2 {w : World} {base g n cap : Nat} {l : List (Int × Int)} (h : w.ownsRow base 56 2 (.slice (some ⟨g, 0, none⟩) n cap) n (cs l)) (k : Nat) (a b : Int) :
    ((w.setCell ⟨g, k * 2, none⟩ (.int .i64 a)).setCell ⟨g, k * 2 + 1, none⟩ (.int .i64 b)).ownsRow base 56 2 (.slice (some ⟨g, 0, none⟩) n cap) n (cs (l.set k (a, b))) := by
  have h1 := (h.stored (k * 2) (.int .i64 a)).1
  have h2 := (h1.stored (k * 2 + 1) (.int .i64 b)).1
  rw [cs_set] at h2
  exact h2

theorem toCall_any (a b : Int) (w : World) :
    Calls Try.prog 64 #[.agg #[.int .i64 a, .int .i64 b]] w fun e w' => e = .returned (.agg #[.int .i64 a, .int .i64 b]) ∧ Below w.heap.size w w' := by
  go_enter Try.func64, Try.ntmps64
  go_wp2
  exact bodyPost_ret (v := .agg #[.int .i64 a, .int .i64 b]) (by simp [results, Try.results64, go_sem]) rfl ⟨rfl, by go_grown⟩

theorem zero_cells (n : Nat) : (madeCells #[.int .i64 0, .int .i64 0] (n * 2)).toList = cs (List.replicate n (0, 0)) := by
  apply List.ext_getElem?
  intro j
  by_cases hj : j < n * 2
  · have h1 : (madeCells #[.int .i64 0, .int .i64 0] (n * 2)).toList[j]? = some (.int .i64 0) := by
      rcases Nat.mod_two_eq_zero_or_one j with h | h <;> simp [madeCells, hj, h]
    rw [h1]
    obtain ⟨i, hi⟩ : ∃ i, j = i * 2 ∨ j = i * 2 + 1 := ⟨j / 2, by omega⟩
    rcases hi with rfl | rfl
    · rw [cs_even _ i (by simp; omega)]; simp [ca, List.getD_eq_getElem?_getD, show i < n by omega]
    · rw [cs_odd _ i (by simp; omega)]; simp [cb, List.getD_eq_getElem?_getD, show i < n by omega]
  · rw [List.getElem?_eq_none (by simp [madeCells]; omega), List.getElem?_eq_none (by rw [cs_length]; simp; omega)]

def part (l : List (Int × Int)) (k : Nat) : List (Int × Int) := l.take k ++ List.replicate (l.length - k) (0, 0)
theorem part_zero (l : List (Int × Int)) : part l 0 = List.replicate l.length (0, 0) := by simp [part]
theorem part_all (l : List (Int × Int)) : part l l.length = l := by simp [part]
theorem part_length (l : List (Int × Int)) (k : Nat) (h : k ≤ l.length) : (part l k).length = l.length := by simp [part]; omega
theorem part_set (l : List (Int × Int)) (k : Nat) (h : k < l.length) : (part l k).set k (ca l k, cb l k) = part l (k + 1) := by
  have hx := ca_cb l k h
  rw [← hx]
  unfold part
  rw [List.set_append_right _ _ (by simp; omega)]
  have : k - (l.take k).length = 0 := by simp; omega
  rw [this, show l.length - k = (l.length - (k + 1)) + 1 from by omega, List.replicate_succ, List.set_cons_zero, List.take_succ_eq_append_getElem h, List.append_assoc]
  rfl

theorem toCallS_pos (b off cap : Nat) (l : List (Int × Int)) (n : Nat) (w : World) (Hn : Hid (n = l.length)) (hl : n ≤ 1048576) (hl0 : 0 < n)
    (Hc : Hid (∀ i, i < n → w.cell? ⟨b, off + i * 2, none⟩ = some (.int .i64 (ca l i)) ∧ w.cell? ⟨b, off + i * 2 + 1, none⟩ = some (.int .i64 (cb l i)))) :
    Calls Try.prog 21 #[.slice (some ⟨b, off, none⟩) n cap] w fun e w' => ∃ cap', e = .returned (.slice (some ⟨w.heap.size, 0, none⟩) n cap') ∧ w'.ownsRow w.heap.size 56 2 (.slice (some ⟨w.heap.size, 0, none⟩) n cap') n (cs l) ∧ Below w.heap.size w w' := by
  obtain ⟨i0, hi, hz0, hz1, hz2⟩ := info_parts info56
  have Hz := Lib.hid (And.intro hz0 (And.intro hz1 hz2))
  have hb : b < w.heap.size := World.block_lt_of_cell? w _ (Hc.out 0 hl0).1
  clear hz0 hz1 hz2
  go_enter Try.func21, Try.ntmps21
  go_wp2_with (refine wpList_make_full _ rfl _ _ 25 rfl w.heap.size 56 i0 (.agg #[.int .i64 0, .int .i64 0]) 2 Try.underlying25 hi Hz.out.1 Hz.out.2.1 .i64 .i64 _ _ n rfl rfl rfl rfl ?_ ?_ ?_ ?_)
  · rw [Hz.out.2.2]; omega
  · unfold maxLen; omega
  · exact Nat.le_refl _
  intro w1 hown hgr
  rw [zero_cells] at hown
  go_wp2_with fail
  go_loopw [4] (fun i wr => ∃ k : Nat, k ≤ n ∧ i = .int .i64 k ∧ wr.ownsRow w.heap.size 56 2 (.slice (some ⟨w.heap.size, 0, none⟩) n n) n (cs (part l k)) ∧ Below w.heap.size w wr) (fun i _ => n - (intOf i).toNat)
  case atStart => exact ⟨0, Nat.zero_le _, rfl, by rw [part_zero, ← Hn.out]; exact hown, (Below.refl _ _).grown hgr (Nat.le_refl _) (fun _ h => by cases h)⟩
  case round =>
    obtain ⟨k, hk, rfl, hor, hbel⟩ := hrel
    clear hown hgr
    by_cases hlt : k < n
    · have h0 := hbel.cell (p := ⟨b, off + k * 2, none⟩) hb
      have h1 := hbel.cell (p := ⟨b, off + k * 2 + 1, none⟩) hb
      rw [(Hc.out k hlt).1] at h0
      rw [(Hc.out k hlt).2] at h1
      have hlt1 : w.heap.size < wr.heap.size := (hor.lt _ rfl).2
      go_wp2_with fail
      refine (toCall_any _ _ _).mono ?_
      rintro e w2 ⟨rfl, hb2⟩
      have hor2 := own_later hor hb2
      obtain ⟨u0, z0⟩ := own_some hor2 (k * 2) (by omega)
      obtain ⟨u1, z1⟩ := own_some hor2 (k * 2 + 1) (by omega)
      have zf0 := hor2.frozenAt (k * 2)
      have zf1 := hor2.frozenAt (k * 2 + 1)
      have hor3 := own_set2 hor2 k (ca l k) (cb l k)
      rw [part_set l k (by rw [← Hn.out]; exact hlt)] at hor3
      have Hor3 := Lib.hid hor3
      clear hor3 hor hor2
      have hb3 := hbel.trans (hb2.mono (Nat.le_of_lt hlt1))
      go_wp2_with fail
      go_roundw
      case rel => exact ⟨k + 1, by omega, by go_num, Hor3.out, (hb3.setCell (Nat.le_refl _) _).setCell (Nat.le_refl _) _⟩
      case measure => simp [intOf]; omega
    · have hk' : k = n := by omega
      have hp : part l k = l := by rw [hk', Hn.out, part_all]
      rw [hp] at hor
      have Hor := Lib.hid hor
      clear hor hp hk'
      go_wp2
      go_ret
      exact ⟨n, rfl, Hor.out, hbel⟩
end Go.Proofs.Ytjmckdnjghnlbaa
