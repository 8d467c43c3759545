/- All groupings; lists copied. -/
import Derived.Test.YtcedacneagpjcaaSm
import Derived.Laws.AppendOwnNone
namespace Go.Proofs.Ytcedacneagpjcaa
open Go.ChangeShapes Go.WideShapes Go.ChangeAt Go.RowKit
set_option linter.unusedVariables false

/-- All blocks of a row of rows lie below a bound. -/
def SSlt (v : Value) (X : List Value) (B : Nat) : Prop := ∀ b, (v.ownBlock = some b ∨ ∃ (i : Nat) (y : Value), X[i]? = some y ∧ y.ownBlock = some b) → b < B
theorem OwnSS.lt {w : World} {base : Nat} {v : Value} {X : List Value} {L : List (List Int)} (h : OwnSS w base v X L) : SSlt v X w.heap.size := by
  rintro b (hb | ⟨i, y, hy, hb⟩)
  · exact (h.1.lt b hb).2
  · have hi := (List.getElem?_eq_some_iff.1 hy).1
    exact ((h.2.2.1 i y _ hy (List.getElem?_eq_getElem (by rw [← h.2.1]; exact hi))).1.lt b hb).2
theorem OwnSS.kept2 {w w' : World} {base : Nat} {v : Value} {X : List Value} {L : List (List Int)} {r : Option Nat} {B : Nat} (h : OwnSS w base v X L) (hgr : w.grownBy w' r) (hl : SSlt v X B) (hr : ∀ b, r = some b → B ≤ b) : OwnSS w' base v X L := by
  have key : ∀ (y : Value), (v = y ∨ ∃ i : Nat, X[i]? = some y) → y.ownBlock = none ∨ y.ownBlock ≠ r := by
    intro y hy
    cases hq : y.ownBlock with
    | none => exact .inl rfl
    | some b =>
      refine .inr (fun e => ?_)
      have h2 := hr b e.symm
      have h1 : b < B := by
        rcases hy with rfl | ⟨i, hi⟩
        · exact hl b (.inl hq)
        · exact hl b (.inr ⟨i, y, hi, hq⟩)
      omega
  exact ⟨h.1.kept hgr (key v (.inl rfl)), h.2.1, fun i x l hx hl' => ⟨(h.2.2.1 i x l hx hl').1.kept hgr (key x (.inr ⟨i, hx⟩)), (h.2.2.1 i x l hx hl').2⟩, h.2.2.2⟩
theorem own_apos' {w : World} {base : Nat} {e : TypeId} {size : Nat} {v : Value} {n : Nat} {xs : List Value} (h : w.ownsRow base e size v n xs) (hn : 0 < n) : ∃ g cap, v = .slice (some ⟨g, 0, none⟩) n cap := by
  rcases h.2 with ⟨_, h0⟩ | ⟨g, cap, cur, rfl, _⟩
  · omega
  · exact ⟨g, cap, rfl⟩

theorem l1Own_pos (b off cap n : Nat) (l : List Int) (w : World) (Hn : Hid (n = l.length)) (h0 : 0 < n) (hl : n ≤ 1048576) (Hc : Hid (∀ i, i < n → w.cell? ⟨b, off + i, none⟩ = some (.int .i64 (na l i)))) :
    Calls Try.prog 62 #[.slice (some ⟨b, off, none⟩) n cap] w fun e w' => ∃ g cap', e = .returned (.slice (some ⟨g, 0, none⟩) n cap') ∧ w'.ownsRow w.heap.size 3 1 (.slice (some ⟨g, 0, none⟩) n cap') n (ns l) ∧ Below w.heap.size w w' := by
  obtain ⟨i0, hi, hz0, hz1, hz2⟩ := info_parts info3
  have hown0 : (w.alloc (.cells #[] 3)).ownsRow w.heap.size 3 1 (.slice (some ⟨w.heap.size, 0, none⟩) 0 0) 0 [] := World.ownsRow_lit w #[] 0 (Nat.le_refl _) (by unfold maxLen; omega) rfl
  have Hown0 := Lib.hid hown0
  clear hown0
  have hbw : ∀ j u, (ns l)[j]? = some u → (w.alloc (.cells #[] 3)).cell? ((⟨b, off, none⟩ : Addr).add j) = some u := by
    intro j u hu
    have hj : j < n := by have := (List.getElem?_eq_some_iff.1 hu).1; rw [ns_length] at this; rw [Hn.out]; exact this
    have hc := Hc.out j hj
    rw [ns_get l j (by rw [← Hn.out]; exact hj)] at hu
    have ha : (⟨b, off, none⟩ : Addr).add j = ⟨b, off + j, none⟩ := by unfold Addr.add; split <;> simp_all
    rw [ha]
    have hb : b < w.heap.size := World.block_lt_of_cell? w _ hc
    rw [World.cell?_of_block (w := w) (Below.heap_alloc w _ _ hb), hc]
    exact hu
  have Hbw := Lib.hid hbw
  clear hbw
  go_enter Try.func62, Try.ntmps62
  go_wp2_with (at_builtin; refine wpList_append_own _ rfl _ _ 22 rfl w.heap.size 3 i0 (.int .i64 0) 1 8 Try.underlying22 hi hz0 hz1 hz2 rfl (by decide) _ _ _ rfl Hown0.out ⟨b, off, none⟩ n cap (ns l) rfl ?c0 ?c1 ?c2 ?c3 ?c4 ?c5 ?_)
  case c0 => rw [ns_length, Nat.mul_one, ← Hn.out]
  case c1 => exact Hbw.out
  case c2 => exact ns_one _
  case c3 => unfold maxLen; omega
  case c4 => omega
  case c5 => simp
  intro v' w1 hown' hgr hnil
  have Hs := Lib.hid (own_apos' hown' h0)
  obtain ⟨g, cap', hv⟩ := Hs.out
  rw [hv] at hown'
  have Hown := Lib.hid hown'
  have Hbel := Lib.hid (((Below.refl w.heap.size w).alloc (Nat.le_refl _) (.cells #[] 3)).grown hgr (by simp) (fun b hb => (Hown0.out.lt b hb).1))
  rw [hv]
  clear hown' hgr hv Hs hnil
  go_wp2_with fail
  go_ret
  exact ⟨g, cap', rfl, Hown.out, Hbel.out⟩
/-- How many groups there are. -/
def ngN (l : List Int) : Nat := (nx l l.length).toNat

/-- One wire more, in each way. -/
def exTo (l : List Int) (g : Nat) : List (List Int) := (List.range g).map fun (q : Nat) => l ++ [(q : Int)]

def ext (l : List Int) : List (List Int) := exTo l (ngN l + 1)

theorem exTo_succ (l : List Int) (g : Nat) : exTo l (g + 1) = exTo l g ++ [l ++ [(g : Int)]] := by simp [exTo, List.range_succ]

theorem exTo_len (l : List Int) (g : Nat) : (exTo l g).length = g := by simp [exTo]

/-- All groupings, in order. -/
def allG : Nat → List (List Int) | 0 => [[]] | n + 1 => (allG n).flatMap ext

theorem allG_len : ∀ n : Fin 8, (allG n.val).length ≤ 1000 ∧ 1 ≤ (allG n.val).length := by decide +kernel

theorem na_app (l : List Int) (x : Int) (i : Nat) (h : i < l.length) : na (l ++ [x]) i = na l i := by
  unfold na
  rw [List.getD_eq_getElem?_getD, List.getD_eq_getElem?_getD, List.getElem?_append_left h]

theorem na_app_last (l : List Int) (x : Int) : na (l ++ [x]) l.length = x := by
  unfold na
  rw [List.getD_eq_getElem?_getD, List.getElem?_append_right (Nat.le_refl _)]
  simp

theorem nx_app (l : List Int) (x : Int) : ∀ k, k ≤ l.length → nx (l ++ [x]) k = nx l k
  | 0 => fun _ => rfl
  | k + 1 => fun h => by
    have h1 := nx_app l x k (by omega)
    simp only [nx]
    rw [h1, na_app l x k (by omega)]

theorem grTo_app {l : List Int} {x : Int} (h : grTo l l.length = true) (hx : 0 ≤ x ∧ x ≤ nx l l.length) : grTo (l ++ [x]) (l.length + 1) = true := by
  refine grTo_yes fun j hj => ?_
  rw [decide_eq_true_eq]
  by_cases hjl : j < l.length
  · rw [na_app l x j hjl, nx_app l x j (by omega)]
    unfold grTo at h
    rw [List.all_eq_true] at h
    simpa using h j (List.mem_range.2 hjl)
  · obtain rfl : j = l.length := by omega
    rw [na_app_last, nx_app l x _ (Nat.le_refl _)]
    exact hx

theorem ext_good {l x : List Int} (h : grTo l l.length = true) (hx : x ∈ ext l) : x.length = l.length + 1 ∧ grTo x x.length = true := by
  unfold ext exTo at hx
  rw [List.mem_map] at hx
  obtain ⟨q, hq, rfl⟩ := hx
  have hq2 := List.mem_range.1 hq
  have h0 := nx_nonneg l l.length
  refine ⟨by simp, ?_⟩
  rw [List.length_append]
  exact grTo_app h ⟨by omega, by unfold ngN at hq2; omega⟩

theorem allG_good : ∀ n, ∀ x, x ∈ allG n → x.length = n ∧ grTo x x.length = true
  | 0 => fun x hx => by
    simp only [allG, List.mem_singleton] at hx
    subst hx; exact ⟨rfl, rfl⟩
  | n + 1 => fun x hx => by
    simp only [allG, List.mem_flatMap] at hx
    obtain ⟨l, hl, hx⟩ := hx
    obtain ⟨h1, h2⟩ := allG_good n l hl
    obtain ⟨h3, h4⟩ := ext_good h2 hx
    exact ⟨by omega, h4⟩

theorem row_mem {L : List (List Int)} {i : Nat} (h : i < L.length) : row L i ∈ L := by rw [← row_get h]; exact List.getElem_mem h

theorem ngN_le (l : List Int) : ngN l ≤ l.length := by
  have := nx_le l l.length
  unfold ngN; omega

/-- The groupings with one wire more, of the first k. -/
def fm (L : List (List Int)) (k : Nat) : List (List Int) := (L.take k).flatMap ext

theorem fm_succ (L : List (List Int)) (k : Nat) (h : k < L.length) : fm L (k + 1) = fm L k ++ ext (row L k) := by
  unfold fm
  rw [List.take_succ_eq_append_getElem h, List.flatMap_append, row_get h]; simp

theorem fm_all (L : List (List Int)) : fm L L.length = L.flatMap ext := by unfold fm; rw [List.take_length]

theorem fm_len (L : List (List Int)) (hL : ∀ i, i < L.length → (row L i).length ≤ 12) : ∀ k, k ≤ L.length → (fm L k).length ≤ 13 * k
  | 0 => fun _ => by simp [fm]
  | k + 1 => fun h => by
    have h1 := fm_len L hL k (by omega)
    rw [fm_succ L k (by omega), List.length_append]
    unfold ext
    rw [exTo_len]
    have h2 := ngN_le (row L k)
    have h3 := hL k (by omega)
    omega

theorem eql_nil (a : Option Addr) (n c : Nat) (w : World) : (binOp .eql 22 (.slice a n c) (.slice none 0 0)).run Try.prog w = .ok (.bool a.isNone) w := by
  have := run_equal_slice_nil (P := Try.prog) (w := w) 22 3 a n c Try.underlying22
  simp [binOp, this]

theorem l1Own_nil (w : World) : Calls Try.prog 62 #[.slice none 0 0] w fun e w' => ∃ v, e = .returned v ∧ w'.ownsRow w.heap.size 3 1 v 0 (ns []) ∧ Below w.heap.size w w' := by
  obtain ⟨i0, hi, hz0, hz1, hz2⟩ := info_parts info3
  have Hown0 : Hid ((w.alloc (.cells #[] 3)).ownsRow w.heap.size 3 1 (.slice (some ⟨w.heap.size, 0, none⟩) 0 0) 0 []) := World.ownsRow_lit w #[] 0 (Nat.le_refl _) (by unfold maxLen; omega) rfl
  go_enter Try.func62, Try.ntmps62
  go_wp2_with (at_builtin; refine wpList_append_own_none rfl _ _ 22 rfl w.heap.size 3 i0 1 Try.underlying22 hi _ _ _ rfl Hown0.out rfl ?_)
  go_ret
  exact ⟨_, rfl, Hown0.out, (Below.refl _ _).alloc (Nat.le_refl _) _⟩

/-- A list of one's own copied, by the model. -/
theorem l1Own_any (base : Nat) (v : Value) (l : List Int) (n : Nat) (w : World) (Hn : Hid (n = l.length)) (hl : n ≤ 1000) (h : w.ownsRow base 3 1 v n (ns l)) (h0 : n = 0 → v = .slice none 0 0) :
    Calls Try.prog 62 #[v] w fun e w' => ∃ v', e = .returned v' ∧ w'.ownsRow w.heap.size 3 1 v' n (ns l) ∧ Below w.heap.size w w' := by
  by_cases hz : n = 0
  · have hv := h0 hz
    subst hv
    subst hz
    obtain rfl : l = [] := List.eq_nil_of_length_eq_zero Hn.out.symm
    exact l1Own_nil w
  · obtain ⟨g, cap, rfl, hb⟩ := own_pos h (by omega)
    refine (l1Own_pos g 0 cap n l w Hn (by omega) (by omega) (fun i hi => by rw [Nat.zero_add]; exact own_num h Hn.out i hi)).mono ?_
    rintro e w' ⟨g', cap', rfl, hO, hb⟩
    exact ⟨_, rfl, hO, hb⟩

set_option maxRecDepth 20000 in
theorem clone_any (base : Nat) (v : Value) (l : List Int) (n : Nat) (w : World) (Hn : Hid (n = l.length)) (hl : n ≤ 1000) (h : w.ownsRow base 3 1 v n (ns l)) :
    Calls Try.prog 40 #[v] w fun e w' => ∃ v', e = .returned v' ∧ w'.ownsRow w.heap.size 3 1 v' n (ns l) ∧ Below w.heap.size w w' := by
  obtain ⟨i0, hi, hz0, hz1, hz2⟩ := info_parts info3
  have h2 := h.2
  rcases h2 with ⟨rfl, h0⟩ | ⟨g, cap, cur, rfl, hb, hg, _⟩
  · subst h0
    have hl0 : l = [] := List.eq_nil_of_length_eq_zero Hn.out.symm
    subst hl0
    have hnl := fun w => eql_nil none 0 0 w
    go_enter Try.func40, Try.ntmps40
    go_wp2_with fail
    go_ret
    exact ⟨_, rfl, World.ownsRow_nil _ _ _ _, Below.refl _ _⟩
  · have hown0 : (w.alloc (.cells #[] 3)).ownsRow w.heap.size 3 1 (.slice (some ⟨w.heap.size, 0, none⟩) 0 0) 0 [] := World.ownsRow_lit w #[] 0 (Nat.le_refl _) (by unfold maxLen; omega) rfl
    have Hown0 := Lib.hid hown0
    have Hbw : Hid (∀ j u, (ns l)[j]? = some u → (w.alloc (.cells #[] 3)).cell? ((⟨g, 0, none⟩ : Addr).add j) = some u) := Lib.hid (fun j u hu => by
      have hj : j < n := by have := (List.getElem?_eq_some_iff.1 hu).1; rw [ns_length] at this; rw [Hn.out]; exact this
      have hc := h.cellAt j (by omega)
      rw [hu] at hc
      rw [show (⟨g, 0, none⟩ : Addr).add j = ⟨g, j, none⟩ by unfold Addr.add; split <;> simp_all]
      rw [World.cell?_of_block (w := w) (Below.heap_alloc w _ _ (World.block_lt_of_cell? w _ hc)), hc])
    clear hown0 hg h
    have hnl := fun w => eql_nil (some ⟨g, 0, none⟩) n cap w
    go_enter Try.func40, Try.ntmps40
    go_wp2_with (at_builtin; refine wpList_append_own _ rfl _ _ 22 rfl w.heap.size 3 i0 (.int .i64 0) 1 8 Try.underlying22 hi hz0 hz1 hz2 rfl (by decide) _ _ _ rfl Hown0.out ⟨g, 0, none⟩ n cap (ns l) rfl ?c0 ?c1 ?c2 ?c3 ?c4 ?c5 ?_)
    case c0 => rw [ns_length, Nat.mul_one, ← Hn.out]
    case c1 => exact Hbw.out
    case c2 => exact ns_one _
    case c3 => unfold maxLen; omega
    case c4 => omega
    case c5 => simp
    intro v' w1 hown' hgr hnil
    have hown2 : w1.ownsRow w.heap.size 3 1 v' n (ns l) := by simpa using hown'
    have Hown := Lib.hid hown2
    have Hbel := Lib.hid (((Below.refl w.heap.size w).alloc (Nat.le_refl _) (.cells #[] 3)).grown hgr (by simp) (fun b hb => (Hown0.out.lt b hb).1))
    clear hown' hgr hnil hown2
    go_wp2_with fail
    go_ret
    exact ⟨_, rfl, Hown.out, Hbel.out⟩

end Go.Proofs.Ytcedacneagpjcaa
