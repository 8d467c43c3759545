/- Rows of numbers cloned; numbers told anew. -/
import Derived.Test.YtghfkgbmmkcjhaaAs
namespace Go.Proofs.Ytghfkgbmmkcjhaa
open Go.ChangeShapes Go.WideShapes Go.ChangeAt Go.RowKit
set_option linter.unusedVariables false


theorem eql_nilI (a : Option Addr) (n c : Nat) (w : World) : (binOp .eql 36 (.slice a n c) (.slice none 0 0)).run Try.prog w = .ok (.bool a.isNone) w := by
  have := run_equal_slice_nil (P := Try.prog) (w := w) 36 3 a n c Try.underlying36
  simp [binOp, this]

set_option maxRecDepth 20000 in
/-- Numbers that lie somewhere cloned. -/
theorem clone_cells (g n cap : Nat) (l : List Int) (w : World) (Hn : Hid (n = l.length)) (h0 : 0 < n) (hl : n ≤ 1000) (Hc : Hid (∀ i, i < n → w.cell? ⟨g, i, none⟩ = some (.int .i64 (na l i)))) :
    Calls Try.prog 66 #[.slice (some ⟨g, 0, none⟩) n cap] w fun e w' => ∃ g2 c2, e = .returned (.slice (some ⟨g2, 0, none⟩) n c2) ∧ w'.ownsRow w.heap.size 3 1 (.slice (some ⟨g2, 0, none⟩) n c2) n (ns l) ∧ Below w.heap.size w w' := by
  obtain ⟨i0, hi, hz0, hz1, hz2⟩ := info_parts info3
  have hown0 : (w.alloc (.cells #[] 3)).ownsRow w.heap.size 3 1 (.slice (some ⟨w.heap.size, 0, none⟩) 0 0) 0 [] := World.ownsRow_lit w #[] 0 (Nat.le_refl _) (by unfold maxLen; omega) rfl
  have Hown0 := Lib.hid hown0
  have Hbw : Hid (∀ j u, (ns l)[j]? = some u → (w.alloc (.cells #[] 3)).cell? ((⟨g, 0, none⟩ : Addr).add j) = some u) := Lib.hid (fun j u hu => by
    have hj : j < n := by have := (List.getElem?_eq_some_iff.1 hu).1; rw [ns_length] at this; rw [Hn.out]; exact this
    have hc := Hc.out j hj
    rw [ns_get l j (by rw [← Hn.out]; exact hj)] at hu
    rw [show (⟨g, 0, none⟩ : Addr).add j = ⟨g, j, none⟩ by unfold Addr.add; split <;> simp_all]
    rw [World.cell?_of_block (w := w) (Below.heap_alloc w _ _ (World.block_lt_of_cell? w _ hc)), hc]
    exact hu)
  clear hown0
  have hnl := fun w => eql_nilI (some ⟨g, 0, none⟩) n cap w
  go_enter Try.func66, Try.ntmps66
  go_wp2_with (at_builtin; refine wpList_append_own _ rfl _ _ 36 rfl w.heap.size 3 i0 (.int .i64 0) 1 8 Try.underlying36 hi hz0 hz1 hz2 rfl (by decide) _ _ _ rfl Hown0.out ⟨g, 0, none⟩ n cap (ns l) rfl ?c0 ?c1 ?c2 ?c3 ?c4 ?c5 ?_)
  case c0 => rw [ns_length, Nat.mul_one, ← Hn.out]
  case c1 => exact Hbw.out
  case c2 => exact ns_one _
  case c3 => unfold maxLen; omega
  case c4 => omega
  case c5 => simp
  intro v' w1 hown' hgr hnil
  have hown2 : w1.ownsRow w.heap.size 3 1 v' n (ns l) := by simpa using hown'
  obtain ⟨g2, c2, hv⟩ := own_apos hown2 h0
  rw [hv] at hown2 ⊢
  have Hown := Lib.hid hown2
  have Hbel := Lib.hid (((Below.refl w.heap.size w).alloc (Nat.le_refl _) (.cells #[] 3)).grown hgr (by simp) (fun b hb => (Hown0.out.lt b hb).1))
  clear hown' hgr hnil hown2 hv
  go_wp2_with fail
  go_ret
  exact ⟨g2, c2, rfl, Hown.out, Hbel.out⟩

/-- The first k of the numbers are told anew. -/
def mxL (d : Int) (l : List Snd) (F : Int → Int) (P k : Nat) : List Int := (List.range P).map fun (i : Nat) => if i < k then av d l i else F i
theorem mxL_length (d : Int) (l : List Snd) (F : Int → Int) (P k : Nat) : (mxL d l F P k).length = P := by simp [mxL]
theorem mxL_get (d : Int) (l : List Snd) (F : Int → Int) (P k i : Nat) (h : i < P) : na (mxL d l F P k) i = if i < k then av d l i else F i := by
  simp [na, mxL, List.getD_eq_getElem?_getD, List.getElem?_map, List.getElem?_range h]
theorem mxL_set (d : Int) (l : List Snd) (F : Int → Int) (P k : Nat) (h : k < P) : (mxL d l F P k).set k (av d l k) = mxL d l F P (k + 1) := by
  apply List.ext_getElem
  · simp [mxL]
  · intro i h1 h2
    rw [List.getElem_set]
    simp only [mxL, List.getElem_map, List.getElem_range]
    by_cases e : k = i
    · subst e; simp
    · rw [if_neg e]
      by_cases h3 : i < k
      · rw [if_pos h3, if_pos (by omega)]
      · rw [if_neg h3, if_neg (by omega)]
theorem mxL_same (d : Int) (l : List Snd) (F : Int → Int) (P k : Nat) (h : k < P) (e : F k = av d l k) : mxL d l F P (k + 1) = mxL d l F P k := by
  apply List.ext_getElem
  · simp [mxL]
  · intro i h1 h2
    simp only [mxL, List.getElem_map, List.getElem_range]
    by_cases h3 : i < k
    · rw [if_pos h3, if_pos (by omega)]
    · by_cases h4 : i = k
      · subst h4; rw [if_pos (by omega), if_neg (by omega), e]
      · rw [if_neg h3, if_neg (by omega)]
theorem mxL_all (d : Int) (l : List Snd) (F : Int → Int) (P : Nat) : mxL d l F P P = (List.range P).map fun (i : Nat) => av d l i := by
  unfold mxL
  exact List.map_congr_left fun i hi => if_pos (List.mem_range.1 hi)
theorem mxL_none (d : Int) (l : List Snd) (F : Int → Int) (P : Nat) : mxL d l F P 0 = (List.range P).map fun (i : Nat) => F i := by
  unfold mxL
  exact List.map_congr_left fun i hi => if_neg (by omega)

def avR (d P : Int) (l : List Snd) : List Int := if arsB d P l then (List.range P.toNat).map (fun (x : Nat) => av d l x) else []
theorem avR_len (d P : Int) (l : List Snd) : (avR d P l).length ≤ 40 := by
  unfold avR
  cases h : arsB d P l
  · simp
  · simp only [arsB, Bool.and_eq_true] at h
    obtain ⟨Q, rfl, _, h2⟩ := pe_in h.2.1
    simp; omega

end Go.Proofs.Ytghfkgbmmkcjhaa
