/- The text of a puzzle: pure; numbers as texts. -/
import Derived.Test.YtnhkabhchepieaaDoorRc
import Derived.Test.YtnhkabhchepieaaDoorStr
namespace Go.Proofs.YtnhkabhchepieaaDoor
open Go.ChangeShapes Go.WideShapes Go.ChangeAt Go.RowKit
set_option linter.unusedVariables false


/-- A clue as a text. -/
def cw (c : Clu) : List UInt8 := Lib.join [nt c.1, nt c.2.1, nt c.2.2.1, nt c.2.2.2] [46]
theorem cw_eq (a b c d : Int) : cw (a, b, c, d) = nt a ++ [46] ++ nt b ++ [46] ++ nt c ++ [46] ++ nt d := by simp [cw, Lib.join_cons, Lib.joinTail]
theorem cw_le (c : Clu) : (cw c).length ≤ 11 := by
  obtain ⟨a, b, c, d⟩ := c
  rw [cw_eq]
  have := nt_le a
  have := nt_le b
  have := nt_le c
  have := nt_le d
  simp; omega
def cws (l : List Clu) : List (List UInt8) := l.map cw
theorem cws_len (l : List Clu) : (cws l).length = l.length := by simp [cws]
theorem cws_get (l : List Clu) (k : Nat) (h : k < l.length) : (cws l).getD k [] = cw (k0 l k, k1 l k, k2 l k, k3 l k) := by
  simp [cws, k0, k1, k2, k3, List.getD_eq_getElem?_getD, h]
theorem cws_le (l : List Clu) : ∀ p, p ∈ cws l → p.length ≤ 11 := by
  intro p hp
  simp only [cws, List.mem_map] at hp
  obtain ⟨c, _, rfl⟩ := hp
  exact cw_le c
/-- What stands ahead of the clues. -/
def hdT (f n : Int) : List UInt8 := nt f ++ [99] ++ nt n ++ [58]
theorem hdT_le (f n : Int) : (hdT f n).length ≤ 6 := by
  have := nt_le f
  have := nt_le n
  simp [hdT]; omega
/-- A puzzle's text. -/
def ptT (f n : Int) (l : List Clu) : List UInt8 := hdT f n ++ Lib.join (cws l) [44]
def ptB (f n : Int) (l : List Clu) : ByteArray := if goodB f n l then ⟨(ptT f n l).toArray⟩ else ⟨#[]⟩
/-- The numbers of a clue are small. -/
theorem mB_small {f n : Int} {c : Clu} (hf : 2 ≤ f ∧ f ≤ 4) (hn : 0 ≤ n ∧ n ≤ 3) (h : mB f n c = true) : (0 ≤ c.1 ∧ c.1 < 100) ∧ (0 ≤ c.2.1 ∧ c.2.1 < 100) ∧ (0 ≤ c.2.2.1 ∧ c.2.2.1 < 100) ∧ (0 ≤ c.2.2.2 ∧ c.2.2.2 < 100) := by
  obtain ⟨k, a, b, d⟩ := c
  have hk : k = 0 ∨ k = 1 ∨ k = 2 ∨ k = 3 ∨ k = 4 ∨ k = 5 := by
    rw [mB_pB] at h
    simp [pB] at h
    omega
  rcases hk with rfl | rfl | rfl | rfl | rfl | rfl <;> simp [mB, inB] at h <;> simp <;> omega
theorem good_small {f n : Int} {l : List Clu} (h : goodB f n l = true) : (2 ≤ f ∧ f ≤ 4) ∧ (0 ≤ n ∧ n ≤ 3) ∧ l.length ≤ 6 ∧ ∀ k, k < l.length → (0 ≤ k0 l k ∧ k0 l k < 100) ∧ (0 ≤ k1 l k ∧ k1 l k < 100) ∧ (0 ≤ k2 l k ∧ k2 l k < 100) ∧ (0 ≤ k3 l k ∧ k3 l k < 100) := by
  simp only [goodB, Bool.and_eq_true, decide_eq_true_eq] at h
  obtain ⟨hz, h6, hm⟩ := h
  obtain ⟨hf, hn⟩ := sz_of hz
  refine ⟨hf, hn, h6, fun k hk => ?_⟩
  have h1 := (List.all_eq_true.1 hm) l[k] (List.getElem_mem hk)
  rw [k_get l k hk] at h1
  exact mB_small hf hn h1
theorem ba_app (s t : ByteArray) : (s ++ t).data.toList = s.data.toList ++ t.data.toList := by rw [ByteArray.data_append]; simp
/-- A number as a text, in bytes. -/
def nb (x : Int) : ByteArray := ⟨(nt x).toArray⟩
theorem nb_list (x : Int) : (nb x).data.toList = nt x := rfl
theorem nb_le (x : Int) : (nb x).size ≤ 2 := nt_le x
theorem cwb (a b c d : Int) : (nb a ++ ⟨#[46]⟩ ++ nb b ++ ⟨#[46]⟩ ++ nb c ++ ⟨#[46]⟩ ++ nb d).data.toList = cw (a, b, c, d) := by
  rw [ba_app, ba_app, ba_app, ba_app, ba_app, ba_app, nb_list, nb_list, nb_list, nb_list, cw_eq]
theorem stepC_pos (H : List UInt8) (l : List Clu) (k : Nat) (hk : k < l.length) (s : ByteArray) (h : s.data.toList = H ++ jn 44 (cws l) k) (h0 : 0 < k) : (s ++ ⟨#[44]⟩ ++ (nb (k0 l k) ++ ⟨#[46]⟩ ++ nb (k1 l k) ++ ⟨#[46]⟩ ++ nb (k2 l k) ++ ⟨#[46]⟩ ++ nb (k3 l k))).data.toList = H ++ jn 44 (cws l) (k + 1) := by
  rw [ba_app, ba_app, cwb, h, jn, if_neg (by omega), cws_get l k hk]; simp
theorem stepC_zero (H : List UInt8) (l : List Clu) (k : Nat) (hk : k < l.length) (s : ByteArray) (h : s.data.toList = H ++ jn 44 (cws l) k) (h0 : ¬ 0 < k) : (s ++ (nb (k0 l k) ++ ⟨#[46]⟩ ++ nb (k1 l k) ++ ⟨#[46]⟩ ++ nb (k2 l k) ++ ⟨#[46]⟩ ++ nb (k3 l k))).data.toList = H ++ jn 44 (cws l) (k + 1) := by
  obtain rfl : k = 0 := by omega
  have e : jn 44 (cws l) (0 + 1) = cw (k0 l 0, k1 l 0, k2 l 0, k3 l 0) := by rw [← cws_get l 0 hk]; simp [jn]
  rw [ba_app, cwb, h, e]; simp [jn]
theorem headC (f n : Int) : (nb f ++ ⟨#[99]⟩ ++ nb n ++ ⟨#[58]⟩).data.toList = hdT f n := by
  rw [ba_app, ba_app, ba_app, nb_list, nb_list, hdT]
theorem num_b (x : Int) (w : World) (h : 0 ≤ x ∧ x < 100) : Calls Tryd.prog 49 #[.int .i64 x] w fun e w' => e = .returned (.string (nb x)) ∧ Below w.heap.size w w' := l1Num_all x w h.1 h.2
theorem itoa_b (x : Int) (w : World) (h : 0 ≤ x ∧ x < 100) : Calls Tryd.prog 52 #[.int .i64 x] w fun e w' => e = .returned (.string (nb x)) ∧ w' = w := itoa_nt x w h.1 h.2
theorem four_kept {w : World} {g : Nat} {a b c d : Value} {X Y : World} (h : X.cell? ⟨g, 0, none⟩ = some a ∧ X.cell? ⟨g, 1, none⟩ = some b ∧ X.cell? ⟨g, 2, none⟩ = some c ∧ X.cell? ⟨g, 3, none⟩ = some d ∧ Below w.heap.size w X) (hb : Below X.heap.size X Y) :
    Y.cell? ⟨g, 0, none⟩ = some a ∧ Y.cell? ⟨g, 1, none⟩ = some b ∧ Y.cell? ⟨g, 2, none⟩ = some c ∧ Y.cell? ⟨g, 3, none⟩ = some d ∧ Below w.heap.size w Y :=
  ⟨(hb.cell (World.block_lt_of_cell? _ _ h.1)).trans h.1, (hb.cell (World.block_lt_of_cell? _ _ h.2.1)).trans h.2.1, (hb.cell (World.block_lt_of_cell? _ _ h.2.2.1)).trans h.2.2.1, (hb.cell (World.block_lt_of_cell? _ _ h.2.2.2.1)).trans h.2.2.2.1, h.2.2.2.2.trans (hb.mono h.2.2.2.2.size)⟩
theorem two_kept {w : World} {g : Nat} {a b : Value} {X Y : World} (h : X.cell? ⟨g, 0, none⟩ = some a ∧ X.cell? ⟨g, 1, none⟩ = some b ∧ Below w.heap.size w X) (hb : Below X.heap.size X Y) :
    Y.cell? ⟨g, 0, none⟩ = some a ∧ Y.cell? ⟨g, 1, none⟩ = some b ∧ Below w.heap.size w Y :=
  ⟨(hb.cell (World.block_lt_of_cell? _ _ h.1)).trans h.1, (hb.cell (World.block_lt_of_cell? _ _ h.2.1)).trans h.2.1, h.2.2.trans (hb.mono h.2.2.size)⟩

end Go.Proofs.YtnhkabhchepieaaDoor
