/- Lists of lists of numbers: how they are owned, found equal, marked and held. -/
import Derived.Test.YtnhkabhchepieaaDoorInts
namespace Go.Proofs.YtnhkabhchepieaaDoor
open Go.ChangeShapes Go.WideShapes Go.ChangeAt Go.RowKit
set_option linter.unusedVariables false

theorem cell_old {w wr : World} {a : Addr} {v : Value} (hb : Below w.heap.size w wr) (h : w.cell? a = some v) : wr.cell? a = some v := (hb.cell (World.block_lt_of_cell? w _ h)).trans h

theorem own_setRow {w : World} {base : Nat} {e : TypeId} {size : Nat} {v : Value} {n : Nat} {xs : List Value} {B : Nat} {cs' : Array Value} (h : w.ownsRow base e size v n xs) (hB : B < base) : (w.setRow B cs').ownsRow base e size v n xs := by
  refine ⟨h.1, ?_⟩
  rcases h.2 with hn | ⟨g, cap, cur, hv, hbg, hgg, rest⟩
  · exact .inl hn
  · exact .inr ⟨g, cap, cur, hv, hbg, by rw [setRow_other _ _ _ _ (by omega)]; exact hgg, rest⟩

theorem ns_append_one (l : List Int) (k : Int) : ns (l ++ [k]) = ns l ++ [.int .i64 k] := by simp [ns]

theorem tl_len1 {a b : List Int} {k : Int} (h : a = b ++ [k]) : b.length + 1 = a.length := by rw [h]; simp

/-- The i-th of the lists. -/
def row (L : List (List Int)) (i : Nat) : List Int := L.getD i []

/-- Cells that hold slices, each of which reads as one of the lists. -/
def SSAt (w : World) (b off : Nat) (A : Nat → Option Addr) (C : Nat → Nat) (L : List (List Int)) (n : Nat) : Prop :=
  ∀ i, i < n → w.cell? ⟨b, off + i, none⟩ = some (.slice (A i) (row L i).length (C i)) ∧ NumsAt w (A i) (row L i)

theorem SSAt.kept {w w' : World} {b off : Nat} {A : Nat → Option Addr} {C : Nat → Nat} {L : List (List Int)} {n : Nat} (h : SSAt w b off A C L n) (hb : Below w.heap.size w w') : SSAt w' b off A C L n :=
  fun i hi => ⟨cell_old hb (h i hi).1, (h i hi).2.kept hb⟩

set_option maxRecDepth 100000 in
theorem eqIntSS_pos (b off b' off' ka kb : Nat) (A A' : Nat → Option Addr) (C C' : Nat → Nat) (L : List (List Int)) (n : Nat) (w : World) (hl : n ≤ 1048576) (hL : Hid (∀ i, i < n → (row L i).length ≤ 1048576))
    (Hc : Hid (SSAt w b off A C L n)) (Hd : Hid (SSAt w b' off' A' C' L n)) :
    Calls Tryd.prog 12 #[.slice (some ⟨b, off, none⟩) n ka, .slice (some ⟨b', off', none⟩) n kb] w fun e w' => e = .returned (.bool true) ∧ Below w.heap.size w w' := by
  have hnn : ((n : Int) != (n : Int)) = false := by simp
  go_enter Tryd.func12, Tryd.ntmps12
  go_wp2_with fail
  go_loopw [5] (fun i wr => ∃ k : Nat, k ≤ n ∧ i = .int .i64 k ∧ Below w.heap.size w wr) (fun i _ => n - (intOf i).toNat)
  case atStart => exact ⟨0, Nat.zero_le _, rfl, Below.refl _ _⟩
  case round =>
    obtain ⟨k, hk, rfl, hbel⟩ := hrel
    by_cases hlt : k < n
    · have hCk := Lib.hid ((Hc.out.kept hbel) k hlt).2
      have hDk := Lib.hid ((Hd.out.kept hbel) k hlt).2
      have h0 := ((Hc.out.kept hbel) k hlt).1
      have h2 := ((Hd.out.kept hbel) k hlt).1
      have hlk := hL.out k hlt
      have hb0 : (0 : Int) ≤ k := by omega
      have hb1 : (k : Int) < n := by omega
      have Hbel := Lib.hid hbel
      have H0 := Lib.hid h0
      have H2 := Lib.hid h2
      clear hbel
      go_wp2_with fail
      go_region_held3 (fun w' => w'.cell? ⟨b, off + k, none⟩ = some (.slice (A k) (row L k).length (C k)) ∧ w'.cell? ⟨b', off' + k, none⟩ = some (.slice (A' k) (row L k).length (C' k)))
        (first
          | exact ⟨H0.out, H2.out⟩
          | go_keep
          | (go_split_ands
             refine ⟨?_, ?_⟩
             · exact cell_old hb2 (by assumption)
             · exact cell_old hb2 (by assumption)))
        (first
          | (go_at_call 36; refine (eqIntS_any (A k) (A' k) (C k) (C' k) (row L k) _ _ _ rfl rfl (by omega) (hCk.out.kept (Below.refl _ _).drew) (hDk.out.kept (Below.refl _ _).drew)).mono ?_; rintro e w3 ⟨rfl, hb2⟩)
          | fail)
      rename_i hS
      clear hS
      have hb3 : Below w.heap.size w w3 := Hbel.out.drew.trans (hb2.mono Hbel.out.size)
      clear hb2 h0 h2
      go_wp2_with fail
      go_roundw
      case rel => exact ⟨k + 1, by omega, by go_num, hb3⟩
      case measure => simp [intOf]; omega
    · go_wp2
      go_ret
      exact ⟨rfl, hbel⟩

theorem info49 : (Tryd.prog.info? 49).map (fun i => (i.zero, i.size, i.bytes)) = some (some (.slice none 0 0), 1, 24) := by kernel_rfl

/-- The value owns an outer row of the values X, each of which owns the row of one of the lists; the blocks are apart. -/
def OwnSS (w : World) (base : Nat) (v : Value) (X : List Value) (L : List (List Int)) : Prop :=
  w.ownsRow base 49 1 v L.length X ∧ X.length = L.length ∧
  (∀ (i : Nat) (x : Value) (l : List Int), X[i]? = some x → L[i]? = some l → w.ownsRow base 3 1 x l.length (ns l) ∧ (∀ b, x.ownBlock = some b → v.ownBlock ≠ some b)) ∧
  (∀ (i j : Nat) (x y : Value) (b : Nat), i < j → X[i]? = some x → X[j]? = some y → x.ownBlock = some b → y.ownBlock ≠ some b)

theorem OwnSS.nil (w : World) (base : Nat) : OwnSS w base (.slice none 0 0) [] [] :=
  ⟨World.ownsRow_nil w base 49 1, rfl, fun i x l h _ => by simp at h, fun i j x y b _ h _ _ => by simp at h⟩

theorem OwnSS.later {w w' : World} {base : Nat} {v : Value} {X : List Value} {L : List (List Int)} (h : OwnSS w base v X L) (hb : Below w.heap.size w w') : OwnSS w' base v X L :=
  ⟨own_later h.1 hb, h.2.1, fun i x l hx hl => ⟨own_later (h.2.2.1 i x l hx hl).1 hb, (h.2.2.1 i x l hx hl).2⟩, h.2.2.2⟩

/-- What the blocks of a value that owns the row are: its own were there. -/
theorem OwnSS.push {w w' : World} {base : Nat} {v v' : Value} {X : List Value} {L : List (List Int)} {x : Value} {l : List Int} {H : Nat}
    (h : OwnSS w base v X L) (hx : w.ownsRow base 3 1 x l.length (ns l)) (hxv : ∀ b, x.ownBlock = some b → v.ownBlock ≠ some b) (hxX : ∀ (i : Nat) (y : Value) (b : Nat), X[i]? = some y → y.ownBlock = some b → x.ownBlock ≠ some b)
    (hgr : w.grownBy w' v.ownBlock) (hown : w'.ownsRow base 49 1 v' (L.length + 1) (X ++ [x])) (hat : v'.ownBlock = v.ownBlock ∨ v'.ownBlock = some H) (hH : w.heap.size ≤ H) :
    OwnSS w' base v' (X ++ [x]) (L ++ [l]) := by
  have hXL := h.2.1
  refine ⟨by rw [List.length_append]; exact hown, by simp [hXL], ?_, ?_⟩
  · intro i y m hy hm
    by_cases hi : i < X.length
    · rw [List.getElem?_append_left hi] at hy
      rw [List.getElem?_append_left (by omega)] at hm
      obtain ⟨h1, h2⟩ := h.2.2.1 i y m hy hm
      refine ⟨h1.kept hgr ?_, fun b hb => ?_⟩
      · cases hq : y.ownBlock with
        | none => exact .inl rfl
        | some b => exact .inr (fun e => h2 b hq e.symm)
      · rcases hat with e | e
        · rw [e]; exact h2 b hb
        · rw [e]; intro hc; cases hc; have := (h1.lt _ hb).2; omega
    · have hi2 : i = X.length := by
        have := (List.getElem?_eq_some_iff.1 hy).1
        simp at this; omega
      subst hi2
      simp at hy
      rw [hXL] at hm
      simp at hm
      subst hy
      subst hm
      refine ⟨hx.kept hgr ?_, fun b hb => ?_⟩
      · cases hq : x.ownBlock with
        | none => exact .inl rfl
        | some b => exact .inr (fun e => hxv b hq e.symm)
      · rcases hat with e | e
        · rw [e]; exact hxv b hb
        · rw [e]; intro hc; cases hc; have := (hx.lt _ hb).2; omega
  · intro i j y z b hij hy hz hb
    have hj : j < X.length + 1 := by have := (List.getElem?_eq_some_iff.1 hz).1; simpa using this
    rw [List.getElem?_append_left (by omega)] at hy
    by_cases hjX : j < X.length
    · rw [List.getElem?_append_left hjX] at hz
      exact h.2.2.2 i j y z b hij hy hz hb
    · obtain rfl : j = X.length := by omega
      simp at hz
      subst hz
      exact hxX i y b hy hb

theorem own_base {w : World} {base b' : Nat} (hb : b' ≤ base) {e : TypeId} {size : Nat} {v : Value} {n : Nat} {xs : List Value} (h : w.ownsRow base e size v n xs) : w.ownsRow b' e size v n xs := by
  refine ⟨h.1, ?_⟩
  rcases h.2 with h2 | ⟨g, cap, cur, h1, h2, h3⟩
  · exact .inl h2
  · exact .inr ⟨g, cap, cur, h1, Nat.le_trans hb h2, h3⟩

theorem OwnSS.weaken {w : World} {base b' : Nat} {v : Value} {X : List Value} {L : List (List Int)} (h : OwnSS w base v X L) (hb : b' ≤ base) : OwnSS w b' v X L :=
  ⟨own_base hb h.1, h.2.1, fun i x l hx hl => ⟨own_base hb (h.2.2.1 i x l hx hl).1, (h.2.2.1 i x l hx hl).2⟩, h.2.2.2⟩

theorem OwnSS.alloc {w : World} {base : Nat} {v : Value} {X : List Value} {L : List (List Int)} (h : OwnSS w base v X L) (o : Obj) : OwnSS (w.alloc o) base v X L :=
  h.later ((Below.refl _ _).alloc (Nat.le_refl _) o)

def addrOf : Value → Option Addr | .slice a _ _ => a | _ => none

def capOf : Value → Nat | .slice _ _ c => c | _ => 0

theorem eqIntSS_zero (ao bo : Option Addr) (ka kb : Nat) (w : World) :
    Calls Tryd.prog 12 #[.slice ao 0 ka, .slice bo 0 kb] w fun e w' => e = .returned (.bool true) ∧ Below w.heap.size w w' := by
  go_enter Tryd.func12, Tryd.ntmps12
  go_wp2_with fail
  go_rounds 1
  go_ret
  exact ⟨rfl, Below.refl _ _⟩

theorem OwnSS.reads {w : World} {base : Nat} {v : Value} {X : List Value} {L : List (List Int)} (h : OwnSS w base v X L) :
    ∃ ao cap, v = .slice ao L.length cap ∧ (L.length = 0 ∨ ∃ b, ao = some ⟨b, 0, none⟩ ∧ SSAt w b 0 (fun i => addrOf (X.getD i (.bool false))) (fun i => capOf (X.getD i (.bool false))) L L.length) := by
  rcases h.1.2 with ⟨hv, h0⟩ | ⟨g, cap, cur, rfl, _, _, _⟩
  · exact ⟨none, 0, by rw [hv, h0], .inl h0⟩
  · refine ⟨_, cap, rfl, .inr ⟨g, rfl, fun i hi => ?_⟩⟩
    have hX : i < X.length := by rw [h.2.1]; exact hi
    have hx : X[i]? = some X[i] := List.getElem?_eq_getElem hX
    have hl : L[i]? = some L[i] := List.getElem?_eq_getElem hi
    obtain ⟨h1, _⟩ := h.2.2.1 i _ _ hx hl
    obtain ⟨a, c, he, hn⟩ := nums_shape h1 rfl
    have hc := h.1.cellAt i (by omega)
    have e1 : X.getD i (.bool false) = X[i] := by simp [List.getD_eq_getElem?_getD, hX]
    have e2 : row L i = L[i] := by simp [row, List.getD_eq_getElem?_getD, hi]
    rw [Nat.zero_add, hc, hx]
    simp only [e1, e2]
    rw [he]
    exact ⟨rfl, hn⟩

theorem eqIntSS_own {b1 b2 : Nat} (v1 v2 : Value) (X1 X2 : List Value) (L : List (List Int)) (w : World) (hl : L.length ≤ 1048576) (hL : ∀ i, i < L.length → (row L i).length ≤ 1048576) (h1 : OwnSS w b1 v1 X1 L) (h2 : OwnSS w b2 v2 X2 L) :
    Calls Tryd.prog 12 #[v1, v2] w fun e w' => e = .returned (.bool true) ∧ Below w.heap.size w w' := by
  obtain ⟨ao, ka, rfl, ha⟩ := h1.reads
  obtain ⟨bo, kb, rfl, hb⟩ := h2.reads
  by_cases h0 : L.length = 0
  · rw [h0]; exact eqIntSS_zero ao bo ka kb w
  · rcases ha with h | ⟨b, rfl, hc⟩
    · exact absurd h h0
    rcases hb with h | ⟨b', rfl, hd⟩
    · exact absurd h h0
    exact eqIntSS_pos b 0 b' 0 ka kb _ _ _ _ L L.length w hl hL hc hd

theorem OwnSS.kept {w w' : World} {base : Nat} {v : Value} {X : List Value} {L : List (List Int)} {r : Option Nat} (h : OwnSS w base v X L) (hgr : w.grownBy w' r) (hr : ∀ b, r = some b → b < base) : OwnSS w' base v X L := by
  have key : ∀ (y : Value) (e : TypeId) (n : Nat) (xs : List Value), w.ownsRow base e 1 y n xs → y.ownBlock = none ∨ y.ownBlock ≠ r := by
    intro y e n xs hy
    cases hq : y.ownBlock with
    | none => exact .inl rfl
    | some b => exact .inr (fun e => by have h1 := (hy.lt b hq).1; have h2 := hr b e.symm; omega)
  exact ⟨h.1.kept hgr (key _ _ _ _ h.1), h.2.1, fun i x l hx hl => ⟨(h.2.2.1 i x l hx hl).1.kept hgr (key _ _ _ _ (h.2.2.1 i x l hx hl).1), (h.2.2.1 i x l hx hl).2⟩, h.2.2.2⟩

theorem OwnSS.set {w w' : World} {base : Nat} {v : Value} {X : List Value} {L : List (List Int)} (h : OwnSS w base v X L) (j : Nat) (x : Value) (l : List Int) (hx : X[j]? = some x) (hj : j < L.length)
    (hown : w'.ownsRow base 3 1 x l.length (ns l)) (hgr : w.grownBy w' x.ownBlock) : OwnSS w' base v X (L.set j l) := by
  have hXL := h.2.1
  have hjj := (h.2.2.1 j x L[j] hx (List.getElem?_eq_getElem hj)).2
  have hap : v.ownBlock = none ∨ v.ownBlock ≠ x.ownBlock := by
    cases hq : v.ownBlock with
    | none => exact .inl rfl
    | some b => exact .inr (fun e => hjj b e.symm hq)
  refine ⟨by rw [List.length_set]; exact h.1.kept hgr hap, by simp [hXL], fun i y m hy hm => ?_, h.2.2.2⟩
  · by_cases hij : i = j
    · subst hij
      rw [hx] at hy
      obtain rfl : x = y := by simpa using hy
      rw [List.getElem?_set_self hj] at hm
      obtain rfl : l = m := by simpa using hm
      exact ⟨hown, hjj⟩
    · rw [List.getElem?_set_ne (Ne.symm hij)] at hm
      obtain ⟨h1, h2⟩ := h.2.2.1 i y m hy hm
      refine ⟨h1.kept hgr ?_, h2⟩
      cases hq : y.ownBlock with
      | none => exact .inl rfl
      | some b =>
        refine .inr fun e => ?_
        rcases Nat.lt_or_gt_of_ne hij with hlt | hlt
        · exact h.2.2.2 i j y x b hlt hy hx hq e.symm
        · exact h.2.2.2 j i x y b hlt hx hy e.symm hq

/-- How many numbers the first k lists have. -/
def ctot (L : List (List Int)) : Nat → Nat | 0 => 0 | k + 1 => ctot L k + (row L k).length

theorem ctot_le {L : List (List Int)} (h : ∀ i, (row L i).length ≤ 1000) : ∀ k, ctot L k ≤ 1000 * k
  | 0 => by simp [ctot]
  | k + 1 => by
    have h1 := ctot_le h k
    have h2 := h k
    simp only [ctot]
    omega

/-- The first j lists written over by marks. -/
def mss (L : List (List Int)) (j : Nat) : List (List Int) := (List.range L.length).map fun i => if i < j then nmarks (1 + (ctot L i : Int)) (row L i) (row L i).length else row L i

theorem mss_length (L : List (List Int)) (j : Nat) : (mss L j).length = L.length := by simp [mss]

theorem row_get {L : List (List Int)} {i : Nat} (h : i < L.length) : L[i] = row L i := by simp [row, List.getD_eq_getElem?_getD, h]

theorem mss_zero (L : List (List Int)) : mss L 0 = L := by
  apply List.ext_getElem?
  intro i
  by_cases h : i < L.length
  · simp [mss, h, ← row_get h]
  · simp [mss, h]

theorem mss_row {L : List (List Int)} {j i : Nat} (h : i < L.length) : (mss L j)[i]? = some (if i < j then nmarks (1 + (ctot L i : Int)) (row L i) (row L i).length else row L i) := by
  simp [mss, h]

theorem mss_set {L : List (List Int)} {j : Nat} (h : j < L.length) : (mss L j).set j (nmarks (1 + (ctot L j : Int)) (row L j) (row L j).length) = mss L (j + 1) := by
  apply List.ext_getElem?
  intro i
  by_cases hi : i < L.length
  · by_cases hij : j = i
    · subst hij
      rw [List.getElem?_set_self (by rw [mss_length]; exact h), mss_row h, if_pos (Nat.lt_succ_self j)]
    · rw [List.getElem?_set_ne hij, mss_row hi, mss_row hi]
      by_cases hlt : i < j
      · rw [if_pos hlt, if_pos (by omega)]
      · rw [if_neg hlt, if_neg (by omega)]
  · rw [List.getElem?_eq_none (by rw [List.length_set, mss_length]; omega), List.getElem?_eq_none (by rw [mss_length]; omega)]

theorem OwnSS.outer {w : World} {base : Nat} {v : Value} {X : List Value} {L : List (List Int)} (h : OwnSS w base v X L) (h0 : 0 < L.length) : ∃ g cap, v = .slice (some ⟨g, 0, none⟩) L.length cap ∧ base ≤ g :=  by
  rcases h.1.2 with ⟨_, hh⟩ | ⟨g, cap, cur, rfl, hb, _⟩
  · omega
  · exact ⟨g, cap, rfl, hb⟩

theorem OwnSS.cellOf {w : World} {base g n cap : Nat} {X : List Value} {L : List (List Int)} (h : OwnSS w base (.slice (some ⟨g, 0, none⟩) n cap) X L) (hn : n = L.length) (j : Nat) (hj : j < L.length) :
    ∃ a c, X[j]? = some (.slice a (row L j).length c) ∧ w.cell? ⟨g, j, none⟩ = some (.slice a (row L j).length c) ∧ w.ownsRow base 3 1 (.slice a (row L j).length c) (row L j).length (ns (row L j)) := by
  subst hn
  have hXj : j < X.length := by rw [h.2.1]; exact hj
  have hx : X[j]? = some X[j] := List.getElem?_eq_getElem hXj
  have hl : L[j]? = some (row L j) := by rw [List.getElem?_eq_getElem hj, row_get hj]
  obtain ⟨h1, _⟩ := h.2.2.1 j _ _ hx hl
  obtain ⟨a, c, he, _⟩ := nums_shape h1 rfl
  have hc := h.1.cellAt j (by omega)
  rw [hx, he] at hc
  rw [he] at hx h1
  exact ⟨a, c, hx, hc, h1⟩

set_option maxRecDepth 20000 in
theorem markIntSS_pos (base g cap : Nat) (X : List Value) (L : List (List Int)) (n : Nat) (w : World) (Hn : Hid (n = L.length)) (hn : n ≤ 1000) (hL : Hid (∀ i, (row L i).length ≤ 1000)) (hbg : base ≤ g)
    (h : OwnSS w base (.slice (some ⟨g, 0, none⟩) n cap) X L) :
    Calls Tryd.prog 15 #[.slice (some ⟨g, 0, none⟩) n cap, .int .i64 1] w fun e w' => e = .returned (.int .i64 (1 + (ctot L n : Int))) ∧ OwnSS w' base (.slice (some ⟨g, 0, none⟩) n cap) X (mss L n) ∧ Below base w w' := by
  have Hh := Lib.hid h
  clear h
  go_enter Tryd.func15, Tryd.ntmps15
  go_wp2_with fail
  go_loopw [1, 5] (fun k i wr => ∃ j : Nat, j ≤ n ∧ i = .int .i64 j ∧ k = .int .i64 (1 + (ctot L j : Int)) ∧ OwnSS wr base (.slice (some ⟨g, 0, none⟩) n cap) X (mss L j) ∧ Below base w wr) (fun _ i _ => n - (intOf i).toNat)
  case atStart => exact ⟨0, Nat.zero_le _, rfl, by simp [ctot], by rw [mss_zero]; exact Hh.out, Below.refl _ _⟩
  case round =>
    obtain ⟨j, hj, rfl, rfl, hor, hbel⟩ := hrel
    by_cases hlt : j < n
    · have hjL : j < L.length := by rw [← Hn.out]; exact hlt
      obtain ⟨a, c, hx, hc, ho⟩ := hor.cellOf (by rw [mss_length]; exact Hn.out) j (by rw [mss_length]; exact hjL)
      have hrow : row (mss L j) j = row L j := by simp [row, List.getD_eq_getElem?_getD, mss_row hjL]
      rw [hrow] at hx hc ho
      have hct := ctot_le hL.out j
      have hlr := hL.out j
      have Hor := Lib.hid hor
      have Hx := Lib.hid hx
      have Hm := Lib.hid (markIntS_any base (.slice a (row L j).length c) (row L j) _ wr (1 + (ctot L j : Int)) (by omega) (by omega) rfl (by omega) ho)
      have Hlow : Hid (∀ k, (Value.slice a (row L j).length c).ownBlock = some k → base ≤ k) := fun k hk => (ho.lt k hk).1
      have Hsucc : Hid (ctot L (j + 1) = ctot L j + (row L j).length) := rfl
      have hgs : base ≤ wr.heap.size := Nat.le_trans hbg (Nat.le_of_lt (hor.1.lt g rfl).2)
      clear hor hx ho hrow
      go_wp2_with fail
      refine Hm.out.mono ?_
      rintro e w2 ⟨rfl, own2, hg2⟩
      have hb2 : Below base w w2 := hbel.grown hg2 hgs Hlow.out
      have own3 := own2
      rw [show (row L j).length = (nmarks (1 + (ctot L j : Int)) (row L j) (row L j).length).length from (nmarks_length _ _ _).symm] at own3
      have hz := Hor.out.set j _ _ Hx.out (by rw [mss_length]; exact hjL) (by rw [nmarks_length] at own3 ⊢; exact own2) hg2
      rw [mss_set hjL] at hz
      have Hz := Lib.hid hz
      clear hz own2 own3 hg2 hbel
      go_wp2_with fail
      go_roundw
      case rel => exact ⟨j + 1, by omega, by go_num, by rw [Hsucc.out]; go_num, Hz.out, hb2⟩
      case measure => simp [intOf]; omega
    · obtain rfl : j = n := by omega
      have Hor := Lib.hid hor
      clear hor
      go_wp2_with fail
      go_ret
      exact ⟨rfl, Hor.out, hbel⟩

theorem markIntSS_zero (ao : Option Addr) (cap : Nat) (w : World) :
    Calls Tryd.prog 15 #[.slice ao 0 cap, .int .i64 1] w fun e w' => e = .returned (.int .i64 1) ∧ w = w' := by
  go_enter Tryd.func15, Tryd.ntmps15
  go_wp2_with fail
  go_rounds 1
  go_ret
  exact ⟨rfl, rfl⟩

theorem markIntSS_any (base : Nat) (v : Value) (X : List Value) (L : List (List Int)) (w : World) (hn : L.length ≤ 1000) (hL : ∀ i, (row L i).length ≤ 1000) (h : OwnSS w base v X L) :
    Calls Tryd.prog 15 #[v, .int .i64 1] w fun e w' => e = .returned (.int .i64 (1 + (ctot L L.length : Int))) ∧ OwnSS w' base v X (mss L L.length) ∧ Below base w w' := by
  by_cases h0 : L.length = 0
  · have hL0 : L = [] := List.eq_nil_of_length_eq_zero h0
    subst hL0
    obtain ⟨ao, cap, rfl, _⟩ := h.reads
    refine (markIntSS_zero ao cap w).mono ?_
    rintro e w' ⟨rfl, rfl⟩
    exact ⟨rfl, h, Below.refl _ _⟩
  · obtain ⟨g, cap, rfl, hbg⟩ := h.outer (by omega)
    exact markIntSS_pos base g cap X L _ w rfl hn hL hbg h

set_option maxRecDepth 20000 in
theorem heldIntSS_pos (base g cap : Nat) (X : List Value) (L : List (List Int)) (n : Nat) (w : World) (Hn : Hid (n = L.length)) (hn : n ≤ 1000) (hL : Hid (∀ i, (row L i).length ≤ 1000))
    (h : OwnSS w base (.slice (some ⟨g, 0, none⟩) n cap) X (mss L n)) :
    Calls Tryd.prog 16 #[.slice (some ⟨g, 0, none⟩) n cap, .int .i64 1] w fun e w' => e = .returned (.int .i64 (1 + (ctot L n : Int))) ∧ w = w' := by
  have Hh := Lib.hid h
  clear h
  go_enter Tryd.func16, Tryd.ntmps16
  go_wp2_with fail
  go_loop [1, 5] (fun k i => ∃ j : Nat, j ≤ n ∧ i = .int .i64 j ∧ k = .int .i64 (1 + (ctot L j : Int))) (fun _ i => n - (intOf i).toNat)
  case atStart => exact ⟨0, Nat.zero_le _, rfl, by simp [ctot]⟩
  case round =>
    obtain ⟨j, hj, rfl, rfl⟩ := hrel
    by_cases hlt : j < n
    · have hjL : j < L.length := by rw [← Hn.out]; exact hlt
      obtain ⟨a, c, hx, hc, ho⟩ := Hh.out.cellOf (by rw [mss_length]; exact Hn.out) j (by rw [mss_length]; exact hjL)
      have hrow : row (mss L n) j = nmarks (1 + (ctot L j : Int)) (row L j) (row L j).length := by simp [row, List.getD_eq_getElem?_getD, mss_row hjL, hlt]
      have hrl : (row (mss L n) j).length = (row L j).length := by rw [hrow, nmarks_length]
      rw [hrl] at hx hc ho
      rw [hrow] at ho
      have hct := ctot_le hL.out j
      have hlr := hL.out j
      have Hm := Lib.hid (heldIntS_any base (.slice a (row L j).length c) (row L j) _ w (1 + (ctot L j : Int)) (by omega) (by omega) rfl (by omega) ho)
      have Hsucc : Hid (ctot L (j + 1) = ctot L j + (row L j).length) := rfl
      clear hx ho hrow hrl
      go_wp2_with fail
      refine Hm.out.mono ?_
      rintro e w2 ⟨rfl, rfl⟩
      go_wp2_with fail
      go_round
      case rel => exact ⟨j + 1, by omega, by go_num, by rw [Hsucc.out]; go_num⟩
      case measure => simp [intOf]; omega
    · obtain rfl : j = n := by omega
      go_wp2_with fail
      go_ret
      exact ⟨rfl, rfl⟩

theorem heldIntSS_zero (ao : Option Addr) (cap : Nat) (w : World) :
    Calls Tryd.prog 16 #[.slice ao 0 cap, .int .i64 1] w fun e w' => e = .returned (.int .i64 1) ∧ w = w' := by
  go_enter Tryd.func16, Tryd.ntmps16
  go_wp2_with fail
  go_rounds 1
  go_ret
  exact ⟨rfl, rfl⟩

theorem heldIntSS_any (base : Nat) (v : Value) (X : List Value) (L : List (List Int)) (w : World) (hn : L.length ≤ 1000) (hL : ∀ i, (row L i).length ≤ 1000) (h : OwnSS w base v X (mss L L.length)) :
    Calls Tryd.prog 16 #[v, .int .i64 1] w fun e w' => e = .returned (.int .i64 (1 + (ctot L L.length : Int))) ∧ w = w' := by
  by_cases h0 : L.length = 0
  · have hL0 : L = [] := List.eq_nil_of_length_eq_zero h0
    subst hL0
    obtain ⟨ao, cap, rfl, _⟩ := h.reads
    exact heldIntSS_zero ao cap w
  · obtain ⟨g, cap, rfl, hbg⟩ := h.outer (by rw [mss_length]; omega)
    rw [mss_length] at h ⊢
    exact heldIntSS_pos base g cap X L _ w rfl hn hL h

end Go.Proofs.YtnhkabhchepieaaDoor
