/- Lists of lists of calls: how they are owned, found equal, marked and held. -/
import Derived.Test.YtmgmkgjefplfdaaMarks
namespace Go.Proofs.Ytmgmkgjefplfdaa
open Go.ChangeShapes Go.WideShapes Go.ChangeAt Go.RowKit
set_option linter.unusedVariables false

theorem cell_old {w wr : World} {a : Addr} {v : Value} (hb : Below w.heap.size w wr) (h : w.cell? a = some v) : wr.cell? a = some v := (hb.cell (World.block_lt_of_cell? w _ h)).trans h

/-- The i-th of the lists. -/
def crow (L : List (List (Int × Int))) (i : Nat) : List (Int × Int) := L.getD i []

/-- Cells that hold slices, each of which reads as one of the lists. -/
def CSAt (w : World) (b off : Nat) (A : Nat → Option Addr) (C : Nat → Nat) (L : List (List (Int × Int))) (n : Nat) : Prop :=
  ∀ i, i < n → w.cell? ⟨b, off + i, none⟩ = some (.slice (A i) (crow L i).length (C i)) ∧ CallsAt w (A i) (crow L i)

theorem CSAt.kept {w w' : World} {b off : Nat} {A : Nat → Option Addr} {C : Nat → Nat} {L : List (List (Int × Int))} {n : Nat} (h : CSAt w b off A C L n) (hb : Below w.heap.size w w') : CSAt w' b off A C L n :=
  fun i hi => ⟨cell_old hb (h i hi).1, (h i hi).2.kept hb⟩

set_option maxRecDepth 100000 in
theorem eqCallSS_pos (b off b' off' ka kb : Nat) (A A' : Nat → Option Addr) (C C' : Nat → Nat) (L : List (List (Int × Int))) (n : Nat) (w : World) (hl : n ≤ 1048576) (hL : Hid (∀ i, i < n → (crow L i).length ≤ 1048576))
    (Hc : Hid (CSAt w b off A C L n)) (Hd : Hid (CSAt w b' off' A' C' L n)) :
    Calls Try.prog 35 #[.slice (some ⟨b, off, none⟩) n ka, .slice (some ⟨b', off', none⟩) n kb] w fun e w' => e = .returned (.bool true) ∧ Below w.heap.size w w' := by
  have hnn : ((n : Int) != (n : Int)) = false := by simp
  go_enter Try.func35, Try.ntmps35
  go_wp2_with fail
  go_loopw [5] (fun i wr => ∃ k : Nat, k ≤ n ∧ i = .int .i64 k ∧ Below w.heap.size w wr) (fun i _ => n - (intOf i).toNat)
  case atStart => exact ⟨0, Nat.zero_le _, rfl, Below.refl _ _⟩
  case round =>
    obtain ⟨k, hk, rfl, hbel⟩ := hrel
    by_cases hlt : k < n
    · have hCk := Lib.hid ((Hc.out.kept hbel) k hlt).2
      have hDk := Lib.hid ((Hd.out.kept hbel) k hlt).2
      have h0 := ((Hc.out.kept hbel) k hlt).1
      have h2 := ((Hd.out.kept hbel) k hlt).1
      have hlk := hL.out k hlt
      have hb0 : (0 : Int) ≤ k := by omega
      have hb1 : (k : Int) < n := by omega
      have Hbel := Lib.hid hbel
      have H0 := Lib.hid h0
      have H2 := Lib.hid h2
      clear hbel
      go_wp2_with fail
      go_region_held3 (fun w' => w'.cell? ⟨b, off + k, none⟩ = some (.slice (A k) (crow L k).length (C k)) ∧ w'.cell? ⟨b', off' + k, none⟩ = some (.slice (A' k) (crow L k).length (C' k)))
        (first
          | exact ⟨H0.out, H2.out⟩
          | go_keep
          | (go_split_ands
             refine ⟨?_, ?_⟩
             · exact cell_old hb2 (by assumption)
             · exact cell_old hb2 (by assumption)))
        (first
          | (go_at_call 32; refine (eqCallS_any (A k) (A' k) (C k) (C' k) (crow L k) _ _ _ rfl rfl (by omega) (hCk.out.kept (Below.refl _ _).drew) (hDk.out.kept (Below.refl _ _).drew)).mono ?_; rintro e w3 ⟨rfl, hb2⟩)
          | fail)
      rename_i hS
      clear hS
      have hb3 : Below w.heap.size w w3 := Hbel.out.drew.trans (hb2.mono Hbel.out.size)
      clear hb2 h0 h2
      go_wp2_with fail
      go_roundw
      case rel => exact ⟨k + 1, by omega, by go_num, hb3⟩
      case measure => simp [intOf]; omega
    · go_wp2
      go_ret
      exact ⟨rfl, hbel⟩

theorem info46 : (Try.prog.info? 46).map (fun i => (i.zero, i.size, i.bytes)) = some (some (.slice none 0 0), 1, 24) := by kernel_rfl

/-- The value owns an outer crow of the values X, each of which owns the crow of one of the lists; the blocks are apart. -/
def OwnCS (w : World) (base : Nat) (v : Value) (X : List Value) (L : List (List (Int × Int))) : Prop :=
  w.ownsRow base 46 1 v L.length X ∧ X.length = L.length ∧
  (∀ (i : Nat) (x : Value) (l : List (Int × Int)), X[i]? = some x → L[i]? = some l → w.ownsRow base 83 2 x l.length (cs l) ∧ (∀ b, x.ownBlock = some b → v.ownBlock ≠ some b)) ∧
  (∀ (i j : Nat) (x y : Value) (b : Nat), i < j → X[i]? = some x → X[j]? = some y → x.ownBlock = some b → y.ownBlock ≠ some b)

theorem OwnCS.nil (w : World) (base : Nat) : OwnCS w base (.slice none 0 0) [] [] :=
  ⟨World.ownsRow_nil w base 46 1, rfl, fun i x l h _ => by simp at h, fun i j x y b _ h _ _ => by simp at h⟩

theorem OwnCS.later {w w' : World} {base : Nat} {v : Value} {X : List Value} {L : List (List (Int × Int))} (h : OwnCS w base v X L) (hb : Below w.heap.size w w') : OwnCS w' base v X L :=
  ⟨own_later h.1 hb, h.2.1, fun i x l hx hl => ⟨own_later (h.2.2.1 i x l hx hl).1 hb, (h.2.2.1 i x l hx hl).2⟩, h.2.2.2⟩

/-- What the blocks of a value that owns the crow are: its own were there. -/
theorem OwnCS.push {w w' : World} {base : Nat} {v v' : Value} {X : List Value} {L : List (List (Int × Int))} {x : Value} {l : List (Int × Int)} {H : Nat}
    (h : OwnCS w base v X L) (hx : w.ownsRow base 83 2 x l.length (cs l)) (hxv : ∀ b, x.ownBlock = some b → v.ownBlock ≠ some b) (hxX : ∀ (i : Nat) (y : Value) (b : Nat), X[i]? = some y → y.ownBlock = some b → x.ownBlock ≠ some b)
    (hgr : w.grownBy w' v.ownBlock) (hown : w'.ownsRow base 46 1 v' (L.length + 1) (X ++ [x])) (hat : v'.ownBlock = v.ownBlock ∨ v'.ownBlock = some H) (hH : w.heap.size ≤ H) :
    OwnCS w' base v' (X ++ [x]) (L ++ [l]) := by
  have hXL := h.2.1
  refine ⟨by rw [List.length_append]; exact hown, by simp [hXL], ?_, ?_⟩
  · intro i y m hy hm
    by_cases hi : i < X.length
    · rw [List.getElem?_append_left hi] at hy
      rw [List.getElem?_append_left (by omega)] at hm
      obtain ⟨h1, h2⟩ := h.2.2.1 i y m hy hm
      refine ⟨h1.kept hgr ?_, fun b hb => ?_⟩
      · cases hq : y.ownBlock with
        | none => exact .inl rfl
        | some b => exact .inr (fun e => h2 b hq e.symm)
      · rcases hat with e | e
        · rw [e]; exact h2 b hb
        · rw [e]; intro hc; cases hc; have := (h1.lt _ hb).2; omega
    · have hi2 : i = X.length := by
        have := (List.getElem?_eq_some_iff.1 hy).1
        simp at this; omega
      subst hi2
      simp at hy
      rw [hXL] at hm
      simp at hm
      subst hy
      subst hm
      refine ⟨hx.kept hgr ?_, fun b hb => ?_⟩
      · cases hq : x.ownBlock with
        | none => exact .inl rfl
        | some b => exact .inr (fun e => hxv b hq e.symm)
      · rcases hat with e | e
        · rw [e]; exact hxv b hb
        · rw [e]; intro hc; cases hc; have := (hx.lt _ hb).2; omega
  · intro i j y z b hij hy hz hb
    have hj : j < X.length + 1 := by have := (List.getElem?_eq_some_iff.1 hz).1; simpa using this
    rw [List.getElem?_append_left (by omega)] at hy
    by_cases hjX : j < X.length
    · rw [List.getElem?_append_left hjX] at hz
      exact h.2.2.2 i j y z b hij hy hz hb
    · obtain rfl : j = X.length := by omega
      simp at hz
      subst hz
      exact hxX i y b hy hb

theorem own_base {w : World} {base b' : Nat} (hb : b' ≤ base) {e : TypeId} {size : Nat} {v : Value} {n : Nat} {xs : List Value} (h : w.ownsRow base e size v n xs) : w.ownsRow b' e size v n xs := by
  refine ⟨h.1, ?_⟩
  rcases h.2 with h2 | ⟨g, cap, cur, h1, h2, h3⟩
  · exact .inl h2
  · exact .inr ⟨g, cap, cur, h1, Nat.le_trans hb h2, h3⟩

theorem OwnCS.weaken {w : World} {base b' : Nat} {v : Value} {X : List Value} {L : List (List (Int × Int))} (h : OwnCS w base v X L) (hb : b' ≤ base) : OwnCS w b' v X L :=
  ⟨own_base hb h.1, h.2.1, fun i x l hx hl => ⟨own_base hb (h.2.2.1 i x l hx hl).1, (h.2.2.1 i x l hx hl).2⟩, h.2.2.2⟩

theorem OwnCS.alloc {w : World} {base : Nat} {v : Value} {X : List Value} {L : List (List (Int × Int))} (h : OwnCS w base v X L) (o : Obj) : OwnCS (w.alloc o) base v X L :=
  h.later ((Below.refl _ _).alloc (Nat.le_refl _) o)

theorem eqCallSS_zero (ao bo : Option Addr) (ka kb : Nat) (w : World) :
    Calls Try.prog 35 #[.slice ao 0 ka, .slice bo 0 kb] w fun e w' => e = .returned (.bool true) ∧ Below w.heap.size w w' := by
  go_enter Try.func35, Try.ntmps35
  go_wp2_with fail
  go_rounds 1
  go_ret
  exact ⟨rfl, Below.refl _ _⟩

theorem OwnCS.reads {w : World} {base : Nat} {v : Value} {X : List Value} {L : List (List (Int × Int))} (h : OwnCS w base v X L) :
    ∃ ao cap, v = .slice ao L.length cap ∧ (L.length = 0 ∨ ∃ b, ao = some ⟨b, 0, none⟩ ∧ CSAt w b 0 (fun i => addrOf (X.getD i (.bool false))) (fun i => capOf (X.getD i (.bool false))) L L.length) := by
  rcases h.1.2 with ⟨hv, h0⟩ | ⟨g, cap, cur, rfl, _, _, _⟩
  · exact ⟨none, 0, by rw [hv, h0], .inl h0⟩
  · refine ⟨_, cap, rfl, .inr ⟨g, rfl, fun i hi => ?_⟩⟩
    have hX : i < X.length := by rw [h.2.1]; exact hi
    have hx : X[i]? = some X[i] := List.getElem?_eq_getElem hX
    have hl : L[i]? = some L[i] := List.getElem?_eq_getElem hi
    obtain ⟨h1, _⟩ := h.2.2.1 i _ _ hx hl
    obtain ⟨a, c, he, hn⟩ := own_shape_s h1 rfl
    have hc := h.1.cellAt i (by omega)
    have e1 : X.getD i (.bool false) = X[i] := by simp [List.getD_eq_getElem?_getD, hX]
    have e2 : crow L i = L[i] := by simp [crow, List.getD_eq_getElem?_getD, hi]
    rw [Nat.zero_add, hc, hx]
    simp only [e1, e2]
    rw [he]
    exact ⟨rfl, hn⟩

theorem eqCallSS_own {b1 b2 : Nat} (v1 v2 : Value) (X1 X2 : List Value) (L : List (List (Int × Int))) (w : World) (hl : L.length ≤ 1048576) (hL : ∀ i, i < L.length → (crow L i).length ≤ 1048576) (h1 : OwnCS w b1 v1 X1 L) (h2 : OwnCS w b2 v2 X2 L) :
    Calls Try.prog 35 #[v1, v2] w fun e w' => e = .returned (.bool true) ∧ Below w.heap.size w w' := by
  obtain ⟨ao, ka, rfl, ha⟩ := h1.reads
  obtain ⟨bo, kb, rfl, hb⟩ := h2.reads
  by_cases h0 : L.length = 0
  · rw [h0]; exact eqCallSS_zero ao bo ka kb w
  · rcases ha with h | ⟨b, rfl, hc⟩
    · exact absurd h h0
    rcases hb with h | ⟨b', rfl, hd⟩
    · exact absurd h h0
    exact eqCallSS_pos b 0 b' 0 ka kb _ _ _ _ L L.length w hl hL hc hd

theorem OwnCS.kept {w w' : World} {base : Nat} {v : Value} {X : List Value} {L : List (List (Int × Int))} {r : Option Nat} (h : OwnCS w base v X L) (hgr : w.grownBy w' r) (hr : ∀ b, r = some b → b < base) : OwnCS w' base v X L := by
  have key : ∀ (y : Value) (e : TypeId) (z n : Nat) (xs : List Value), w.ownsRow base e z y n xs → y.ownBlock = none ∨ y.ownBlock ≠ r := by
    intro y e z n xs hy
    cases hq : y.ownBlock with
    | none => exact .inl rfl
    | some b => exact .inr (fun e => by have h1 := (hy.lt b hq).1; have h2 := hr b e.symm; omega)
  exact ⟨h.1.kept hgr (key _ _ _ _ _ h.1), h.2.1, fun i x l hx hl => ⟨(h.2.2.1 i x l hx hl).1.kept hgr (key _ _ _ _ _ (h.2.2.1 i x l hx hl).1), (h.2.2.1 i x l hx hl).2⟩, h.2.2.2⟩

theorem OwnCS.set {w w' : World} {base : Nat} {v : Value} {X : List Value} {L : List (List (Int × Int))} (h : OwnCS w base v X L) (j : Nat) (x : Value) (l : List (Int × Int)) (hx : X[j]? = some x) (hj : j < L.length)
    (hown : w'.ownsRow base 83 2 x l.length (cs l)) (hgr : w.grownBy w' x.ownBlock) : OwnCS w' base v X (L.set j l) := by
  have hXL := h.2.1
  have hjj := (h.2.2.1 j x L[j] hx (List.getElem?_eq_getElem hj)).2
  have hap : v.ownBlock = none ∨ v.ownBlock ≠ x.ownBlock := by
    cases hq : v.ownBlock with
    | none => exact .inl rfl
    | some b => exact .inr (fun e => hjj b e.symm hq)
  refine ⟨by rw [List.length_set]; exact h.1.kept hgr hap, by simp [hXL], fun i y m hy hm => ?_, h.2.2.2⟩
  · by_cases hij : i = j
    · subst hij
      rw [hx] at hy
      obtain rfl : x = y := by simpa using hy
      rw [List.getElem?_set_self hj] at hm
      obtain rfl : l = m := by simpa using hm
      exact ⟨hown, hjj⟩
    · rw [List.getElem?_set_ne (Ne.symm hij)] at hm
      obtain ⟨h1, h2⟩ := h.2.2.1 i y m hy hm
      refine ⟨h1.kept hgr ?_, h2⟩
      cases hq : y.ownBlock with
      | none => exact .inl rfl
      | some b =>
        refine .inr fun e => ?_
        rcases Nat.lt_or_gt_of_ne hij with hlt | hlt
        · exact h.2.2.2 i j y x b hlt hy hx hq e.symm
        · exact h.2.2.2 j i x y b hlt hx hy e.symm hq

/-- How many numbers the first k lists have. -/
def cctot (L : List (List (Int × Int))) : Nat → Nat | 0 => 0 | k + 1 => cctot L k + 2 * (crow L k).length

theorem cctot_le {L : List (List (Int × Int))} (h : ∀ i, (crow L i).length ≤ 1048576) : ∀ k, cctot L k ≤ 2097152 * k
  | 0 => by simp [cctot]
  | k + 1 => by
    have h1 := cctot_le h k
    have h2 := h k
    simp only [cctot]
    omega

/-- The first j lists written over by marks. -/
def mcs (L : List (List (Int × Int))) (j : Nat) : List (List (Int × Int)) := (List.range L.length).map fun i => if i < j then marks (1 + (cctot L i : Int)) (crow L i) (crow L i).length else crow L i

theorem mcs_length (L : List (List (Int × Int))) (j : Nat) : (mcs L j).length = L.length := by simp [mcs]

theorem crow_get {L : List (List (Int × Int))} {i : Nat} (h : i < L.length) : L[i] = crow L i := by simp [crow, List.getD_eq_getElem?_getD, h]

theorem mcs_zero (L : List (List (Int × Int))) : mcs L 0 = L := by
  apply List.ext_getElem?
  intro i
  by_cases h : i < L.length
  · simp [mcs, h, ← crow_get h]
  · simp [mcs, h]

theorem mcs_row {L : List (List (Int × Int))} {j i : Nat} (h : i < L.length) : (mcs L j)[i]? = some (if i < j then marks (1 + (cctot L i : Int)) (crow L i) (crow L i).length else crow L i) := by
  simp [mcs, h]

theorem mcs_set {L : List (List (Int × Int))} {j : Nat} (h : j < L.length) : (mcs L j).set j (marks (1 + (cctot L j : Int)) (crow L j) (crow L j).length) = mcs L (j + 1) := by
  apply List.ext_getElem?
  intro i
  by_cases hi : i < L.length
  · by_cases hij : j = i
    · subst hij
      rw [List.getElem?_set_self (by rw [mcs_length]; exact h), mcs_row h, if_pos (Nat.lt_succ_self j)]
    · rw [List.getElem?_set_ne hij, mcs_row hi, mcs_row hi]
      by_cases hlt : i < j
      · rw [if_pos hlt, if_pos (by omega)]
      · rw [if_neg hlt, if_neg (by omega)]
  · rw [List.getElem?_eq_none (by rw [List.length_set, mcs_length]; omega), List.getElem?_eq_none (by rw [mcs_length]; omega)]

theorem OwnCS.outer {w : World} {base : Nat} {v : Value} {X : List Value} {L : List (List (Int × Int))} (h : OwnCS w base v X L) (h0 : 0 < L.length) : ∃ g cap, v = .slice (some ⟨g, 0, none⟩) L.length cap ∧ base ≤ g :=  by
  rcases h.1.2 with ⟨_, hh⟩ | ⟨g, cap, cur, rfl, hb, _⟩
  · omega
  · exact ⟨g, cap, rfl, hb⟩

theorem OwnCS.cellOf {w : World} {base g n cap : Nat} {X : List Value} {L : List (List (Int × Int))} (h : OwnCS w base (.slice (some ⟨g, 0, none⟩) n cap) X L) (hn : n = L.length) (j : Nat) (hj : j < L.length) :
    ∃ a c, X[j]? = some (.slice a (crow L j).length c) ∧ w.cell? ⟨g, j, none⟩ = some (.slice a (crow L j).length c) ∧ w.ownsRow base 83 2 (.slice a (crow L j).length c) (crow L j).length (cs (crow L j)) := by
  subst hn
  have hXj : j < X.length := by rw [h.2.1]; exact hj
  have hx : X[j]? = some X[j] := List.getElem?_eq_getElem hXj
  have hl : L[j]? = some (crow L j) := by rw [List.getElem?_eq_getElem hj, crow_get hj]
  obtain ⟨h1, _⟩ := h.2.2.1 j _ _ hx hl
  obtain ⟨a, c, he, _⟩ := own_shape_s h1 rfl
  have hc := h.1.cellAt j (by omega)
  rw [hx, he] at hc
  rw [he] at hx h1
  exact ⟨a, c, hx, hc, h1⟩

set_option maxRecDepth 20000 in
theorem markCallSS_pos (base g cap : Nat) (X : List Value) (L : List (List (Int × Int))) (n : Nat) (w : World) (Hn : Hid (n = L.length)) (hn : n ≤ 1048576) (hL : Hid (∀ i, (crow L i).length ≤ 1048576)) (hbg : base ≤ g)
    (h : OwnCS w base (.slice (some ⟨g, 0, none⟩) n cap) X L) :
    Calls Try.prog 37 #[.slice (some ⟨g, 0, none⟩) n cap, .int .i64 1] w fun e w' => e = .returned (.int .i64 (1 + (cctot L n : Int))) ∧ OwnCS w' base (.slice (some ⟨g, 0, none⟩) n cap) X (mcs L n) ∧ Below base w w' := by
  have Hh := Lib.hid h
  clear h
  go_enter Try.func37, Try.ntmps37
  go_wp2_with fail
  go_loopw [1, 5] (fun k i wr => ∃ j : Nat, j ≤ n ∧ i = .int .i64 j ∧ k = .int .i64 (1 + (cctot L j : Int)) ∧ OwnCS wr base (.slice (some ⟨g, 0, none⟩) n cap) X (mcs L j) ∧ Below base w wr) (fun _ i _ => n - (intOf i).toNat)
  case atStart => exact ⟨0, Nat.zero_le _, rfl, by simp [cctot], by rw [mcs_zero]; exact Hh.out, Below.refl _ _⟩
  case round =>
    obtain ⟨j, hj, rfl, rfl, hor, hbel⟩ := hrel
    by_cases hlt : j < n
    · have hjL : j < L.length := by rw [← Hn.out]; exact hlt
      obtain ⟨a, c, hx, hc, ho⟩ := hor.cellOf (by rw [mcs_length]; exact Hn.out) j (by rw [mcs_length]; exact hjL)
      have hrow : crow (mcs L j) j = crow L j := by simp [crow, List.getD_eq_getElem?_getD, mcs_row hjL]
      rw [hrow] at hx hc ho
      have hct := cctot_le hL.out j
      have hlr := hL.out j
      have Hor := Lib.hid hor
      have Hx := Lib.hid hx
      have Hm := Lib.hid (markCallS_any base (.slice a (crow L j).length c) (crow L j) _ wr (1 + (cctot L j : Int)) (by omega) (by omega) rfl (by omega) ho)
      have Hlow : Hid (∀ k, (Value.slice a (crow L j).length c).ownBlock = some k → base ≤ k) := fun k hk => (ho.lt k hk).1
      have Hsucc : Hid (cctot L (j + 1) = cctot L j + 2 * (crow L j).length) := rfl
      have hgs : base ≤ wr.heap.size := Nat.le_trans hbg (Nat.le_of_lt (hor.1.lt g rfl).2)
      clear hor hx ho hrow
      go_wp2_with fail
      refine Hm.out.mono ?_
      rintro e w2 ⟨rfl, own2, hg2⟩
      have hb2 : Below base w w2 := hbel.grown hg2 hgs Hlow.out
      have own3 := own2
      rw [show (crow L j).length = (marks (1 + (cctot L j : Int)) (crow L j) (crow L j).length).length from (marks_length _ _ _).symm] at own3
      have hz := Hor.out.set j _ _ Hx.out (by rw [mcs_length]; exact hjL) (by rw [marks_length] at own3 ⊢; exact own2) hg2
      rw [mcs_set hjL] at hz
      have Hz := Lib.hid hz
      clear hz own2 own3 hg2 hbel
      go_wp2_with fail
      go_roundw
      case rel => exact ⟨j + 1, by omega, by go_num, by rw [Hsucc.out]; go_num, Hz.out, hb2⟩
      case measure => simp [intOf]; omega
    · obtain rfl : j = n := by omega
      have Hor := Lib.hid hor
      clear hor
      go_wp2_with fail
      go_ret
      exact ⟨rfl, Hor.out, hbel⟩

theorem markCallSS_zero (ao : Option Addr) (cap : Nat) (w : World) :
    Calls Try.prog 37 #[.slice ao 0 cap, .int .i64 1] w fun e w' => e = .returned (.int .i64 1) ∧ w = w' := by
  go_enter Try.func37, Try.ntmps37
  go_wp2_with fail
  go_rounds 1
  go_ret
  exact ⟨rfl, rfl⟩

theorem markCallSS_any (base : Nat) (v : Value) (X : List Value) (L : List (List (Int × Int))) (w : World) (hn : L.length ≤ 1048576) (hL : ∀ i, (crow L i).length ≤ 1048576) (h : OwnCS w base v X L) :
    Calls Try.prog 37 #[v, .int .i64 1] w fun e w' => e = .returned (.int .i64 (1 + (cctot L L.length : Int))) ∧ OwnCS w' base v X (mcs L L.length) ∧ Below base w w' := by
  by_cases h0 : L.length = 0
  · have hL0 : L = [] := List.eq_nil_of_length_eq_zero h0
    subst hL0
    obtain ⟨ao, cap, rfl, _⟩ := h.reads
    refine (markCallSS_zero ao cap w).mono ?_
    rintro e w' ⟨rfl, rfl⟩
    exact ⟨rfl, h, Below.refl _ _⟩
  · obtain ⟨g, cap, rfl, hbg⟩ := h.outer (by omega)
    exact markCallSS_pos base g cap X L _ w rfl hn hL hbg h

set_option maxRecDepth 20000 in
theorem heldCallSS_pos (base g cap : Nat) (X : List Value) (L : List (List (Int × Int))) (n : Nat) (w : World) (Hn : Hid (n = L.length)) (hn : n ≤ 1048576) (hL : Hid (∀ i, (crow L i).length ≤ 1048576))
    (h : OwnCS w base (.slice (some ⟨g, 0, none⟩) n cap) X (mcs L n)) :
    Calls Try.prog 38 #[.slice (some ⟨g, 0, none⟩) n cap, .int .i64 1] w fun e w' => e = .returned (.int .i64 (1 + (cctot L n : Int))) ∧ w = w' := by
  have Hh := Lib.hid h
  clear h
  go_enter Try.func38, Try.ntmps38
  go_wp2_with fail
  go_loop [1, 5] (fun k i => ∃ j : Nat, j ≤ n ∧ i = .int .i64 j ∧ k = .int .i64 (1 + (cctot L j : Int))) (fun _ i => n - (intOf i).toNat)
  case atStart => exact ⟨0, Nat.zero_le _, rfl, by simp [cctot]⟩
  case round =>
    obtain ⟨j, hj, rfl, rfl⟩ := hrel
    by_cases hlt : j < n
    · have hjL : j < L.length := by rw [← Hn.out]; exact hlt
      obtain ⟨a, c, hx, hc, ho⟩ := Hh.out.cellOf (by rw [mcs_length]; exact Hn.out) j (by rw [mcs_length]; exact hjL)
      have hrow : crow (mcs L n) j = marks (1 + (cctot L j : Int)) (crow L j) (crow L j).length := by simp [crow, List.getD_eq_getElem?_getD, mcs_row hjL, hlt]
      have hrl : (crow (mcs L n) j).length = (crow L j).length := by rw [hrow, marks_length]
      rw [hrl] at hx hc ho
      rw [hrow] at ho
      have hct := cctot_le hL.out j
      have hlr := hL.out j
      have Hm := Lib.hid (heldCallS_any base (.slice a (crow L j).length c) (crow L j) _ w (1 + (cctot L j : Int)) (by omega) (by omega) rfl (by omega) ho)
      have Hsucc : Hid (cctot L (j + 1) = cctot L j + 2 * (crow L j).length) := rfl
      clear hx ho hrow hrl
      go_wp2_with fail
      refine Hm.out.mono ?_
      rintro e w2 ⟨rfl, rfl⟩
      go_wp2_with fail
      go_round
      case rel => exact ⟨j + 1, by omega, by go_num, by rw [Hsucc.out]; go_num⟩
      case measure => simp [intOf]; omega
    · obtain rfl : j = n := by omega
      go_wp2_with fail
      go_ret
      exact ⟨rfl, rfl⟩

theorem heldCallSS_zero (ao : Option Addr) (cap : Nat) (w : World) :
    Calls Try.prog 38 #[.slice ao 0 cap, .int .i64 1] w fun e w' => e = .returned (.int .i64 1) ∧ w = w' := by
  go_enter Try.func38, Try.ntmps38
  go_wp2_with fail
  go_rounds 1
  go_ret
  exact ⟨rfl, rfl⟩

theorem heldCallSS_any (base : Nat) (v : Value) (X : List Value) (L : List (List (Int × Int))) (w : World) (hn : L.length ≤ 1048576) (hL : ∀ i, (crow L i).length ≤ 1048576) (h : OwnCS w base v X (mcs L L.length)) :
    Calls Try.prog 38 #[v, .int .i64 1] w fun e w' => e = .returned (.int .i64 (1 + (cctot L L.length : Int))) ∧ w = w' := by
  by_cases h0 : L.length = 0
  · have hL0 : L = [] := List.eq_nil_of_length_eq_zero h0
    subst hL0
    obtain ⟨ao, cap, rfl, _⟩ := h.reads
    exact heldCallSS_zero ao cap w
  · obtain ⟨g, cap, rfl, hbg⟩ := h.outer (by rw [mcs_length]; omega)
    rw [mcs_length] at h ⊢
    exact heldCallSS_pos base g cap X L _ w rfl hn hL h

theorem own_same {w w' : World} {base : Nat} {e : TypeId} {size : Nat} {v : Value} {n : Nat} {xs : List Value} (h : w.ownsRow base e size v n xs) (he : ∀ k, v.ownBlock = some k → w'.heap[k]? = w.heap[k]?) : w'.ownsRow base e size v n xs := by
  refine ⟨h.1, ?_⟩
  rcases h.2 with hn | ⟨g, cap, cur, rfl, hbg, hgg, rest⟩
  · exact .inl hn
  · exact .inr ⟨g, cap, cur, rfl, hbg, by rw [he g rfl]; exact hgg, rest⟩

theorem OwnCS.store {w : World} {base g n cap : Nat} {X : List Value} {L : List (List (Int × Int))} (h : OwnCS w base (.slice (some ⟨g, 0, none⟩) n cap) X L) (hn : n = L.length) (j : Nat) (hj : j < L.length) (x : Value) (l : List (Int × Int))
    (hx : w.ownsRow base 83 2 x l.length (cs l)) (hxv : ∀ b, x.ownBlock = some b → b ≠ g) (hxX : ∀ (i : Nat) (y : Value) (b : Nat), X[i]? = some y → y.ownBlock = some b → x.ownBlock ≠ some b) :
    OwnCS (w.setCell ⟨g, j, none⟩ x) base (.slice (some ⟨g, 0, none⟩) n cap) (X.set j x) (L.set j l) := by
  subst hn
  have hXL := h.2.1
  have far : ∀ k, k ≠ g → (w.setCell ⟨g, j, none⟩ x).heap[k]? = w.heap[k]? := fun k hk => Below.heap_setCell _ _ _ _ (by simpa using hk)
  have h5 := (h.1.stored j x).1
  refine ⟨by rw [List.length_set]; exact h5, by simp [hXL], fun i y m hy hm => ?_, fun i k y z b hik hy hz hb => ?_⟩
  · by_cases hij : i = j
    · subst hij
      rw [List.getElem?_set_self (by rw [hXL]; exact hj)] at hy
      rw [List.getElem?_set_self hj] at hm
      obtain rfl : x = y := by simpa using hy
      obtain rfl : l = m := by simpa using hm
      refine ⟨own_same hx (fun k hk => far k (hxv k hk)), fun b hb e => hxv b hb ?_⟩
      simpa [Value.ownBlock] using e.symm
    · rw [List.getElem?_set_ne (Ne.symm hij)] at hy hm
      obtain ⟨h1, h2⟩ := h.2.2.1 i y m hy hm
      refine ⟨own_same h1 (fun k hk => far k ?_), h2⟩
      intro e
      exact h2 k hk (by rw [e]; rfl)
  · by_cases hij : i = j
    · subst hij
      rw [List.getElem?_set_self (by have := (List.getElem?_eq_some_iff.1 hy).1; simpa using this)] at hy
      obtain rfl : x = y := by simpa using hy
      rw [List.getElem?_set_ne (by omega)] at hz
      intro e
      exact hxX k z b hz e hb
    · rw [List.getElem?_set_ne (Ne.symm hij)] at hy
      by_cases hkj : k = j
      · subst hkj
        rw [List.getElem?_set_self (by have := (List.getElem?_eq_some_iff.1 hz).1; simpa using this)] at hz
        obtain rfl : x = z := by simpa using hz
        exact hxX i y b hy hb
      · rw [List.getElem?_set_ne (Ne.symm hkj)] at hz
        exact h.2.2.2 i k y z b hik hy hz hb

theorem grown_one (w : World) (g o : Nat) (u : Value) : w.grownBy (w.setCell ⟨g, o, none⟩ u) (some g) := grown_set ⟨rfl, rfl, rfl, Nat.le_refl _, fun _ _ _ => rfl⟩ o u

theorem zero_slices (n : Nat) : (madeCells #[.slice none 0 0] (n * 1)).toList = List.replicate n (.slice none 0 0) := by
  rw [Nat.mul_one, toList_madeCells_one]

theorem OwnCS.fresh {w : World} {base g F : Nat} (h : w.ownsRow base 46 1 (.slice (some ⟨g, 0, none⟩) F F) F (List.replicate F (.slice none 0 0))) : OwnCS w base (.slice (some ⟨g, 0, none⟩) F F) (List.replicate F (.slice none 0 0)) (List.replicate F []) := by
  refine ⟨by simpa using h, by simp, fun i x l hx hl => ?_, fun i j x y b _ hx _ hb => ?_⟩
  · obtain ⟨_, rfl⟩ : i < F ∧ (.slice none 0 0 : Value) = x := by simpa [List.getElem?_replicate] using hx
    obtain ⟨_, rfl⟩ : i < F ∧ ([] : List (Int × Int)) = l := by simpa [List.getElem?_replicate] using hl
    exact ⟨World.ownsRow_nil _ _ _ _, fun b hb => by cases hb⟩
  · obtain ⟨_, rfl⟩ : i < F ∧ (.slice none 0 0 : Value) = x := by simpa [List.getElem?_replicate] using hx
    cases hb

end Go.Proofs.Ytmgmkgjefplfdaa
