/- Lists that grow. -/
import Derived.Test.YtnhkabhchepieaaDoorRows2
import Derived.Deep.CutRange
import Derived.Deep.RegionWith
namespace Go.Proofs.YtnhkabhchepieaaDoor
open Go.ChangeShapes Go.WideShapes Go.ChangeAt Go.RowKit
set_option linter.unusedVariables false


theorem own_same {w w' : World} {base : Nat} {e : TypeId} {size : Nat} {v : Value} {n : Nat} {xs : List Value} (h : w.ownsRow base e size v n xs) (he : ∀ k, v.ownBlock = some k → w'.heap[k]? = w.heap[k]?) : w'.ownsRow base e size v n xs := by
  refine ⟨h.1, ?_⟩
  rcases h.2 with hn | ⟨g, cap, cur, rfl, hbg, hgg, rest⟩
  · exact .inl hn
  · exact .inr ⟨g, cap, cur, rfl, hbg, by rw [he g rfl]; exact hgg, rest⟩

theorem OwnSS.store {w : World} {base g n cap : Nat} {X : List Value} {L : List (List Int)} (h : OwnSS w base (.slice (some ⟨g, 0, none⟩) n cap) X L) (hn : n = L.length) (j : Nat) (hj : j < L.length) (x : Value) (l : List Int)
    (hx : w.ownsRow base 3 1 x l.length (ns l)) (hxv : ∀ b, x.ownBlock = some b → b ≠ g) (hxX : ∀ (i : Nat) (y : Value) (b : Nat), X[i]? = some y → y.ownBlock = some b → x.ownBlock ≠ some b) :
    OwnSS (w.setCell ⟨g, j, none⟩ x) base (.slice (some ⟨g, 0, none⟩) n cap) (X.set j x) (L.set j l) := by
  subst hn
  have hXL := h.2.1
  have far : ∀ k, k ≠ g → (w.setCell ⟨g, j, none⟩ x).heap[k]? = w.heap[k]? := fun k hk => Below.heap_setCell _ _ _ _ (by simpa using hk)
  have h5 := (h.1.stored j x).1
  refine ⟨by rw [List.length_set]; exact h5, by simp [hXL], fun i y m hy hm => ?_, fun i k y z b hik hy hz hb => ?_⟩
  · by_cases hij : i = j
    · subst hij
      rw [List.getElem?_set_self (by rw [hXL]; exact hj)] at hy
      rw [List.getElem?_set_self hj] at hm
      obtain rfl : x = y := by simpa using hy
      obtain rfl : l = m := by simpa using hm
      refine ⟨own_same hx (fun k hk => far k (hxv k hk)), fun b hb e => hxv b hb ?_⟩
      simpa [Value.ownBlock] using e.symm
    · rw [List.getElem?_set_ne (Ne.symm hij)] at hy hm
      obtain ⟨h1, h2⟩ := h.2.2.1 i y m hy hm
      refine ⟨own_same h1 (fun k hk => far k ?_), h2⟩
      intro e
      exact h2 k hk (by rw [e]; rfl)
  · by_cases hij : i = j
    · subst hij
      rw [List.getElem?_set_self (by have := (List.getElem?_eq_some_iff.1 hy).1; simpa using this)] at hy
      obtain rfl : x = y := by simpa using hy
      rw [List.getElem?_set_ne (by omega)] at hz
      intro e
      exact hxX k z b hz e hb
    · rw [List.getElem?_set_ne (Ne.symm hij)] at hy
      by_cases hkj : k = j
      · subst hkj
        rw [List.getElem?_set_self (by have := (List.getElem?_eq_some_iff.1 hz).1; simpa using this)] at hz
        obtain rfl : x = z := by simpa using hz
        exact hxX i y b hy hb
      · rw [List.getElem?_set_ne (Ne.symm hkj)] at hz
        exact h.2.2.2 i k y z b hik hy hz hb


theorem grown_one (w : World) (g o : Nat) (u : Value) : w.grownBy (w.setCell ⟨g, o, none⟩ u) (some g) := grown_set ⟨rfl, rfl, rfl, Nat.le_refl _, fun _ _ _ => rfl⟩ o u

theorem zero_slices (n : Nat) : (madeCells #[.slice none 0 0] (n * 1)).toList = List.replicate n (.slice none 0 0) := by
  rw [Nat.mul_one, toList_madeCells_one]

/-- One of the rounds has grown, and its slice is stored anew. -/
theorem OwnSS.replace {w w9 : World} {base g n cap H : Nat} {X : List Value} {L : List (List Int)} (h : OwnSS w base (.slice (some ⟨g, 0, none⟩) n cap) X L) (hn : n = L.length) (j : Nat) (hj : j < L.length) (x x' : Value) (l' : List Int) (hx : X[j]? = some x)
    (hgr : w.grownBy w9 x.ownBlock) (hown : w9.ownsRow base 3 1 x' l'.length (ns l')) (hat : x'.ownBlock = x.ownBlock ∨ x'.ownBlock = some H) (hH : w.heap.size ≤ H) :
    OwnSS (w9.setCell ⟨g, j, none⟩ x') base (.slice (some ⟨g, 0, none⟩) n cap) (X.set j x') (L.set j l') := by
  subst hn
  have hXL := h.2.1
  have hxl := h.2.2.1 j x L[j] hx (List.getElem?_eq_getElem hj)
  have hgx : ∀ b, x.ownBlock = some b → g ≠ b := fun b hb e => hxl.2 b hb (by rw [e]; rfl)
  have hglt : g < w.heap.size := (h.1.lt g rfl).2
  have hrest : ∀ i y b, i ≠ j → X[i]? = some y → y.ownBlock = some b → x.ownBlock ≠ some b ∧ b < w.heap.size := by
    intro i y b hij hy hb
    have hi := (List.getElem?_eq_some_iff.1 hy).1
    have h2 := (h.2.2.1 i y _ hy (List.getElem?_eq_getElem (by rw [← hXL]; exact hi))).1.lt b hb
    refine ⟨fun e => ?_, h2.2⟩
    rcases Nat.lt_or_gt_of_ne hij with hlt | hlt
    · exact h.2.2.2 i j y x b hlt hy hx hb e
    · exact h.2.2.2 j i x y b hlt hx hy e hb
  have hg' : ∀ b, x'.ownBlock = some b → b ≠ g := by
    intro b hb
    rcases hat with e | e
    · rw [e] at hb; exact Ne.symm (hgx b hb)
    · rw [e] at hb; cases hb; omega
  have far : ∀ k, k ≠ g → (w9.setCell ⟨g, j, none⟩ x').heap[k]? = w9.heap[k]? := fun k hk => Below.heap_setCell _ _ _ _ (by simpa using hk)
  have h1 : w9.ownsRow base 49 1 (.slice (some ⟨g, 0, none⟩) L.length cap) L.length X := h.1.kept hgr (.inr (fun e => by
    have : x.ownBlock = some g := e.symm
    exact hgx g this rfl))
  have h5 := (h1.stored j x').1
  refine ⟨by rw [List.length_set]; exact h5, by simp [hXL], fun i y m hy hm => ?_, fun i k y z b hik hy hz hb => ?_⟩
  · by_cases hij : i = j
    · subst hij
      rw [List.getElem?_set_self (by rw [hXL]; exact hj)] at hy
      rw [List.getElem?_set_self hj] at hm
      obtain rfl : x' = y := by simpa using hy
      obtain rfl : l' = m := by simpa using hm
      refine ⟨own_same hown (fun k hk => far k (hg' k hk)), fun b hb e => hg' b hb ?_⟩
      simpa [Value.ownBlock] using e.symm
    · rw [List.getElem?_set_ne (Ne.symm hij)] at hy hm
      obtain ⟨h2, h3⟩ := h.2.2.1 i y m hy hm
      refine ⟨own_same (h2.kept hgr ?_) (fun k hk => far k ?_), h3⟩
      · cases hq : y.ownBlock with
        | none => exact .inl rfl
        | some b => exact .inr (fun e => (hrest i y b hij hy hq).1 e.symm)
      · intro e
        exact h3 k hk (by rw [e]; rfl)
  · have new : ∀ i y b, i ≠ j → X[i]? = some y → y.ownBlock = some b → x'.ownBlock ≠ some b := by
      intro i y b hij hy hb e
      have h3 := hrest i y b hij hy hb
      rcases hat with e2 | e2
      · rw [e2] at e; exact h3.1 e
      · rw [e2] at e; cases e; omega
    by_cases hij : i = j
    · subst hij
      rw [List.getElem?_set_self (by have := (List.getElem?_eq_some_iff.1 hy).1; simpa using this)] at hy
      obtain rfl : x' = y := by simpa using hy
      rw [List.getElem?_set_ne (by omega)] at hz
      intro e
      exact new k z b (by omega) hz e hb
    · rw [List.getElem?_set_ne (Ne.symm hij)] at hy
      by_cases hkj : k = j
      · subst hkj
        rw [List.getElem?_set_self (by have := (List.getElem?_eq_some_iff.1 hz).1; simpa using this)] at hz
        obtain rfl : x' = z := by simpa using hz
        exact new i y b hij hy hb
      · rw [List.getElem?_set_ne (Ne.symm hkj)] at hz
        exact h.2.2.2 i k y z b hik hy hz hb

/-- A round is appended to rounds: what grows. -/
theorem push_row {P : Program} (w : World) {ops : Array Oper} {rest : List Oper} {o : Oper} {a : Act} {Q : Exit → Act → World → Prop} (hgd : o.guard = none) (s x : Operand) (t : TypeId)
    (ho : o.op = .call { callee := .builtin .append, args := #[s, x], argTypes := #[t, t] })
    (base : Nat) (i : TypeInfo) (ht : P.underlying t = some (.slice 49)) (hi : P.info? 49 = some i) (hz : i.zero = some (.slice none 0 0))
    (hsize : i.size = 1) (hby : i.bytes = 24)
    (v : Value) (X : List Value) (L : List (List Int)) (k : Nat) (hk : L.length = k) (hs : a.eval s = v) (hown : OwnSS w base v X L) (hsml : k ≤ 1000000)
    (r : Value) (l : List Int) (hr : w.ownsRow base 3 1 r l.length (ns l)) (hrv : ∀ b, r.ownBlock = some b → v.ownBlock ≠ some b) (hrX : ∀ (i : Nat) (y : Value) (b : Nat), X[i]? = some y → y.ownBlock = some b → r.ownBlock ≠ some b)
    (c : Nat) (ad : Nat) (hx : a.eval x = .slice (some ⟨ad, 0, none⟩) 1 c) (had : w.cell? ⟨ad, 0, none⟩ = some r) (h1 : r.oneCell' = true) (hbase : base ≤ w.heap.size)
    (h : ∀ v' w', OwnSS w' base v' (X ++ [r]) (L ++ [l]) → w.grownBy w' v.ownBlock → (v'.ownBlock = v.ownBlock ∨ v'.ownBlock = some w.heap.size) → wpList P ops Q rest (a.put o.dst v') w') : wpList P ops Q (o :: rest) a w := by
  refine wpList_append_lies w hgd s x t ho base 49 i (.slice none 0 0) 1 24 ht hi hz hsize hby rfl (by decide) v k X hs (by rw [← hk]; exact hown.1) ⟨ad, 0, none⟩ 1 c [r] hx rfl ?_ ?_ (by omega) (by unfold maxLen; omega) (by omega) hbase w.heap.size rfl ?_
  · intro j u hu
    cases j with
    | zero => simp at hu; subst hu; exact had
    | succ j => simp at hu
  · intro u hu
    simp at hu
    subst hu
    exact h1
  · intro g cap w' hown' hgr hat _
    have hat2 : (Value.slice (some ⟨g, 0, none⟩) (k + 1) cap).ownBlock = v.ownBlock ∨ (Value.slice (some ⟨g, 0, none⟩) (k + 1) cap).ownBlock = some w.heap.size := by
      rcases hat with e | e
      · exact .inl e.symm
      · exact .inr (by rw [e]; rfl)
    exact h _ w' (OwnSS.push (v' := .slice (some ⟨g, 0, none⟩) (k + 1) cap) (H := w.heap.size) hown hr hrv hrX hgr (by rw [hk]; exact hown') hat2 (Nat.le_refl _)) hgr hat2


/-- One number more. -/
theorem push_num {P : Program} (w : World) {ops : Array Oper} {rest : List Oper} {o : Oper} {a : Act} {Q : Exit → Act → World → Prop} (hgd : o.guard = none) (s x : Operand) (t : TypeId)
    (ho : o.op = .call { callee := .builtin .append, args := #[s, x], argTypes := #[t, t] })
    (base : Nat) (i : TypeInfo) (ht : P.underlying t = some (.slice 3)) (hi : P.info? 3 = some i) (hz : i.zero = some (.int .i64 0))
    (hsize : i.size = 1) (hby : i.bytes = 8)
    (v : Value) (l : List Int) (k : Nat) (hs : a.eval s = v) (hown : w.ownsRow base 3 1 v k (ns l)) (hsml : k ≤ 1000000)
    (r : Int) (c : Nat) (ad : Nat) (hx : a.eval x = .slice (some ⟨ad, 0, none⟩) 1 c) (had : w.cell? ⟨ad, 0, none⟩ = some (.int .i64 r)) (hbase : base ≤ w.heap.size)
    (h : ∀ g cap w', w'.ownsRow base 3 1 (.slice (some ⟨g, 0, none⟩) (k + 1) cap) (k + 1) (ns (l ++ [r])) → w.grownBy w' v.ownBlock → (v.ownBlock = some g ∨ g = w.heap.size) → wpList P ops Q rest (a.put o.dst (.slice (some ⟨g, 0, none⟩) (k + 1) cap)) w') : wpList P ops Q (o :: rest) a w := by
  refine wpList_append_lies w hgd s x t ho base 3 i (.int .i64 0) 1 8 ht hi hz hsize hby rfl (by decide) v k (ns l) hs hown ⟨ad, 0, none⟩ 1 c [.int .i64 r] hx rfl ?_ ?_ (by omega) (by unfold maxLen; omega) (by omega) hbase w.heap.size rfl ?_
  · intro j u hu
    cases j with
    | zero => simp at hu; subst hu; exact had
    | succ j => simp at hu
  · intro u hu
    simp at hu
    subst hu
    rfl
  · intro g cap w' hown' hgr hat _
    exact h g cap w' (by rw [ns_append_one]; exact hown') hgr hat

theorem OwnSS.fresh {w : World} {base g F : Nat} (h : w.ownsRow base 49 1 (.slice (some ⟨g, 0, none⟩) F F) F (List.replicate F (.slice none 0 0))) : OwnSS w base (.slice (some ⟨g, 0, none⟩) F F) (List.replicate F (.slice none 0 0)) (List.replicate F []) := by
  refine ⟨by simpa using h, by simp, fun i x l hx hl => ?_, fun i j x y b _ hx _ hb => ?_⟩
  · obtain ⟨_, rfl⟩ : i < F ∧ (.slice none 0 0 : Value) = x := by simpa [List.getElem?_replicate] using hx
    obtain ⟨_, rfl⟩ : i < F ∧ ([] : List Int) = l := by simpa [List.getElem?_replicate] using hl
    exact ⟨World.ownsRow_nil _ _ _ _, fun b hb => by cases hb⟩
  · obtain ⟨_, rfl⟩ : i < F ∧ (.slice none 0 0 : Value) = x := by simpa [List.getElem?_replicate] using hx
    cases hb

structure NewRow (base : Nat) (v : Value) (X : List Value) (L : List (List Int)) (r : Value) (l : List Int) (ad : Nat) (w2 : World) : Prop where
  own : OwnSS w2 base v X L
  new : w2.ownsRow base 3 1 r l.length (ns l)
  hv : ∀ b, r.ownBlock = some b → v.ownBlock ≠ some b
  hX : ∀ (i : Nat) (u : Value) (b : Nat), X[i]? = some u → u.ownBlock = some b → r.ownBlock ≠ some b
  cell : w2.cell? ⟨ad, 0, none⟩ = some r
  size : base ≤ w2.heap.size

/-- A list made behind those that there are, laid by for an append. -/
theorem newRow {w : World} {base : Nat} {v : Value} {X : List Value} {L : List (List Int)} (h : OwnSS w base v X L) (hs : base ≤ w.heap.size) {w1 : World} (hb : Below w.heap.size w w1) {r : Value} {l : List Int} (hr : w1.ownsRow w.heap.size 3 1 r l.length (ns l)) :
    NewRow base v X L r l w1.heap.size (w1.alloc (.cells #[r] 49)) := by
  have bd := (Below.refl w1.heap.size w1).alloc (Nat.le_refl _) (.cells #[r] 49)
  have hs2 := hb.size
  refine ⟨(h.later hb).alloc _, own_base hs (own_later hr bd), fun b e hb2 => ?_, fun i u b hu hb2 e => ?_, ?_, by simp; omega⟩
  · have h1 := (h.1.lt b hb2).2
    have h2 := (hr.lt b e).1
    omega
  · have hi := (List.getElem?_eq_some_iff.1 hu).1
    have h1 := ((h.2.2.1 i u _ hu (List.getElem?_eq_getElem (by rw [← h.2.1]; exact hi))).1.lt b hb2).2
    have h2 := (hr.lt b e).1
    omega
  · rw [cell_of_row _ _ _ _ _ _ (heap_alloc_new w1 (.cells #[r] 49))]; rfl

theorem litRow (w : World) (x : Int) : (w.alloc (.cells #[.int .i64 x] 3)).ownsRow w.heap.size 3 1 (.slice (some ⟨w.heap.size, 0, none⟩) 1 1) [x].length (ns [x]) :=
  World.ownsRow_lit (base := w.heap.size) (e := 3) (size := 1) w #[.int .i64 x] 1 (Nat.le_refl _) (by unfold maxLen; omega) rfl

end Go.Proofs.YtnhkabhchepieaaDoor
