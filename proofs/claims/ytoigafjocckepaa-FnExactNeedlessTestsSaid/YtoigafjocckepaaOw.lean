/- Lists that are copied, lists of lists that are joined. -/
import Derived.Test.YtoigafjocckepaaGrow
import Derived.Laws.AppendOwnNone
namespace Go.Proofs.Ytoigafjocckepaa
open Go.ChangeShapes Go.WideShapes Go.ChangeAt Go.RowKit
set_option linter.unusedVariables false

theorem own_pos {w : World} {base n : Nat} {e : TypeId} {size : Nat} {v : Value} {xs : List Value} (h : w.ownsRow base e size v n xs) (h0 : 0 < n) : ∃ g cap, v = .slice (some ⟨g, 0, none⟩) n cap ∧ base ≤ g := by
  rcases h.2 with ⟨_, hh⟩ | ⟨g, cap, cur, rfl, hb, _⟩
  · omega
  · exact ⟨g, cap, rfl, hb⟩

theorem own_num {w : World} {base g n cap : Nat} {l : List Int} (h : w.ownsRow base 3 1 (.slice (some ⟨g, 0, none⟩) n cap) n (ns l)) (hn : n = l.length) (j : Nat) (hj : j < n) : w.cell? ⟨g, j, none⟩ = some (.int .i64 (na l j)) := by
  have h1 := h.cellAt j (by omega)
  rw [ns_get l j (by omega)] at h1
  exact h1

/-- All blocks of a row of rows lie below a bound. -/
def SSlt (v : Value) (X : List Value) (B : Nat) : Prop := ∀ b, (v.ownBlock = some b ∨ ∃ (i : Nat) (y : Value), X[i]? = some y ∧ y.ownBlock = some b) → b < B

theorem OwnSS.lt {w : World} {base : Nat} {v : Value} {X : List Value} {L : List (List Int)} (h : OwnSS w base v X L) : SSlt v X w.heap.size := by
  rintro b (hb | ⟨i, y, hy, hb⟩)
  · exact (h.1.lt b hb).2
  · have hi := (List.getElem?_eq_some_iff.1 hy).1
    exact ((h.2.2.1 i y _ hy (List.getElem?_eq_getElem (by rw [← h.2.1]; exact hi))).1.lt b hb).2

theorem OwnSS.kept2 {w w' : World} {base : Nat} {v : Value} {X : List Value} {L : List (List Int)} {r : Option Nat} {B : Nat} (h : OwnSS w base v X L) (hgr : w.grownBy w' r) (hl : SSlt v X B) (hr : ∀ b, r = some b → B ≤ b) : OwnSS w' base v X L := by
  have key : ∀ (y : Value), (v = y ∨ ∃ i : Nat, X[i]? = some y) → y.ownBlock = none ∨ y.ownBlock ≠ r := by
    intro y hy
    cases hq : y.ownBlock with
    | none => exact .inl rfl
    | some b =>
      refine .inr (fun e => ?_)
      have h2 := hr b e.symm
      have h1 : b < B := by
        rcases hy with rfl | ⟨i, hi⟩
        · exact hl b (.inl hq)
        · exact hl b (.inr ⟨i, y, hi, hq⟩)
      omega
  exact ⟨h.1.kept hgr (key v (.inl rfl)), h.2.1, fun i x l hx hl' => ⟨(h.2.2.1 i x l hx hl').1.kept hgr (key x (.inr ⟨i, hx⟩)), (h.2.2.1 i x l hx hl').2⟩, h.2.2.2⟩

theorem own_apos' {w : World} {base : Nat} {e : TypeId} {size : Nat} {v : Value} {n : Nat} {xs : List Value} (h : w.ownsRow base e size v n xs) (hn : 0 < n) : ∃ g cap, v = .slice (some ⟨g, 0, none⟩) n cap := by
  rcases h.2 with ⟨_, h0⟩ | ⟨g, cap, cur, rfl, _⟩
  · omega
  · exact ⟨g, cap, rfl⟩

theorem l1Own_pos (b off cap n : Nat) (l : List Int) (w : World) (Hn : Hid (n = l.length)) (h0 : 0 < n) (hl : n ≤ 1048576) (Hc : Hid (∀ i, i < n → w.cell? ⟨b, off + i, none⟩ = some (.int .i64 (na l i)))) :
    Calls Try.prog 77 #[.slice (some ⟨b, off, none⟩) n cap] w fun e w' => ∃ g cap', e = .returned (.slice (some ⟨g, 0, none⟩) n cap') ∧ w'.ownsRow w.heap.size 3 1 (.slice (some ⟨g, 0, none⟩) n cap') n (ns l) ∧ Below w.heap.size w w' := by
  obtain ⟨i0, hi, hz0, hz1, hz2⟩ := info_parts info3
  have hown0 : (w.alloc (.cells #[] 3)).ownsRow w.heap.size 3 1 (.slice (some ⟨w.heap.size, 0, none⟩) 0 0) 0 [] := World.ownsRow_lit w #[] 0 (Nat.le_refl _) (by unfold maxLen; omega) rfl
  have Hown0 := Lib.hid hown0
  clear hown0
  have hbw : ∀ j u, (ns l)[j]? = some u → (w.alloc (.cells #[] 3)).cell? ((⟨b, off, none⟩ : Addr).add j) = some u := by
    intro j u hu
    have hj : j < n := by have := (List.getElem?_eq_some_iff.1 hu).1; rw [ns_length] at this; rw [Hn.out]; exact this
    have hc := Hc.out j hj
    rw [ns_get l j (by rw [← Hn.out]; exact hj)] at hu
    have ha : (⟨b, off, none⟩ : Addr).add j = ⟨b, off + j, none⟩ := by unfold Addr.add; split <;> simp_all
    rw [ha]
    have hb : b < w.heap.size := World.block_lt_of_cell? w _ hc
    rw [World.cell?_of_block (w := w) (Below.heap_alloc w _ _ hb), hc]
    exact hu
  have Hbw := Lib.hid hbw
  clear hbw
  go_enter Try.func77, Try.ntmps77
  go_wp2_with (at_builtin; refine wpList_append_own _ rfl _ _ 36 rfl w.heap.size 3 i0 (.int .i64 0) 1 8 Try.underlying36 hi hz0 hz1 hz2 rfl (by decide) _ _ _ rfl Hown0.out ⟨b, off, none⟩ n cap (ns l) rfl ?c0 ?c1 ?c2 ?c3 ?c4 ?c5 ?_)
  case c0 => rw [ns_length, Nat.mul_one, ← Hn.out]
  case c1 => exact Hbw.out
  case c2 => exact ns_one _
  case c3 => unfold maxLen; omega
  case c4 => omega
  case c5 => simp
  intro v' w1 hown' hgr hnil
  have Hs := Lib.hid (own_apos' hown' h0)
  obtain ⟨g, cap', hv⟩ := Hs.out
  rw [hv] at hown'
  have Hown := Lib.hid hown'
  have Hbel := Lib.hid (((Below.refl w.heap.size w).alloc (Nat.le_refl _) (.cells #[] 3)).grown hgr (by simp) (fun b hb => (Hown0.out.lt b hb).1))
  rw [hv]
  clear hown' hgr hv Hs hnil
  go_wp2_with fail
  go_ret
  exact ⟨g, cap', rfl, Hown.out, Hbel.out⟩

theorem eql_nil (a : Option Addr) (n c : Nat) (w : World) : (binOp .eql 36 (.slice a n c) (.slice none 0 0)).run Try.prog w = .ok (.bool a.isNone) w := by
  have := run_equal_slice_nil (P := Try.prog) (w := w) 36 3 a n c Try.underlying36
  simp [binOp, this]

theorem l1Own_nil (w : World) : Calls Try.prog 77 #[.slice none 0 0] w fun e w' => ∃ v, e = .returned v ∧ w'.ownsRow w.heap.size 3 1 v 0 (ns []) ∧ Below w.heap.size w w' := by
  obtain ⟨i0, hi, hz0, hz1, hz2⟩ := info_parts info3
  have Hown0 : Hid ((w.alloc (.cells #[] 3)).ownsRow w.heap.size 3 1 (.slice (some ⟨w.heap.size, 0, none⟩) 0 0) 0 []) := World.ownsRow_lit w #[] 0 (Nat.le_refl _) (by unfold maxLen; omega) rfl
  go_enter Try.func77, Try.ntmps77
  go_wp2_with (at_builtin; refine wpList_append_own_none rfl _ _ 36 rfl w.heap.size 3 i0 1 Try.underlying36 hi _ _ _ rfl Hown0.out rfl ?_)
  go_ret
  exact ⟨_, rfl, Hown0.out, (Below.refl _ _).alloc (Nat.le_refl _) _⟩

/-- A list of one's own copied, by the model. -/
theorem l1Own_any (base : Nat) (v : Value) (l : List Int) (n : Nat) (w : World) (Hn : Hid (n = l.length)) (hl : n ≤ 1000) (h : w.ownsRow base 3 1 v n (ns l)) (h0 : n = 0 → v = .slice none 0 0) :
    Calls Try.prog 77 #[v] w fun e w' => ∃ v', e = .returned v' ∧ w'.ownsRow w.heap.size 3 1 v' n (ns l) ∧ Below w.heap.size w w' := by
  by_cases hz : n = 0
  · have hv := h0 hz
    subst hv
    subst hz
    obtain rfl : l = [] := List.eq_nil_of_length_eq_zero Hn.out.symm
    exact l1Own_nil w
  · obtain ⟨g, cap, rfl, hb⟩ := own_pos h (by omega)
    refine (l1Own_pos g 0 cap n l w Hn (by omega) (by omega) (fun i hi => by rw [Nat.zero_add]; exact own_num h Hn.out i hi)).mono ?_
    rintro e w' ⟨g', cap', rfl, hO, hb⟩
    exact ⟨_, rfl, hO, hb⟩

/-- One list of lists behind another one. -/
theorem OwnSS.concat {w w' : World} {base b2 : Nat} {v v2 v' : Value} {X X2 : List Value} {L L2 : List (List Int)} {H : Nat}
    (h : OwnSS w base v X L) (h2 : OwnSS w b2 v2 X2 L2) (hb : base ≤ b2) (hlt : SSlt v X b2)
    (hgr : w.grownBy w' v.ownBlock) (hown : w'.ownsRow base 36 1 v' (L.length + L2.length) (X ++ X2)) (hat : v'.ownBlock = v.ownBlock ∨ v'.ownBlock = some H) (hH : w.heap.size ≤ H) :
    OwnSS w' base v' (X ++ X2) (L ++ L2) := by
  have hXL := h.2.1
  have hXL2 := h2.2.1
  have ge2 : ∀ (i : Nat) (y : Value) (b : Nat), X2[i]? = some y → y.ownBlock = some b → b2 ≤ b ∧ b < w.heap.size := fun i y b hy hb => by
    have hi := (List.getElem?_eq_some_iff.1 hy).1
    exact (h2.2.2.1 i y _ hy (List.getElem?_eq_getElem (by rw [← hXL2]; exact hi))).1.lt b hb
  refine ⟨by rw [List.length_append]; exact hown, by simp [hXL, hXL2], ?_, ?_⟩
  · intro i y m hy hm
    by_cases hi : i < X.length
    · rw [List.getElem?_append_left hi] at hy
      rw [List.getElem?_append_left (by omega)] at hm
      obtain ⟨h3, h4⟩ := h.2.2.1 i y m hy hm
      refine ⟨h3.kept hgr ?_, fun b hb => ?_⟩
      · cases hq : y.ownBlock with
        | none => exact .inl rfl
        | some b => exact .inr (fun e => h4 b hq e.symm)
      · rcases hat with e | e
        · rw [e]; exact h4 b hb
        · rw [e]; intro hc; cases hc; have := (h3.lt _ hb).2; omega
    · rw [List.getElem?_append_right (by omega)] at hy
      rw [List.getElem?_append_right (by omega), ← hXL] at hm
      obtain ⟨h3, h4⟩ := h2.2.2.1 _ y m hy hm
      refine ⟨own_base hb (h3.kept hgr ?_), fun b hb => ?_⟩
      · cases hq : y.ownBlock with
        | none => exact .inl rfl
        | some b => exact .inr (fun e => by have h5 := (ge2 _ y b hy hq).1; have h6 := hlt b (.inl e.symm); omega)
      · have h5 := ge2 _ y b hy hb
        rcases hat with e | e
        · rw [e]; intro hc; have h6 := hlt b (.inl hc); omega
        · rw [e]; intro hc; cases hc; omega
  · intro i j y z b hij hy hz hb
    by_cases hj : j < X.length
    · rw [List.getElem?_append_left (by omega)] at hy
      rw [List.getElem?_append_left hj] at hz
      exact h.2.2.2 i j y z b hij hy hz hb
    · rw [List.getElem?_append_right (by omega)] at hz
      by_cases hi : i < X.length
      · rw [List.getElem?_append_left hi] at hy
        intro e
        have h5 := (ge2 _ z b hz e).1
        have h6 := hlt b (.inr ⟨i, y, hy, hb⟩)
        omega
      · rw [List.getElem?_append_right (by omega)] at hy
        exact h2.2.2.2 _ _ y z b (by omega) hy hz hb

/-- Many lists more. -/
theorem push_rows {P : Program} (w : World) {ops : Array Oper} {rest : List Oper} {o : Oper} {a : Act} {Q : Exit → Act → World → Prop} (hgd : o.guard = none) (s x : Operand) (t : TypeId)
    (ho : o.op = .call { callee := .builtin .append, args := #[s, x], argTypes := #[t, t] })
    (base : Nat) (i : TypeInfo) (ht : P.underlying t = some (.slice 36)) (hi : P.info? 36 = some i) (hz : i.zero = some (.slice none 0 0))
    (hsize : i.size = 1) (hby : i.bytes = 24)
    (v : Value) (X : List Value) (L : List (List Int)) (k : Nat) (hk : L.length = k) (hs : a.eval s = v) (hown : OwnSS w base v X L) (hsml : k ≤ 100000000)
    (b2 g2 c : Nat) (X2 : List Value) (L2 : List (List Int)) (m : Nat) (hm : L2.length = m) (h2 : OwnSS w b2 (.slice (some ⟨g2, 0, none⟩) m c) X2 L2) (hb : base ≤ b2) (hlt : SSlt v X b2) (hm0 : 0 < m) (hsm2 : m ≤ 100000000)
    (hx : a.eval x = .slice (some ⟨g2, 0, none⟩) m c) (hbase : base ≤ w.heap.size)
    (h : ∀ v' w', OwnSS w' base v' (X ++ X2) (L ++ L2) → w.grownBy w' v.ownBlock → wpList P ops Q rest (a.put o.dst v') w') : wpList P ops Q (o :: rest) a w := by
  subst hm
  have hX2 := h2.2.1
  refine wpList_append_lies w hgd s x t ho base 36 i (.slice none 0 0) 1 24 ht hi hz hsize hby rfl (by decide) v k X hs (by rw [← hk]; exact hown.1) ⟨g2, 0, none⟩ L2.length c X2 hx (by omega) ?_ ?_ hm0 (by unfold maxLen; omega) (by omega) hbase w.heap.size rfl ?_
  · intro j u hu
    have hj := (List.getElem?_eq_some_iff.1 hu).1
    have hc := h2.1.cellAt j (by omega)
    rw [hu] at hc
    rw [show (⟨g2, 0, none⟩ : Addr).add j = ⟨g2, j, none⟩ by unfold Addr.add; split <;> simp_all]
    exact hc
  · intro u hu
    obtain ⟨j, hj, e⟩ := List.getElem_of_mem hu
    have hu2 : X2[j]? = some u := by rw [List.getElem?_eq_getElem hj, e]
    obtain ⟨h3, _⟩ := h2.2.2.1 j u _ hu2 (List.getElem?_eq_getElem (by rw [← hX2]; exact hj))
    obtain ⟨ao, cap, rfl, _⟩ := nums_shape h3 rfl
    rfl
  · intro g cap w' hown' hgr hat _
    refine h _ w' (OwnSS.concat (v' := .slice (some ⟨g, 0, none⟩) (k + L2.length) cap) (H := w.heap.size) hown h2 hb hlt hgr (by rw [hk]; exact hown') ?_ (Nat.le_refl _)) hgr
    rcases hat with e | e
    · exact .inl e.symm
    · exact .inr (by rw [e]; rfl)

end Go.Proofs.Ytoigafjocckepaa
