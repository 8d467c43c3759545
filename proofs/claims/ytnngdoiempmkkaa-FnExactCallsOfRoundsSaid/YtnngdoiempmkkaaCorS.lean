/- The calls of rounds: the model. -/
import Derived.Test.YtnngdoiempmkkaaRndS2
import Derived.Test.YtnngdoiempmkkaaOpen
namespace Go.Proofs.Ytnngdoiempmkkaa
open Go.ChangeShapes Go.WideShapes Go.ChangeAt Go.RowKit
set_option linter.unusedVariables false


def flat (L : List (List (Int × Int))) (k : Nat) : List (Int × Int) := (L.take k).flatten
theorem flat_zero (L : List (List (Int × Int))) : flat L 0 = [] := by simp [flat]
theorem flat_succ (L : List (List (Int × Int))) (k : Nat) (h : k < L.length) : flat L (k + 1) = flat L k ++ crow L k := by
  unfold flat
  rw [List.take_succ_eq_append_getElem h, crow_get h]
  simp
theorem flat_all (L : List (List (Int × Int))) : flat L L.length = L.flatten := by simp [flat]
theorem flat_len {L : List (List (Int × Int))} (h : ∀ i, (crow L i).length ≤ 10) : ∀ k, k ≤ L.length → (flat L k).length ≤ 10 * k
  | 0, _ => by simp [flat]
  | k + 1, hk => by
    have ih := flat_len h k (by omega)
    have := h k
    rw [flat_succ L k (by omega), List.length_append]
    omega
theorem rnds_short {f : Int} {L : List (List (Int × Int))} (h : rndsB f L = true) (i : Nat) : (crow L i).length ≤ 10 := by
  by_cases hi : i < L.length
  · have hf := rnds_frB h
    have hff : 1 ≤ f ∧ f ≤ 10 := by simpa [frB] using hf
    exact rnd_len hff.2 (rnds_row h i hi)
  · rw [crow_none (by omega)]; simp

def corB (f : Int) (L : List (List (Int × Int))) : Bool := rndsB f L && decide (L.flatten.length ≤ 60)
def corR (f : Int) (L : List (List (Int × Int))) : List (Int × Int) := if corB f L then L.flatten else []
theorem corR_len (f : Int) (L : List (List (Int × Int))) : (corR f L).length ≤ 60 := by
  unfold corR
  cases h : corB f L
  · simp
  · simp only [corB, Bool.and_eq_true, decide_eq_true_eq] at h
    simpa using h.2

/-- A round is appended to what is owned. -/
theorem step_round {P : Program} (w : World) {ops : Array Oper} {rest : List Oper} {o : Oper} {a : Act} {Q : Exit → Act → World → Prop} (hgd : o.guard = none) (s x : Operand) (t : TypeId)
    (ho : o.op = .call { callee := .builtin .append, args := #[s, x], argTypes := #[t, t] })
    (base : Nat) (e : TypeId) (i : TypeInfo) (z : Value) (ht : P.underlying t = some (.slice e)) (hi : P.info? e = some i) (hz : i.zero = some z)
    (hsize : i.size = 2) (hby : i.bytes = 16) (hzs : z.cells.size = 2)
    (v : Value) (n : Nat) (xs : List (Int × Int)) (hs : a.eval s = v) (hown : w.ownsRow base e 2 v n (cs xs))
    (ao : Option Addr) (m c : Nat) (l : List (Int × Int)) (hx : a.eval x = .slice ao m c) (hm : m = l.length) (hc : CallsAt w ao l) (hnil : ao = none → c = 0)
    (hb1 : n + m ≤ 1000000) (hbase : base ≤ w.heap.size)
    (h : ∀ v' w', w'.ownsRow base e 2 v' (n + m) (cs (xs ++ l)) → Below base w w' → wpList P ops Q rest (a.put o.dst v') w') : wpList P ops Q (o :: rest) a w := by
  have hlow : ∀ k, v.ownBlock = some k → base ≤ k := fun k hk => (hown.lt k hk).1
  cases ao with
  | none =>
    have hc0 := hnil rfl
    subst hc0
    have hm0 : m = 0 := by
      rcases hc with h | ⟨b, off, h, _⟩
      · rw [hm, h]; rfl
      · cases h
    subst hm0
    have hl : l = [] := List.eq_nil_of_length_eq_zero hm.symm
    subst hl
    refine wpList_append_own_none hgd s x t ho base e i 2 ht hi v n (cs xs) hs hown hx ?_
    refine h v w ?_ (Below.refl _ _)
    simpa using hown
  | some ad =>
    have hnews : ∃ b off, ad = ⟨b, off, none⟩ ∨ l = [] := by
      rcases hc with h | ⟨b, off, h, _⟩
      · exact ⟨0, 0, .inr h⟩
      · exact ⟨b, off, .inl (by cases h; rfl)⟩
    refine wpList_append_own w hgd s x t ho base e i z 2 16 ht hi hz hsize hby hzs (by decide) v n (cs xs) hs hown ad m c (cs l) hx (by rw [cs_length, hm]) ?_ (cs_one l) (by unfold maxLen; omega) (by omega) hbase ?_
    · intro j u hj
      rcases hc with h | ⟨b, off, h, hcc⟩
      · subst h; simp [cs] at hj
      · cases h
        have hjl : j < l.length * 2 := by rw [← cs_length]; exact (List.getElem?_eq_some_iff.1 hj).1
        obtain ⟨q, hq⟩ : ∃ q, j = q * 2 ∨ j = q * 2 + 1 := ⟨j / 2, by omega⟩
        rw [add_at]
        rcases hq with rfl | rfl
        · rw [cs_even l q (by omega)] at hj
          rw [(hcc q (by omega)).1]
          exact hj
        · rw [cs_odd l q (by omega)] at hj
          rw [show off + (q * 2 + 1) = off + q * 2 + 1 by omega, (hcc q (by omega)).2]
          exact hj
    · intro v' w' h1 h2 _
      refine h v' w' (by rw [cs_append]; exact h1) ((Below.refl base w).grown h2 hbase hlow)

set_option maxRecDepth 20000 in
theorem specCOR_any (w : World) (f : Int) (ao : Option Addr) (cap : Nat) (L : List (List (Int × Int))) (n : Nat) (Hn : Hid (n = L.length)) (hm : n ≤ 9223372036854775807) (HL : Hid (∀ i, (crow L i).length ≤ 9223372036854775807)) (HA : Hid (RowsAt w ao L)) :
    Calls Try.prog 12 #[.int .i64 f, .slice ao n cap] w fun e w' => ∃ v, e = .returned (.tuple #[v, .bool (corB f L)]) ∧ w'.ownsRow w.heap.size 46 2 v (corR f L).length (cs (corR f L)) ∧ Below w.heap.size w w' := by
  cases hg : rndsB f L
  · have hB : corB f L = false := by simp [corB, hg]
    have hR : corR f L = [] := by simp [corR, hB]
    rw [hB, hR]
    have Hg := Lib.hid hg
    clear hg hB hR
    go_enter Try.func12, Try.ntmps12
    go_wp2_with fail
    refine (roGood_any f ao cap L n w Hn hm HL HA).mono ?_
    rintro e w1 ⟨rfl, hb⟩
    rw [Hg.out]
    go_wp2_with fail
    go_ret2
    exact ⟨.slice none 0 0, rfl, World.ownsRow_nil _ _ _ _, hb⟩
  · obtain ⟨i0, hi, hz0, hz1, hz2⟩ := info_parts info46
    have Hg := Lib.hid hg
    have Hsh := Lib.hid (rnds_short hg)
    have hn20 : n ≤ 20 := by have := rnds_len20 hg; rw [← Hn.out] at this; exact this
    have Hfl := Lib.hid (flat_len Hsh.out)
    have Hans : Hid ((L.flatten.length ≤ 60 → corB f L = true ∧ corR f L = L.flatten) ∧ (¬ L.flatten.length ≤ 60 → corB f L = false ∧ corR f L = [])) := Lib.hid ⟨fun h => by
      have hB : corB f L = true := by unfold corB; rw [hg, decide_eq_true h]; rfl
      exact ⟨hB, by simp [corR, hB]⟩, fun h => by
      have hB : corB f L = false := by simp only [corB, h]; simp
      exact ⟨hB, by simp [corR, hB]⟩⟩
    clear hg
    go_enter Try.func12, Try.ntmps12
    go_wp2_with fail
    refine (roGood_any f ao cap L n w Hn hm HL HA).mono ?_
    rintro e w1 ⟨rfl, hb⟩
    rw [Hg.out]
    go_wp2_with fail
    go_loopw [6, 15] (fun v i wr => ∃ k : Nat, k ≤ n ∧ i = .int .i64 k ∧ wr.ownsRow w.heap.size 46 2 v (flat L k).length (cs (flat L k)) ∧ Below w.heap.size w wr) (fun _ i _ => n - (intOf i).toNat)
    case atStart => exact ⟨0, Nat.zero_le _, rfl, by rw [flat_zero]; exact World.ownsRow_nil _ _ _ _, hb⟩
    case round =>
      obtain ⟨k, hk, rfl, hor, hbel⟩ := hrel
      by_cases hlt : k < n
      · rcases HA.out with h | ⟨b0, off0, A, C, rfl, hc, hcap⟩
        · exact absurd hlt (by rw [Hn.out, h]; simp)
        have hkl : k < L.length := by rw [← Hn.out]; exact hlt
        obtain ⟨h0, hA⟩ := (hc.kept hbel) k hkl
        have hs := hbel.size
        have hk0 : (0 : Int) ≤ k := by omega
        have hk2 : (k : Int) < n := by omega
        have HAk := Lib.hid hA
        have Hor := Lib.hid hor
        have Hnil := Lib.hid (hcap k hkl).2
        have hfk := Hfl.out k (by omega)
        have hck := Hsh.out k
        have Hsucc := Lib.hid (flat_succ L k hkl)
        clear hc hcap hA hor
        go_wp2_with (at_builtin; refine step_round _ rfl _ _ 29 rfl w.heap.size 46 i0 (.agg #[.int .i64 0, .int .i64 0]) Try.underlying29 hi hz0 hz1 hz2 rfl _ _ (flat L k) rfl Hor.out (A k) _ (C k) (crow L k) rfl rfl HAk.out Hnil.out (by omega) hs ?_)
        intro v1 w2 own1 hb1
        have Hown : Hid (w2.ownsRow w.heap.size 46 2 v1 (flat L (k + 1)).length (cs (flat L (k + 1)))) := Lib.hid (by rw [Hsucc.out, List.length_append]; exact own1)
        have hb2 : Below w.heap.size w w2 := hbel.trans hb1
        clear own1 hb1 hbel h0
        go_wp2_with fail
        go_roundw
        case rel => exact ⟨k + 1, by omega, by go_num, Hown.out, hb2⟩
        case measure => simp [intOf]; omega
      · have hk' : k = L.length := by rw [← Hn.out]; omega
        have hfl : flat L k = L.flatten := by rw [hk', flat_all]
        rw [hfl] at hor
        obtain ⟨ao2, cap2, rfl, _⟩ := own_shape_s hor rfl
        have Hor := Lib.hid hor
        clear hor hk' hfl
        by_cases h60 : L.flatten.length ≤ 60
        · have hd : decide ((L.flatten.length : Int) > 60) = false := by simp only [decide_eq_false_iff_not]; omega
          have Hq := Lib.hid (Hans.out.1 h60)
          have Hfin : Hid (∃ v, Ending.returned (.tuple #[.slice ao2 L.flatten.length cap2, .bool true]) = Ending.returned (.tuple #[v, .bool (corB f L)]) ∧ wr.ownsRow w.heap.size 46 2 v (corR f L).length (cs (corR f L)) ∧ Below w.heap.size w wr) := Lib.hid ⟨_, by rw [Hq.out.1], by rw [Hq.out.2]; exact Hor.out, hbel⟩
          clear Hans Hq Hor
          generalize L.flatten = F at *
          go_wp2_with fail
          go_ret2
          exact Hfin.out
        · have hd : decide ((L.flatten.length : Int) > 60) = true := by simp only [decide_eq_true_eq]; omega
          have Hq := Lib.hid (Hans.out.2 h60)
          have Hfin : Hid (∃ v, Ending.returned (.tuple #[.slice none 0 0, .bool false]) = Ending.returned (.tuple #[v, .bool (corB f L)]) ∧ wr.ownsRow w.heap.size 46 2 v (corR f L).length (cs (corR f L)) ∧ Below w.heap.size w wr) := Lib.hid ⟨.slice none 0 0, by rw [Hq.out.1], by rw [Hq.out.2]; exact World.ownsRow_nil _ _ _ _, hbel⟩
          clear Hans Hq Hor
          generalize L.flatten = F at *
          go_wp2_with fail
          go_ret2
          exact Hfin.out

end Go.Proofs.Ytnngdoiempmkkaa
