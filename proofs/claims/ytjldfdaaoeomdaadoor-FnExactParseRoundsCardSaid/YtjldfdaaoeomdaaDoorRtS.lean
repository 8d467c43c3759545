/- The text of rounds: the model. -/
import Derived.Test.YtjldfdaaoeomdaaDoorTextI
import Derived.Test.YtjldfdaaoeomdaaDoorRndS2
import Derived.Test.YtjldfdaaoeomdaaDoorOpen
namespace Go.Proofs.YtjldfdaaoeomdaaDoor
open Go.ChangeShapes Go.WideShapes Go.ChangeAt Go.RowKit
set_option linter.unusedVariables false


/-- The text of one round; of the first rounds. -/
def rq (l : List (Int × Int)) : List UInt8 := Lib.join (l.map qC) [45]
theorem cTxt_list (l : List (Int × Int)) : (cTxt l).data.toList = rq l := rfl
def rTx (L : List (List (Int × Int))) : Nat → List UInt8
  | 0 => []
  | k + 1 => (if k = 0 then [] else rTx L k ++ [47]) ++ rq (crow L k)
theorem rTx_join (L : List (List (Int × Int))) : ∀ k, k ≤ L.length → rTx L k = Lib.join ((L.take k).map rq) [47]
  | 0, _ => by simp [rTx, Lib.join_nil]
  | k + 1, h => by
    have ih := rTx_join L k (by omega)
    have hk : L.take (k + 1) = L.take k ++ [crow L k] := by rw [List.take_succ_eq_append_getElem (by omega), crow_get]
    rw [hk, List.map_append, List.map_cons, List.map_nil]
    by_cases h0 : k = 0
    · subst h0
      simp [rTx, Lib.join_one]
    · have hne : (L.take k).map rq ≠ [] := by
        intro e
        have := congrArg List.length e
        rw [List.length_map, List.length_take, List.length_nil] at this
        omega
      obtain ⟨x, r, hx⟩ : ∃ x r, (L.take k).map rq = x :: r := by
        cases hh : (L.take k).map rq with
        | nil => exact absurd hh hne
        | cons x r => exact ⟨x, r, rfl⟩
      rw [hx] at ih ⊢
      rw [rTx, if_neg h0, ih, List.cons_append, Lib.join_cons, Lib.join_cons]
      simp [Lib.joinTail]
theorem rq_le {l : List (Int × Int)} (h : l.length ≤ 10) : (rq l).length ≤ 40 := by
  have h1 := tx_join qC l l.length (Nat.le_refl _)
  rw [List.take_of_length_le (Nat.le_refl _)] at h1
  have h2 := tx_le qC (fun _ => by simp [qC]) l l.length
  rw [h1] at h2
  show (Lib.join (l.map qC) [45]).length ≤ 40
  omega
theorem rTx_le {L : List (List (Int × Int))} (h : ∀ i, (crow L i).length ≤ 10) : ∀ k, (rTx L k).length ≤ 41 * k
  | 0 => by simp [rTx]
  | k + 1 => by
    have ih := rTx_le h k
    have h2 := rq_le (h k)
    rw [rTx]
    split <;> simp <;> omega
theorem rnds_short {f : Int} {L : List (List (Int × Int))} (h : rndsB f L = true) (i : Nat) : (crow L i).length ≤ 10 := by
  by_cases hi : i < L.length
  · have hf := rnds_frB h
    have hff : 1 ≤ f ∧ f ≤ 10 := by simpa [frB] using hf
    exact rnd_len hff.2 (rnds_row h i hi)
  · rw [crow_none (by omega)]; simp
theorem rnds_good {f : Int} {L : List (List (Int × Int))} (h : rndsB f L = true) (i : Nat) (hi : i < L.length) : gdB f (crow L i) = true := by
  have h1 := rnds_row h i hi
  rw [← rnd_eq (rnds_frB h)] at h1
  simp only [Bool.and_eq_true] at h1
  exact h1.1
/-- The text of rounds. -/
def rTxt (L : List (List (Int × Int))) : ByteArray := if L.length = 0 then ⟨#[46]⟩ else ⟨(Lib.join (L.map rq) [47]).toArray⟩
def rText (L : List (List (Int × Int))) : ByteArray := if rndsB 10 L then rTxt L else ⟨#[]⟩

theorem rstep_pos (L : List (List (Int × Int))) (k : Nat) (s : ByteArray) (h : s.data.toList = rTx L k) (h0 : ¬ k = 0) : (s ++ ⟨#[47]⟩ ++ cTxt (crow L k)).data.toList = rTx L (k + 1) := by
  rw [ba_app, ba_app, h, rTx, if_neg h0, cTxt_list]
theorem rstep_zero (L : List (List (Int × Int))) (k : Nat) (s : ByteArray) (h : s.data.toList = rTx L k) (h0 : k = 0) : (s ++ cTxt (crow L k)).data.toList = rTx L (k + 1) := by
  subst h0
  rw [ba_app, h, cTxt_list]; rfl
theorem ba_size (s : ByteArray) : s.size = s.data.toList.length := by simp

set_option maxRecDepth 20000 in
theorem roText_pos (w : World) (ao : Option Addr) (cap : Nat) (L : List (List (Int × Int))) (n : Nat) (Hn : Hid (n = L.length)) (hn0 : 0 < n) (hn20 : n ≤ 20) (Hg : Hid (rndsB 10 L = true)) (HA : Hid (RowsAt w ao L)) :
    Calls Tryd.prog 16 #[.slice ao n cap] w fun e w' => e = .returned (.string (rTxt L)) ∧ Below w.heap.size w w' := by
  have Hsh := Lib.hid (rnds_short Hg.out)
  have Hend : Hid (∀ s : ByteArray, s.data.toList = rTx L n → s = rTxt L) := Lib.hid (fun s hs => by
    have e : rTxt L = ⟨(Lib.join (L.map rq) [47]).toArray⟩ := by
      unfold rTxt; rw [if_neg (by rw [← Hn.out]; omega)]
    rw [e]
    rw [rTx_join L n (by rw [Hn.out]; exact Nat.le_refl _), List.take_of_length_le (by rw [Hn.out]; exact Nat.le_refl _)] at hs
    apply ByteArray.ext
    apply Array.toList_inj.1
    rw [hs])
  have hne : ((n : Int) == 0) = false := by rw [beq_eq_false_iff_ne]; omega
  go_enter Tryd.func16, Tryd.ntmps16
  go_wp2_with fail
  go_loopw [3, 11] (fun v i wr => ∃ (k : Nat) (s : ByteArray), k ≤ n ∧ i = .int .i64 k ∧ v = .string s ∧ Hid (s.data.toList = rTx L k) ∧ Below w.heap.size w wr) (fun _ i _ => n - (intOf i).toNat)
  case atStart => exact ⟨0, _, Nat.zero_le _, rfl, rfl, rfl, Below.refl _ _⟩
  case round =>
    obtain ⟨k, s, hk, rfl, rfl, hst, hbel⟩ := hrel
    by_cases hlt : k < n
    · rcases HA.out with h | ⟨b0, off0, A, C, rfl, hc, hcap⟩
      · exact absurd hlt (by rw [Hn.out, h]; simp)
      have hkl : k < L.length := by rw [← Hn.out]; exact hlt
      have h0 := ((hc.kept hbel) k hkl).1
      have HAk := Lib.hid ((hc.kept hbel) k hkl).2
      have hs := hbel.size
      have hk0 : (0 : Int) ≤ k := by omega
      have hk2 : (k : Int) < n := by omega
      have hlen := Hsh.out k
      have hss : s.size ≤ 41 * k := by rw [ba_size, hst.out]; exact rTx_le Hsh.out k
      have hcs : (cTxt (crow L k)).size ≤ 40 := by rw [ba_size, cTxt_list]; exact rq_le hlen
      have q1 : ¬ 9223372036854775807 < s.size + 1 := by omega
      have q2 : ¬ 9223372036854775807 < s.size + (cTxt (crow L k)).size := by omega
      have q3 : ¬ 9223372036854775807 < s.size + 1 + (cTxt (crow L k)).size := by omega
      have Hgd := Lib.hid (rnds_good Hg.out k hkl)
      have Hcall := Lib.hid (caText_said wr (A k) (C k) (crow L k) _ rfl (by omega) HAk.out (Lib.hid (fun j hj => by have := gd_call Hgd.out hj; omega)))
      clear hc hcap
      by_cases hz : k = 0
      · have Hnx := Lib.hid (rstep_zero L k s hst.out hz)
        have hgt : decide ((0 : Int) < (k : Int)) = false := by simp; omega
        have hgtN : decide (0 < k) = false := by simp; omega
        clear hz
        go_wp2_with fail
        refine Hcall.out.mono ?_
        rintro e w2 ⟨rfl, hb2⟩
        have hb3 : Below w.heap.size w w2 := hbel.trans (hb2.mono hs)
        clear hb2 hbel h0
        go_wp2_with fail
        go_roundw
        case rel => exact ⟨k + 1, _, by omega, by go_num, rfl, Hnx, hb3⟩
        case measure => simp [intOf]; omega
      · have Hnx := Lib.hid (rstep_pos L k s hst.out hz)
        have hgt : (0 : Int) < (k : Int) := by omega
        have hgtN : 0 < k := by omega
        clear hz
        go_wp2_with fail
        refine Hcall.out.mono ?_
        rintro e w2 ⟨rfl, hb2⟩
        have hb3 : Below w.heap.size w w2 := hbel.trans (hb2.mono hs)
        clear hb2 hbel h0
        go_wp2_with fail
        go_roundw
        case rel => exact ⟨k + 1, _, by omega, by go_num, rfl, Hnx, hb3⟩
        case measure => simp [intOf]; omega
    · obtain rfl : k = n := by omega
      have hs' : s = rTxt L := Hend.out s hst.out
      subst hs'
      clear hlt hk hst
      go_wp2_with fail
      go_ret
      exact ⟨rfl, hbel⟩

theorem roText_zero (w : World) (ao : Option Addr) (cap : Nat) : Calls Tryd.prog 16 #[.slice ao 0 cap] w fun e w' => e = .returned (.string ⟨#[46]⟩) ∧ Below w.heap.size w w' := by
  go_enter Tryd.func16, Tryd.ntmps16
  go_wp2_with fail
  go_ret
  exact ⟨rfl, Below.refl _ _⟩

theorem specRT_any (w : World) (ao : Option Addr) (cap : Nat) (L : List (List (Int × Int))) (n : Nat) (Hn : Hid (n = L.length)) (hm : n ≤ 9223372036854775807) (HL : Hid (∀ i, (crow L i).length ≤ 9223372036854775807)) (HA : Hid (RowsAt w ao L)) :
    Calls Tryd.prog 6 #[.slice ao n cap] w fun e w' => e = .returned (.tuple #[.string (rText L), .bool (rndsB 10 L)]) ∧ Below w.heap.size w w' := by
  cases hg : rndsB 10 L
  · have Hg := Lib.hid hg
    have e : rText L = ⟨#[]⟩ := by simp [rText, hg]
    rw [e]
    clear hg e
    go_enter Tryd.func6, Tryd.ntmps6
    go_wp2_with fail
    refine (roGood_any 10 ao cap L n w Hn hm HL HA).mono ?_
    rintro e w1 ⟨rfl, hb⟩
    rw [Hg.out]
    go_wp2_with fail
    go_ret2
    exact ⟨rfl, hb⟩
  · have Hg := Lib.hid hg
    have e : rText L = rTxt L := by simp [rText, hg]
    have hn20 : n ≤ 20 := by have := rnds_len20 hg; rw [← Hn.out] at this; exact this
    have Hro : Hid (∀ W, RowsAt W ao L → Calls Tryd.prog 16 #[.slice ao n cap] W fun e w' => e = .returned (.string (rTxt L)) ∧ Below W.heap.size W w') := Lib.hid (fun W h => by
      by_cases h0 : n = 0
      · have e2 : rTxt L = ⟨#[46]⟩ := by unfold rTxt; rw [if_pos (by rw [← Hn.out]; exact h0)]
        rw [e2, h0]
        exact roText_zero W ao cap
      · exact roText_pos W ao cap L n Hn (by omega) hn20 Hg h)
    rw [e]
    clear hg e
    go_enter Tryd.func6, Tryd.ntmps6
    go_wp2_with fail
    refine (roGood_any 10 ao cap L n w Hn hm HL HA).mono ?_
    rintro e w1 ⟨rfl, hb⟩
    rw [Hg.out]
    go_wp2_with fail
    refine (Hro.out w1 (HA.out.kept hb)).mono ?_
    rintro e w2 ⟨rfl, hb2⟩
    go_wp2_with fail
    go_ret2
    exact ⟨rfl, hb.trans (hb2.mono hb.size)⟩

end Go.Proofs.YtjldfdaaoeomdaaDoor
