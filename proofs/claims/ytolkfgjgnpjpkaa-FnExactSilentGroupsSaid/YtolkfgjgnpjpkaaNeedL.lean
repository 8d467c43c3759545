/- How many letters are needed: the model and the program. -/
import Derived.Test.YtolkfgjgnpjpkaaAllL
namespace Go.Proofs.Ytolkfgjgnpjpkaa
open Go.ChangeShapes Go.WideShapes Go.ChangeAt Go.RowKit
set_option linter.unusedVariables false

theorem calls_take {w : World} {ao : Option Addr} {l : List (Int × Int)} (h : CallsAt w ao l) (k : Nat) : CallsAt w ao (l.take k) := by
  rcases h with rfl | ⟨b, off, rfl, hc⟩
  · exact .inl (by simp)
  · refine .inr ⟨b, off, rfl, fun i hi => ?_⟩
    have hi' : i < k ∧ i < l.length := by simpa [Nat.lt_min] using hi
    have e1 : ca (l.take k) i = ca l i := by simp [ca, List.getD_eq_getElem?_getD, hi'.1]
    have e2 : cb (l.take k) i = cb l i := by simp [cb, List.getD_eq_getElem?_getD, hi'.1]
    rw [e1, e2]
    exact hc i hi'.2

def needPL (F : Nat) (l : List (Int × Int)) : Option Nat := (List.range (l.length + 1)).find? fun k => allB F (playL F (l.take k))

def needIL (f : Int) (l : List (Int × Int)) : Int := if gdL f l then ((needPL f.toNat l).getD 0 : Nat) else 0

def needBL (f : Int) (l : List (Int × Int)) : Bool := gdL f l && (needPL f.toNat l).isSome

theorem needL_some {F : Nat} {l : List (Int × Int)} {k : Nat} (hk : k ≤ l.length) (hno : ∀ j, j < k → allB F (playL F (l.take j)) = false) (hy : allB F (playL F (l.take k)) = true) : needPL F l = some k := by
  unfold needPL
  rw [List.find?_range_eq_some]
  exact ⟨hy, List.mem_range.2 (by omega), fun j hj => by simp [hno j hj]⟩

theorem needL_none {F : Nat} {l : List (Int × Int)} (hno : ∀ j, j < l.length + 1 → allB F (playL F (l.take j)) = false) : needPL F l = none := by
  unfold needPL
  rw [List.find?_eq_none]
  intro j hj
  simp [hno j (List.mem_range.1 hj)]

set_option maxRecDepth 20000 in
theorem specNeedL_yes (w : World) (F : Nat) (ao : Option Addr) (cap : Nat) (l : List (Int × Int)) (n : Nat) (Hn : Hid (n = l.length)) (hs : n ≤ 1048576) (hcap : n ≤ cap) (HHc : Hid (CallsAt w ao l)) (Hg : Hid (gdL (F : Int) l = true)) (hff : 1 ≤ (F : Int) ∧ (F : Int) ≤ 10) :
    Calls Try.prog 31 #[.int .i64 F, .slice ao n cap] w fun e w' => e = .returned (.tuple #[.int .i64 ((needPL F l).getD 0 : Nat), .bool (needPL F l).isSome]) ∧ Below w.heap.size w w' := by
  go_enter Try.func31, Try.ntmps31
  go_wp2_with fail
  refine (leGood_any F ao cap l n w Hn.out (by omega) HHc.out).mono ?_
  rintro e w1 ⟨rfl, hb1⟩
  rw [Hg.out]
  go_wp2_with fail
  go_loopw [6] (fun i wr => ∃ k : Nat, k ≤ n + 1 ∧ i = .int .i64 k ∧ Hid (∀ j, j < k → allB F (playL F (l.take j)) = false) ∧ Below w.heap.size w wr) (fun i _ => n + 1 - (intOf i).toNat)
  case atStart => exact ⟨0, Nat.zero_le _, rfl, fun j hj => absurd hj (by omega), hb1⟩
  case round =>
    obtain ⟨k, hk, rfl, hno, hbel⟩ := hrel
    by_cases hlt : k ≤ n
    · have hkc : k ≤ cap := by omega
      have Hk : Hid (k = (l.take k).length) := by show k = _; rw [List.length_take, ← Hn.out]; omega
      have Hgk := Lib.hid (gl_take Hg.out k)
      have Hck := Lib.hid (calls_take (HHc.out.kept hbel) k)
      have hsz := hbel.size
      go_wp2_with fail
      refine (lePlay_any F ao cap (l.take k) k wr Hk Hgk.out Hck.out).mono ?_
      rintro e w2 ⟨v, rfl, own2, hb2⟩
      have Hown2 := Lib.hid own2
      have hb3 : Below w.heap.size w w2 := hbel.trans (hb2.mono hsz)
      clear own2 hb2
      go_wp2_with fail
      refine (caAll_any _ F v (playL F (l.take k)) w2 (by omega) (by omega) Hown2.out).mono ?_
      rintro e w3 ⟨rfl, hb4⟩
      have hb5 : Below w.heap.size w w3 := hb3.trans (hb4.mono hb3.size)
      clear hb4
      cases ha : allB F (playL F (l.take k))
      · have hno2 : Hid (∀ j, j < k + 1 → allB F (playL F (l.take j)) = false) := by
          intro j hj
          by_cases hjk : j = k
          · subst hjk; exact ha
          · exact hno.out j (by omega)
        clear ha
        go_wp2_with fail
        go_roundw
        case rel => exact ⟨k + 1, by omega, by go_num, hno2, hb5⟩
        case measure => simp [intOf]; omega
      · have Hsome := Lib.hid (needL_some (by rw [← Hn.out]; exact hlt) hno.out ha)
        clear ha
        go_wp2_with fail
        go_ret2
        exact ⟨by rw [Hsome.out]; rfl, hb5⟩
    · obtain rfl : k = n + 1 := by omega
      have Hnone := Lib.hid (needL_none (F := F) (l := l) (by rw [← Hn.out]; exact hno.out))
      have Hnn : Hid (n = l.length) := Hn
      clear hlt hk hno
      go_wp2_with fail
      go_ret2
      exact ⟨by rw [Hnone.out]; rfl, hbel⟩

theorem specNeedL_any (w : World) (f : Int) (ao : Option Addr) (cap : Nat) (l : List (Int × Int)) (n : Nat) (Hn : Hid (n = l.length)) (hs : n ≤ 1048576) (Hc : CallsAt w ao l) (hcap : n ≤ cap) :
    Calls Try.prog 31 #[.int .i64 f, .slice ao n cap] w fun e w' => e = .returned (.tuple #[.int .i64 (needIL f l), .bool (needBL f l)]) ∧ Below w.heap.size w w' := by
  have HHc := Lib.hid Hc
  clear Hc
  cases hg : gdL f l
  · have hR : needIL f l = 0 := by simp [needIL, hg]
    have hR2 : needBL f l = false := by simp [needBL, hg]
    rw [hR, hR2]
    have Hg := Lib.hid hg
    clear hg hR hR2
    go_enter Try.func31, Try.ntmps31
    go_wp2_with fail
    refine (leGood_any f ao cap l n w Hn.out (by omega) HHc.out).mono ?_
    rintro e w1 ⟨rfl, hb⟩
    rw [Hg.out]
    go_wp2_with fail
    go_ret2
    exact ⟨rfl, hb⟩
  · have hff := gl_fr hg
    obtain ⟨F, rfl⟩ := Int.eq_ofNat_of_zero_le (show 0 ≤ f by omega)
    have hR : needIL F l = ((needPL F l).getD 0 : Nat) := by simp [needIL, hg]
    have hR2 : needBL F l = (needPL F l).isSome := by simp [needBL, hg]
    rw [hR, hR2]
    exact specNeedL_yes w F ao cap l n Hn hs hcap HHc hg hff

set_option maxRecDepth 20000 in
theorem implNeedL_yes (w : World) (F : Nat) (ao : Option Addr) (cap : Nat) (l : List (Int × Int)) (n : Nat) (Hn : Hid (n = l.length)) (hs : n ≤ 1048576) (hcap : n ≤ cap) (HHc : Hid (CallsAt w ao l)) (Hg : Hid (gdL (F : Int) l = true)) (hff : 1 ≤ (F : Int) ∧ (F : Int) ≤ 10) :
    Calls Try.prog 32 #[.int .i64 F, .slice ao n cap] w fun e w' => e = .returned (.tuple #[.int .i64 ((needPL F l).getD 0 : Nat), .bool (needPL F l).isSome]) ∧ Below w.heap.size w w' := by
  go_enter Try.func32, Try.ntmps32
  go_wp2_with fail
  refine (areLetters_any F ao cap l n w Hn.out (by omega) HHc.out).mono ?_
  rintro e w1 ⟨rfl, hb1⟩
  rw [Hg.out]
  go_wp2_with fail
  go_loopw [14] (fun i wr => ∃ k : Nat, k ≤ n + 1 ∧ i = .int .i64 k ∧ Hid (∀ j, j < k → allB F (playL F (l.take j)) = false) ∧ Below w.heap.size w wr) (fun i _ => n + 1 - (intOf i).toNat)
  case atStart => exact ⟨0, Nat.zero_le _, rfl, fun j hj => absurd hj (by omega), hb1⟩
  case round =>
    obtain ⟨k, hk, rfl, hno, hbel⟩ := hrel
    by_cases hlt : k ≤ n
    · have hkc : k ≤ cap := by omega
      have Hk : Hid (k = (l.take k).length) := by show k = _; rw [List.length_take, ← Hn.out]; omega
      have Hgk := Lib.hid (gl_take Hg.out k)
      have Hck := Lib.hid (calls_take (HHc.out.kept hbel) k)
      have hsz := hbel.size
      go_wp2_with fail
      refine (readersBehind_any F ao cap (l.take k) k wr Hk Hgk.out Hck.out).mono ?_
      rintro e w2 ⟨bs, hl, rfl, hr, hb2⟩
      have Hr := Lib.hid hr
      have hb3 : Below w.heap.size w w2 := hbel.trans (hb2.mono hsz)
      clear hb2 hr
      go_wp2_with fail
      refine (lacking_any _ _ F F bs (playL F (l.take k)) w2 hl (Nat.le_refl _) (by omega) Hr.out).mono ?_
      rintro e w3 ⟨rfl, hb4⟩
      have hb5 : Below w.heap.size w w3 := hb3.trans (hb4.mono hb3.size)
      clear hb4
      have hla := lack_all (F := F) (by omega) (playL_lt F (l.take k))
      cases ha : allB F (playL F (l.take k))
      · have hno2 : Hid (∀ j, j < k + 1 → allB F (playL F (l.take j)) = false) := by
          intro j hj
          by_cases hjk : j = k
          · subst hjk; exact ha
          · exact hno.out j (by omega)
        rw [ha] at hla
        clear ha
        go_wp2_with fail
        go_roundw
        case rel => exact ⟨k + 1, by omega, by go_num, hno2, hb5⟩
        case measure => simp [intOf]; omega
      · have Hsome := Lib.hid (needL_some (by rw [← Hn.out]; exact hlt) hno.out ha)
        rw [ha] at hla
        clear ha
        go_wp2_with fail
        go_ret2
        exact ⟨by rw [Hsome.out]; rfl, hb5⟩
    · obtain rfl : k = n + 1 := by omega
      have Hnone := Lib.hid (needL_none (F := F) (l := l) (by rw [← Hn.out]; exact hno.out))
      have Hnn : Hid (n = l.length) := Hn
      clear hlt hk hno
      go_wp2_with fail
      go_ret2
      exact ⟨by rw [Hnone.out]; rfl, hbel⟩

theorem implNeedL_any (w : World) (f : Int) (ao : Option Addr) (cap : Nat) (l : List (Int × Int)) (n : Nat) (Hn : Hid (n = l.length)) (hs : n ≤ 1048576) (Hc : CallsAt w ao l) (hcap : n ≤ cap) :
    Calls Try.prog 32 #[.int .i64 f, .slice ao n cap] w fun e w' => e = .returned (.tuple #[.int .i64 (needIL f l), .bool (needBL f l)]) ∧ Below w.heap.size w w' := by
  have HHc := Lib.hid Hc
  clear Hc
  cases hg : gdL f l
  · have hR : needIL f l = 0 := by simp [needIL, hg]
    have hR2 : needBL f l = false := by simp [needBL, hg]
    rw [hR, hR2]
    have Hg := Lib.hid hg
    clear hg hR hR2
    go_enter Try.func32, Try.ntmps32
    go_wp2_with fail
    refine (areLetters_any f ao cap l n w Hn.out (by omega) HHc.out).mono ?_
    rintro e w1 ⟨rfl, hb⟩
    rw [Hg.out]
    go_wp2_with fail
    go_ret2
    exact ⟨rfl, hb⟩
  · have hff := gl_fr hg
    obtain ⟨F, rfl⟩ := Int.eq_ofNat_of_zero_le (show 0 ≤ f by omega)
    have hR : needIL F l = ((needPL F l).getD 0 : Nat) := by simp [needIL, hg]
    have hR2 : needBL F l = (needPL F l).isSome := by simp [needBL, hg]
    rw [hR, hR2]
    exact implNeedL_yes w F ao cap l n Hn hs hcap HHc hg hff
end Go.Proofs.Ytolkfgjgnpjpkaa
