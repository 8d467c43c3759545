/- CallsNeeded: the model and the program. -/
import Derived.Test.YtffnmpmgnaephaaKnows
namespace Go.Proofs.Ytffnmpmgnaephaa
open Go.ChangeShapes Go.WideShapes Go.ChangeAt Go.RowKit
set_option linter.unusedVariables false

theorem gd_take {f : Int} {l : List (Int × Int)} (h : gdB f l = true) (k : Nat) : gdB f (l.take k) = true := by
  simp only [gdB, Bool.and_eq_true, decide_eq_true_eq, List.all_eq_true] at h ⊢
  refine ⟨⟨h.1.1, ?_⟩, fun c hc => h.2 c (List.mem_of_mem_take hc)⟩
  have h1 := List.length_take_le' k l
  have h2 := h.1.2
  omega

theorem calls_take {w : World} {ao : Option Addr} {l : List (Int × Int)} (h : CallsAt w ao l) (k : Nat) : CallsAt w ao (l.take k) := by
  rcases h with rfl | ⟨b, off, rfl, hc⟩
  · exact .inl (by simp)
  · refine .inr ⟨b, off, rfl, fun i hi => ?_⟩
    have hi' : i < k ∧ i < l.length := by simpa [Nat.lt_min] using hi
    have e1 : ca (l.take k) i = ca l i := by simp [ca, List.getD_eq_getElem?_getD, hi'.1]
    have e2 : cb (l.take k) i = cb l i := by simp [cb, List.getD_eq_getElem?_getD, hi'.1]
    rw [e1, e2]
    exact hc i hi'.2

def needP (F : Nat) (l : List (Int × Int)) : Option Nat := (List.range (l.length + 1)).find? fun k => allB F (play F (l.take k))

def needI (f : Int) (l : List (Int × Int)) : Int := if gdB f l then ((needP f.toNat l).getD 0 : Nat) else 0

def needB (f : Int) (l : List (Int × Int)) : Bool := gdB f l && (needP f.toNat l).isSome

theorem need_some {F : Nat} {l : List (Int × Int)} {k : Nat} (hk : k ≤ l.length) (hno : ∀ j, j < k → allB F (play F (l.take j)) = false) (hy : allB F (play F (l.take k)) = true) : needP F l = some k := by
  unfold needP
  rw [List.find?_range_eq_some]
  exact ⟨hy, List.mem_range.2 (by omega), fun j hj => by simp [hno j hj]⟩

theorem need_none {F : Nat} {l : List (Int × Int)} (hno : ∀ j, j < l.length + 1 → allB F (play F (l.take j)) = false) : needP F l = none := by
  unfold needP
  rw [List.find?_eq_none]
  intro j hj
  simp [hno j (List.mem_range.1 hj)]

set_option maxRecDepth 20000 in
theorem specNeeded_yes (w : World) (F : Nat) (ao : Option Addr) (cap : Nat) (l : List (Int × Int)) (n : Nat) (Hn : Hid (n = l.length)) (hs : n ≤ 1048576) (hcap : n ≤ cap) (HHc : Hid (CallsAt w ao l)) (Hg : Hid (gdB (F : Int) l = true)) (hff : 1 ≤ (F : Int) ∧ (F : Int) ≤ 10) :
    Calls Try.prog 30 #[.int .i64 F, .slice ao n cap] w fun e w' => e = .returned (.tuple #[.int .i64 ((needP F l).getD 0 : Nat), .bool (needP F l).isSome]) ∧ Below w.heap.size w w' := by
  go_enter Try.func30, Try.ntmps30
  go_wp2_with fail
  refine (caGood_any F ao cap l n w Hn.out (by omega) HHc.out).mono ?_
  rintro e w1 ⟨rfl, hb1⟩
  rw [Hg.out]
  go_wp2_with fail
  go_loopw [6] (fun i wr => ∃ k : Nat, k ≤ n + 1 ∧ i = .int .i64 k ∧ Hid (∀ j, j < k → allB F (play F (l.take j)) = false) ∧ Below w.heap.size w wr) (fun i _ => n + 1 - (intOf i).toNat)
  case atStart => exact ⟨0, Nat.zero_le _, rfl, fun j hj => absurd hj (by omega), hb1⟩
  case round =>
    obtain ⟨k, hk, rfl, hno, hbel⟩ := hrel
    by_cases hlt : k ≤ n
    · have hkc : k ≤ cap := by omega
      have Hk : Hid (k = (l.take k).length) := by show k = _; rw [List.length_take, ← Hn.out]; omega
      have Hgk := Lib.hid (gd_take Hg.out k)
      have Hck := Lib.hid (calls_take (HHc.out.kept hbel) k)
      have hsz := hbel.size
      go_wp2_with fail
      refine (caPlay_any F ao cap (l.take k) k wr Hk Hgk.out Hck.out).mono ?_
      rintro e w2 ⟨v, rfl, own2, hb2⟩
      have Hown2 := Lib.hid own2
      have hb3 : Below w.heap.size w w2 := hbel.trans (hb2.mono hsz)
      clear own2 hb2
      go_wp2_with fail
      refine (caAll_any _ F v (play F (l.take k)) w2 (by omega) (by omega) Hown2.out).mono ?_
      rintro e w3 ⟨rfl, hb4⟩
      have hb5 : Below w.heap.size w w3 := hb3.trans (hb4.mono hb3.size)
      clear hb4
      cases ha : allB F (play F (l.take k))
      · have hno2 : Hid (∀ j, j < k + 1 → allB F (play F (l.take j)) = false) := by
          intro j hj
          by_cases hjk : j = k
          · subst hjk; exact ha
          · exact hno.out j (by omega)
        clear ha
        go_wp2_with fail
        go_roundw
        case rel => exact ⟨k + 1, by omega, by go_num, hno2, hb5⟩
        case measure => simp [intOf]; omega
      · have Hsome := Lib.hid (need_some (by rw [← Hn.out]; exact hlt) hno.out ha)
        clear ha
        go_wp2_with fail
        go_ret2
        exact ⟨by rw [Hsome.out]; rfl, hb5⟩
    · obtain rfl : k = n + 1 := by omega
      have Hnone := Lib.hid (need_none (F := F) (l := l) (by rw [← Hn.out]; exact hno.out))
      have Hnn : Hid (n = l.length) := Hn
      clear hlt hk hno
      go_wp2_with fail
      go_ret2
      exact ⟨by rw [Hnone.out]; rfl, hbel⟩

set_option maxRecDepth 20000 in
theorem implNeeded_yes (w : World) (F : Nat) (ao : Option Addr) (cap : Nat) (l : List (Int × Int)) (n : Nat) (Hn : Hid (n = l.length)) (hs : n ≤ 1048576) (hcap : n ≤ cap) (HHc : Hid (CallsAt w ao l)) (Hg : Hid (gdB (F : Int) l = true)) (hff : 1 ≤ (F : Int) ∧ (F : Int) ≤ 10) :
    Calls Try.prog 31 #[.int .i64 F, .slice ao n cap] w fun e w' => e = .returned (.tuple #[.int .i64 ((needP F l).getD 0 : Nat), .bool (needP F l).isSome]) ∧ Below w.heap.size w w' := by
  go_enter Try.func31, Try.ntmps31
  go_wp2_with fail
  refine (areCalls_any F ao cap l n w Hn.out (by omega) HHc.out).mono ?_
  rintro e w1 ⟨rfl, hb1⟩
  rw [Hg.out]
  go_wp2_with fail
  go_loopw [14] (fun i wr => ∃ k : Nat, k ≤ n + 1 ∧ i = .int .i64 k ∧ Hid (∀ j, j < k → allB F (play F (l.take j)) = false) ∧ Below w.heap.size w wr) (fun i _ => n + 1 - (intOf i).toNat)
  case atStart => exact ⟨0, Nat.zero_le _, rfl, fun j hj => absurd hj (by omega), hb1⟩
  case round =>
    obtain ⟨k, hk, rfl, hno, hbel⟩ := hrel
    by_cases hlt : k ≤ n
    · have hkc : k ≤ cap := by omega
      have Hk : Hid (k = (l.take k).length) := by show k = _; rw [List.length_take, ← Hn.out]; omega
      have Hgk := Lib.hid (gd_take Hg.out k)
      have Hck := Lib.hid (calls_take (HHc.out.kept hbel) k)
      have hsz := hbel.size
      go_wp2_with fail
      refine (knowledgeBehind_any F ao cap (l.take k) k wr Hk Hgk.out Hck.out).mono ?_
      rintro e w2 ⟨rfl, hb2⟩
      have hb3 : Below w.heap.size w w2 := hbel.trans (hb2.mono hsz)
      clear hb2
      go_wp2_with fail
      refine (isWhole_any F (play F (l.take k)) w2 (play_small F (by omega) _) (by omega) (by omega)).mono ?_
      rintro e w3 ⟨rfl, hb4⟩
      have hb5 : Below w.heap.size w w3 := hb3.trans (hb4.mono hb3.size)
      clear hb4
      rw [whole_eq Hgk.out]
      cases ha : allB F (play F (l.take k))
      · have hno2 : Hid (∀ j, j < k + 1 → allB F (play F (l.take j)) = false) := by
          intro j hj
          by_cases hjk : j = k
          · subst hjk; exact ha
          · exact hno.out j (by omega)
        clear ha
        go_wp2_with fail
        go_roundw
        case rel => exact ⟨k + 1, by omega, by go_num, hno2, hb5⟩
        case measure => simp [intOf]; omega
      · have Hsome := Lib.hid (need_some (by rw [← Hn.out]; exact hlt) hno.out ha)
        clear ha
        go_wp2_with fail
        go_ret2
        exact ⟨by rw [Hsome.out]; rfl, hb5⟩
    · obtain rfl : k = n + 1 := by omega
      have Hnone := Lib.hid (need_none (F := F) (l := l) (by rw [← Hn.out]; exact hno.out))
      have Hnn : Hid (n = l.length) := Hn
      clear hlt hk hno
      go_wp2_with fail
      go_ret2
      exact ⟨by rw [Hnone.out]; rfl, hbel⟩

theorem specNeeded_any (w : World) (f : Int) (ao : Option Addr) (cap : Nat) (l : List (Int × Int)) (n : Nat) (Hn : Hid (n = l.length)) (hs : n ≤ 1048576) (Hc : CallsAt w ao l) (hcap : n ≤ cap) :
    Calls Try.prog 30 #[.int .i64 f, .slice ao n cap] w fun e w' => e = .returned (.tuple #[.int .i64 (needI f l), .bool (needB f l)]) ∧ Below w.heap.size w w' := by
  have HHc := Lib.hid Hc
  clear Hc
  cases hg : gdB f l
  · have hR : needI f l = 0 := by simp [needI, hg]
    have hR2 : needB f l = false := by simp [needB, hg]
    rw [hR, hR2]
    have Hg := Lib.hid hg
    clear hg hR hR2
    go_enter Try.func30, Try.ntmps30
    go_wp2_with fail
    refine (caGood_any f ao cap l n w Hn.out (by omega) HHc.out).mono ?_
    rintro e w1 ⟨rfl, hb⟩
    rw [Hg.out]
    go_wp2_with fail
    go_ret2
    exact ⟨rfl, hb⟩
  · have hff := gd_fr hg
    obtain ⟨F, rfl⟩ := Int.eq_ofNat_of_zero_le (show 0 ≤ f by omega)
    have hR : needI F l = ((needP F l).getD 0 : Nat) := by simp [needI, hg]
    have hR2 : needB F l = (needP F l).isSome := by simp [needB, hg]
    rw [hR, hR2]
    exact specNeeded_yes w F ao cap l n Hn hs hcap HHc hg hff

theorem implNeeded_any (w : World) (f : Int) (ao : Option Addr) (cap : Nat) (l : List (Int × Int)) (n : Nat) (Hn : Hid (n = l.length)) (hs : n ≤ 1048576) (Hc : CallsAt w ao l) (hcap : n ≤ cap) :
    Calls Try.prog 31 #[.int .i64 f, .slice ao n cap] w fun e w' => e = .returned (.tuple #[.int .i64 (needI f l), .bool (needB f l)]) ∧ Below w.heap.size w w' := by
  have HHc := Lib.hid Hc
  clear Hc
  cases hg : gdB f l
  · have hR : needI f l = 0 := by simp [needI, hg]
    have hR2 : needB f l = false := by simp [needB, hg]
    rw [hR, hR2]
    have Hg := Lib.hid hg
    clear hg hR hR2
    go_enter Try.func31, Try.ntmps31
    go_wp2_with fail
    refine (areCalls_any f ao cap l n w Hn.out (by omega) HHc.out).mono ?_
    rintro e w1 ⟨rfl, hb⟩
    rw [Hg.out]
    go_wp2_with fail
    go_ret2
    exact ⟨rfl, hb⟩
  · have hff := gd_fr hg
    obtain ⟨F, rfl⟩ := Int.eq_ofNat_of_zero_le (show 0 ≤ f by omega)
    have hR : needI F l = ((needP F l).getD 0 : Nat) := by simp [needI, hg]
    have hR2 : needB F l = (needP F l).isSome := by simp [needB, hg]
    rw [hR, hR2]
    exact implNeeded_yes w F ao cap l n Hn hs hcap HHc hg hff

theorem own_cap {w : World} {base : Nat} {e : TypeId} {size g n m cap : Nat} {xs : List Value} (h : w.ownsRow base e size (.slice (some ⟨g, 0, none⟩) n cap) m xs) : n ≤ cap := by
  rcases h.2 with ⟨h', _⟩ | ⟨g', cap', cur, h', _, _, hnc, _⟩
  · simp at h'
  · simp only [Value.slice.injEq] at h'
    obtain ⟨_, h2, h3⟩ := h'
    omega
end Go.Proofs.Ytffnmpmgnaephaa
