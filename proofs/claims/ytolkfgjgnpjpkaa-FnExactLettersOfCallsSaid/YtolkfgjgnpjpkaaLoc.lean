/- The letters of calls: two for each; the model and the program. -/
import Derived.Test.YtolkfgjgnpjpkaaCGood
namespace Go.Proofs.Ytolkfgjgnpjpkaa
open Go.ChangeShapes Go.WideShapes Go.ChangeAt Go.RowKit


/-- Two letters for each call. -/
def locL (l : List (Int × Int)) : List (Int × Int) := l.flatMap fun c => [(c.1, c.2), (c.2, c.1)]
theorem locL_length (l : List (Int × Int)) : (locL l).length = 2 * l.length := by
  induction l with
  | nil => rfl
  | cons c l ih => simp only [locL, List.flatMap_cons, List.length_append, List.length_cons, List.length_nil] at ih ⊢; omega
theorem loc_step (l : List (Int × Int)) (n k : Nat) (hn : n = l.length) (h : k < n) : locL (l.take (k + 1)) = locL (l.take k) ++ [(ca l k, cb l k), (cb l k, ca l k)] := by
  subst hn
  rw [List.take_succ_eq_append_getElem h, ca_cb l k h]
  simp [locL]
def locB (f : Int) (l : List (Int × Int)) : Bool := gdB f l && decide (2 * l.length ≤ 60)
def locR (f : Int) (l : List (Int × Int)) : List (Int × Int) := if locB f l then locL l else []
theorem locR_length (f : Int) (l : List (Int × Int)) : (locR f l).length ≤ 60 := by
  unfold locR
  cases h : locB f l
  · simp
  · simp only [locB, Bool.and_eq_true, decide_eq_true_eq] at h
    simpa [locL_length] using h.2

set_option maxRecDepth 20000 in
theorem specLoc_yes (w : World) (f : Int) (b off : Nat) (cap : Nat) (l : List (Int × Int)) (n : Nat) (Hn : Hid (n = l.length)) (h0 : 0 < n) (hs : n ≤ 30)
    (Hc : Hid (∀ i, i < n → w.cell? ⟨b, off + i * 2, none⟩ = some (.int .i64 (ca l i)) ∧ w.cell? ⟨b, off + i * 2 + 1, none⟩ = some (.int .i64 (cb l i)))) (hg : gdB f l = true) :
    Calls Try.prog 41 #[.int .i64 f, .slice (some ⟨b, off, none⟩) n cap] w fun e w' => ∃ v, e = .returned (.tuple #[v, .bool true]) ∧ w'.ownsRow w.heap.size 62 2 v (2 * n) (cs (locL l)) ∧ Below w.heap.size w w' := by
  obtain ⟨i0, hi, hz0, hz1, hz2⟩ := info_parts info62
  have Hg := Lib.hid hg
  clear hg
  have HA : CallsAt w (some ⟨b, off, none⟩) l := .inr ⟨b, off, rfl, by rw [← Hn.out]; exact Hc.out⟩
  have HHA := Lib.hid HA
  clear HA
  have hd : decide (2 * (n : Int) > 60) = false := by simp; omega
  go_enter Try.func41, Try.ntmps41
  go_wp2_with fail
  refine (caGood_any f _ cap l n w Hn.out (by omega) HHA.out).mono ?_
  rintro e w1 ⟨rfl, hb1⟩
  rw [Hg.out]
  have Hb1 := Lib.hid hb1
  clear hb1
  go_wp2_with fail
  go_loopw [6, 21] (fun v i wr => ∃ k : Nat, k ≤ n ∧ i = .int .i64 k ∧ wr.ownsRow w.heap.size 62 2 v (2 * k) (cs (locL (l.take k))) ∧ Below w.heap.size w wr) (fun _ i _ => n - (intOf i).toNat)
  case atStart => exact ⟨0, Nat.zero_le _, rfl, by simpa [cs, locL] using World.ownsRow_nil w1 w.heap.size 62 2, Hb1.out⟩
  case round =>
    obtain ⟨k, hk, rfl, hor, hbel⟩ := hrel
    by_cases hlt : k < n
    · have hsz := hbel.size
      have Hstep := Lib.hid (loc_step l n k Hn.out hlt)
      have hz0' := hbel.cell (p := ⟨b, off + k * 2, none⟩) (World.block_lt_of_cell? w _ (Hc.out k hlt).1)
      have hz1' := hbel.cell (p := ⟨b, off + k * 2 + 1, none⟩) (World.block_lt_of_cell? w _ (Hc.out k hlt).2)
      rw [(Hc.out k hlt).1] at hz0'
      rw [(Hc.out k hlt).2] at hz1'
      have Hor := Lib.hid hor
      clear hor
      go_wp2_with (at_builtin; refine wpList_append_own _ rfl _ _ 25 rfl w.heap.size 62 i0 (.agg #[.int .i64 0, .int .i64 0]) 2 16 Try.underlying25 hi hz0 hz1 hz2 rfl (by decide) _ _ _ rfl ((Hor.out.alloc _).alloc _) _ 2 2 [.int .i64 (ca l k), .int .i64 (cb l k), .int .i64 (cb l k), .int .i64 (ca l k)] rfl rfl ?c1 ?c2 ?c3 ?c4 ?c5 ?_)
      case c1 => exact World.news_of_block (cs := #[.int .i64 (ca l k), .int .i64 (cb l k), .int .i64 (cb l k), .int .i64 (ca l k)]) (t := 62) (fr := (0, 0)) (by rw [show wr.heap.size + 1 = (wr.alloc (.cells #[.int .i64 (ca l k), .int .i64 (cb l k)] 86)).heap.size by simp]; exact heap_alloc_new _ _)
      case c2 => intro u hu; simp at hu; rcases hu with rfl | rfl | rfl | rfl <;> rfl
      case c3 => unfold maxLen; omega
      case c4 => omega
      case c5 => simp; omega
      intro v' w2 hown' hgr _
      have Hown := Lib.hid hown'
      have Hbel := Lib.hid (((hbel.alloc hsz _).alloc (by simp; omega) _).grown hgr (by simp; omega) (fun b hb => (Hor.out.lt b hb).1))
      clear hown' hgr hbel hz0' hz1'
      go_wp2_with fail
      go_roundw
      case rel => exact ⟨k + 1, by omega, by go_num, by rw [Hstep.out, cs_append, show 2 * (k + 1) = 2 * k + 2 by omega]; exact Hown.out, Hbel.out⟩
      case measure => first | (simp [intOf]; done) | (simp [intOf]; omega)
    · obtain rfl : k = n := by omega
      have e : l.take k = l := List.take_of_length_le (by simp [← Hn.out])
      rw [e] at hor
      have Hor := Lib.hid hor
      clear hor e hlt hk
      go_wp2_with fail
      go_ret2
      exact ⟨_, rfl, Hor.out, hbel⟩

theorem specLoc_nil (w : World) (f : Int) (ao : Option Addr) (cap : Nat) (hg : gdB f [] = true) :
    Calls Try.prog 41 #[.int .i64 f, .slice ao 0 cap] w fun e w' => ∃ v, e = .returned (.tuple #[v, .bool true]) ∧ w'.ownsRow w.heap.size 62 2 v 0 (cs []) ∧ Below w.heap.size w w' := by
  have Hg := Lib.hid hg
  clear hg
  go_enter Try.func41, Try.ntmps41
  go_wp2_with fail
  refine (caGood_any f ao cap [] 0 w rfl (by omega) (.inl rfl)).mono ?_
  rintro e w1 ⟨rfl, hb⟩
  have Hown1 := Lib.hid (World.ownsRow_nil w1 w.heap.size 62 2)
  rw [Hg.out]
  go_wp2_with fail
  go_rounds 1
  go_ret2
  exact ⟨_, rfl, Hown1.out, hb⟩

theorem specLoc_no (w : World) (f : Int) (ao : Option Addr) (cap : Nat) (l : List (Int × Int)) (n : Nat) (Hn : Hid (n = l.length)) (hs : n ≤ 1048576) (Hc : CallsAt w ao l) (hg : gdB f l = false) :
    Calls Try.prog 41 #[.int .i64 f, .slice ao n cap] w fun e w' => ∃ v, e = .returned (.tuple #[v, .bool false]) ∧ w'.ownsRow w.heap.size 62 2 v 0 (cs []) ∧ Below w.heap.size w w' := by
  have HHc := Lib.hid Hc
  have Hg := Lib.hid hg
  clear hg Hc
  go_enter Try.func41, Try.ntmps41
  go_wp2_with fail
  refine (caGood_any f ao cap l n w Hn.out (by omega) HHc.out).mono ?_
  rintro e w1 ⟨rfl, hb⟩
  have Hown1 := Lib.hid (World.ownsRow_nil w1 w.heap.size 62 2)
  rw [Hg.out]
  go_wp2_with fail
  go_ret2
  exact ⟨_, rfl, Hown1.out, hb⟩

theorem specLoc_many (w : World) (f : Int) (ao : Option Addr) (cap : Nat) (l : List (Int × Int)) (n : Nat) (Hn : Hid (n = l.length)) (hs : n ≤ 1048576) (hm : 30 < n) (Hc : CallsAt w ao l) (hg : gdB f l = true) :
    Calls Try.prog 41 #[.int .i64 f, .slice ao n cap] w fun e w' => ∃ v, e = .returned (.tuple #[v, .bool false]) ∧ w'.ownsRow w.heap.size 62 2 v 0 (cs []) ∧ Below w.heap.size w w' := by
  have HHc := Lib.hid Hc
  have Hg := Lib.hid hg
  clear hg Hc
  have hd : decide (2 * (n : Int) > 60) = true := by simp; omega
  go_enter Try.func41, Try.ntmps41
  go_wp2_with fail
  refine (caGood_any f ao cap l n w Hn.out (by omega) HHc.out).mono ?_
  rintro e w1 ⟨rfl, hb⟩
  have Hown1 := Lib.hid (World.ownsRow_nil w1 w.heap.size 62 2)
  rw [Hg.out]
  go_wp2_with fail
  go_ret2
  exact ⟨_, rfl, Hown1.out, hb⟩

theorem specLoc_any (w : World) (f : Int) (ao : Option Addr) (cap : Nat) (l : List (Int × Int)) (n : Nat) (Hn : Hid (n = l.length)) (hs : n ≤ 1048576) (Hc : CallsAt w ao l) :
    Calls Try.prog 41 #[.int .i64 f, .slice ao n cap] w fun e w' => ∃ v, e = .returned (.tuple #[v, .bool (locB f l)]) ∧ w'.ownsRow w.heap.size 62 2 v (locR f l).length (cs (locR f l)) ∧ Below w.heap.size w w' := by
  cases hg : gdB f l
  · rw [show locB f l = false by simp [locB, hg], show locR f l = [] by simp [locR, locB, hg]]
    exact specLoc_no w f ao cap l n Hn hs Hc hg
  · by_cases hm : n ≤ 30
    · have hb : locB f l = true := by simp [locB, hg, ← Hn.out]; omega
      rw [hb, show locR f l = locL l by simp [locR, hb], locL_length, ← Hn.out]
      rcases Hc with rfl | ⟨b, off, rfl, hc⟩
      · obtain rfl : n = 0 := Hn.out
        exact specLoc_nil w f ao cap hg
      · by_cases h0 : n = 0
        · subst h0
          have : l = [] := List.eq_nil_of_length_eq_zero Hn.out.symm
          subst this
          exact specLoc_nil w f _ cap hg
        · exact specLoc_yes w f b off cap l n Hn (by omega) hm (by rw [Hn.out]; exact hc) hg
    · have hb : locB f l = false := by simp [locB, ← Hn.out]; omega
      rw [hb, show locR f l = [] by simp [locR, hb]]
      exact specLoc_many w f ao cap l n Hn hs (by omega) Hc hg

set_option maxRecDepth 20000 in
theorem implLoc_yes (w : World) (f : Int) (b off : Nat) (cap : Nat) (l : List (Int × Int)) (n : Nat) (Hn : Hid (n = l.length)) (h0 : 0 < n) (hs : n ≤ 30)
    (Hc : Hid (∀ i, i < n → w.cell? ⟨b, off + i * 2, none⟩ = some (.int .i64 (ca l i)) ∧ w.cell? ⟨b, off + i * 2 + 1, none⟩ = some (.int .i64 (cb l i)))) (hg : gdB f l = true) :
    Calls Try.prog 43 #[.int .i64 f, .slice (some ⟨b, off, none⟩) n cap] w fun e w' => ∃ v, e = .returned (.tuple #[v, .bool true]) ∧ w'.ownsRow w.heap.size 62 2 v (2 * n) (cs (locL l)) ∧ Below w.heap.size w w' := by
  obtain ⟨i0, hi, hz0, hz1, hz2⟩ := info_parts info62
  have Hg := Lib.hid hg
  clear hg
  have HA : CallsAt w (some ⟨b, off, none⟩) l := .inr ⟨b, off, rfl, by rw [← Hn.out]; exact Hc.out⟩
  have HHA := Lib.hid HA
  clear HA
  have hd : decide (2 * (n : Int) > 60) = false := by simp; omega
  go_enter Try.func43, Try.ntmps43
  go_wp2_with fail
  refine (areCalls_any f _ cap l n w Hn.out (by omega) HHA.out).mono ?_
  rintro e w1 ⟨rfl, hb1⟩
  rw [Hg.out]
  have Hb1 := Lib.hid hb1
  clear hb1
  go_wp2_with fail
  go_loopw [6, 21] (fun v i wr => ∃ k : Nat, k ≤ n ∧ i = .int .i64 k ∧ wr.ownsRow w.heap.size 62 2 v (2 * k) (cs (locL (l.take k))) ∧ Below w.heap.size w wr) (fun _ i _ => n - (intOf i).toNat)
  case atStart => exact ⟨0, Nat.zero_le _, rfl, by simpa [cs, locL] using World.ownsRow_nil w1 w.heap.size 62 2, Hb1.out⟩
  case round =>
    obtain ⟨k, hk, rfl, hor, hbel⟩ := hrel
    by_cases hlt : k < n
    · have hsz := hbel.size
      have Hstep := Lib.hid (loc_step l n k Hn.out hlt)
      have hz0' := hbel.cell (p := ⟨b, off + k * 2, none⟩) (World.block_lt_of_cell? w _ (Hc.out k hlt).1)
      have hz1' := hbel.cell (p := ⟨b, off + k * 2 + 1, none⟩) (World.block_lt_of_cell? w _ (Hc.out k hlt).2)
      rw [(Hc.out k hlt).1] at hz0'
      rw [(Hc.out k hlt).2] at hz1'
      have Hor := Lib.hid hor
      clear hor
      go_wp2_with (at_builtin; refine wpList_append_own _ rfl _ _ 25 rfl w.heap.size 62 i0 (.agg #[.int .i64 0, .int .i64 0]) 2 16 Try.underlying25 hi hz0 hz1 hz2 rfl (by decide) _ _ _ rfl ((Hor.out.alloc _).alloc _) _ 2 2 [.int .i64 (ca l k), .int .i64 (cb l k), .int .i64 (cb l k), .int .i64 (ca l k)] rfl rfl ?c1 ?c2 ?c3 ?c4 ?c5 ?_)
      case c1 => exact World.news_of_block (cs := #[.int .i64 (ca l k), .int .i64 (cb l k), .int .i64 (cb l k), .int .i64 (ca l k)]) (t := 62) (fr := (0, 0)) (by rw [show wr.heap.size + 1 = (wr.alloc (.cells #[.int .i64 (ca l k), .int .i64 (cb l k)] 86)).heap.size by simp]; exact heap_alloc_new _ _)
      case c2 => intro u hu; simp at hu; rcases hu with rfl | rfl | rfl | rfl <;> rfl
      case c3 => unfold maxLen; omega
      case c4 => omega
      case c5 => simp; omega
      intro v' w2 hown' hgr _
      have Hown := Lib.hid hown'
      have Hbel := Lib.hid (((hbel.alloc hsz _).alloc (by simp; omega) _).grown hgr (by simp; omega) (fun b hb => (Hor.out.lt b hb).1))
      clear hown' hgr hbel hz0' hz1'
      go_wp2_with fail
      go_roundw
      case rel => exact ⟨k + 1, by omega, by go_num, by rw [Hstep.out, cs_append, show 2 * (k + 1) = 2 * k + 2 by omega]; exact Hown.out, Hbel.out⟩
      case measure => first | (simp [intOf]; done) | (simp [intOf]; omega)
    · obtain rfl : k = n := by omega
      have e : l.take k = l := List.take_of_length_le (by simp [← Hn.out])
      rw [e] at hor
      have Hor := Lib.hid hor
      clear hor e hlt hk
      go_wp2_with fail
      go_ret2
      exact ⟨_, rfl, Hor.out, hbel⟩

theorem implLoc_nil (w : World) (f : Int) (ao : Option Addr) (cap : Nat) (hg : gdB f [] = true) :
    Calls Try.prog 43 #[.int .i64 f, .slice ao 0 cap] w fun e w' => ∃ v, e = .returned (.tuple #[v, .bool true]) ∧ w'.ownsRow w.heap.size 62 2 v 0 (cs []) ∧ Below w.heap.size w w' := by
  have Hg := Lib.hid hg
  clear hg
  go_enter Try.func43, Try.ntmps43
  go_wp2_with fail
  refine (areCalls_any f ao cap [] 0 w rfl (by omega) (.inl rfl)).mono ?_
  rintro e w1 ⟨rfl, hb⟩
  have Hown1 := Lib.hid (World.ownsRow_nil w1 w.heap.size 62 2)
  rw [Hg.out]
  go_wp2_with fail
  go_rounds 1
  go_ret2
  exact ⟨_, rfl, Hown1.out, hb⟩

theorem implLoc_no (w : World) (f : Int) (ao : Option Addr) (cap : Nat) (l : List (Int × Int)) (n : Nat) (Hn : Hid (n = l.length)) (hs : n ≤ 1048576) (Hc : CallsAt w ao l) (hg : gdB f l = false) :
    Calls Try.prog 43 #[.int .i64 f, .slice ao n cap] w fun e w' => ∃ v, e = .returned (.tuple #[v, .bool false]) ∧ w'.ownsRow w.heap.size 62 2 v 0 (cs []) ∧ Below w.heap.size w w' := by
  have HHc := Lib.hid Hc
  have Hg := Lib.hid hg
  clear hg Hc
  go_enter Try.func43, Try.ntmps43
  go_wp2_with fail
  refine (areCalls_any f ao cap l n w Hn.out (by omega) HHc.out).mono ?_
  rintro e w1 ⟨rfl, hb⟩
  have Hown1 := Lib.hid (World.ownsRow_nil w1 w.heap.size 62 2)
  rw [Hg.out]
  go_wp2_with fail
  go_ret2
  exact ⟨_, rfl, Hown1.out, hb⟩

theorem implLoc_many (w : World) (f : Int) (ao : Option Addr) (cap : Nat) (l : List (Int × Int)) (n : Nat) (Hn : Hid (n = l.length)) (hs : n ≤ 1048576) (hm : 30 < n) (Hc : CallsAt w ao l) (hg : gdB f l = true) :
    Calls Try.prog 43 #[.int .i64 f, .slice ao n cap] w fun e w' => ∃ v, e = .returned (.tuple #[v, .bool false]) ∧ w'.ownsRow w.heap.size 62 2 v 0 (cs []) ∧ Below w.heap.size w w' := by
  have HHc := Lib.hid Hc
  have Hg := Lib.hid hg
  clear hg Hc
  have hd : decide (2 * (n : Int) > 60) = true := by simp; omega
  go_enter Try.func43, Try.ntmps43
  go_wp2_with fail
  refine (areCalls_any f ao cap l n w Hn.out (by omega) HHc.out).mono ?_
  rintro e w1 ⟨rfl, hb⟩
  have Hown1 := Lib.hid (World.ownsRow_nil w1 w.heap.size 62 2)
  rw [Hg.out]
  go_wp2_with fail
  go_ret2
  exact ⟨_, rfl, Hown1.out, hb⟩

theorem implLoc_any (w : World) (f : Int) (ao : Option Addr) (cap : Nat) (l : List (Int × Int)) (n : Nat) (Hn : Hid (n = l.length)) (hs : n ≤ 1048576) (Hc : CallsAt w ao l) :
    Calls Try.prog 43 #[.int .i64 f, .slice ao n cap] w fun e w' => ∃ v, e = .returned (.tuple #[v, .bool (locB f l)]) ∧ w'.ownsRow w.heap.size 62 2 v (locR f l).length (cs (locR f l)) ∧ Below w.heap.size w w' := by
  cases hg : gdB f l
  · rw [show locB f l = false by simp [locB, hg], show locR f l = [] by simp [locR, locB, hg]]
    exact implLoc_no w f ao cap l n Hn hs Hc hg
  · by_cases hm : n ≤ 30
    · have hb : locB f l = true := by simp [locB, hg, ← Hn.out]; omega
      rw [hb, show locR f l = locL l by simp [locR, hb], locL_length, ← Hn.out]
      rcases Hc with rfl | ⟨b, off, rfl, hc⟩
      · obtain rfl : n = 0 := Hn.out
        exact implLoc_nil w f ao cap hg
      · by_cases h0 : n = 0
        · subst h0
          have : l = [] := List.eq_nil_of_length_eq_zero Hn.out.symm
          subst this
          exact implLoc_nil w f _ cap hg
        · exact implLoc_yes w f b off cap l n Hn (by omega) hm (by rw [Hn.out]; exact hc) hg
    · have hb : locB f l = false := by simp [locB, ← Hn.out]; omega
      rw [hb, show locR f l = [] by simp [locR, hb]]
      exact implLoc_many w f ao cap l n Hn hs (by omega) Hc hg

end Go.Proofs.Ytolkfgjgnpjpkaa
