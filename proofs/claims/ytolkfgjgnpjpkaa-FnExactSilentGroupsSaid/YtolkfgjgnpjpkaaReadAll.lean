/- What readers know behind a list of letters, and how many lack any: the program. -/
import Derived.Test.YtolkfgjgnpjpkaaReaders
namespace Go.Proofs.Ytolkfgjgnpjpkaa
open Go.ChangeShapes Go.WideShapes Go.ChangeAt Go.RowKit Go.Maps Go.Shelf
set_option linter.unusedVariables false


/-- The letters are of friends below F. -/
def Fit (F n : Nat) (l : List (Int × Int)) : Prop := ∀ i, i < n → 0 ≤ ca l i ∧ ca l i < F ∧ 0 ≤ cb l i ∧ cb l i < F ∧ ca l i ≠ cb l i

set_option maxRecDepth 20000 in
theorem readAll_pos (base g cap F : Nat) (bs : List Nat) (s : Nat → Nat) (b off c : Nat) (l : List (Int × Int)) (n : Nat) (w : World) (Hn : Hid (n = l.length)) (hs : n ≤ 60) (hF : bs.length = F) (hcap : F ≤ cap) (hF10 : F ≤ 10)
    (Hfit : Hid (Fit F n l)) (hbase : base ≤ w.heap.size) (hlow : b < base)
    (Hc : Hid (∀ i, i < n → w.cell? ⟨b, off + i * 2, none⟩ = some (.int .i64 (ca l i)) ∧ w.cell? ⟨b, off + i * 2 + 1, none⟩ = some (.int .i64 (cb l i)))) (h : RdB w base g cap bs s) :
    Calls Try.prog 79 #[.slice (some ⟨g, 0, none⟩) F cap, .slice (some ⟨b, off, none⟩) n c] w fun e w' => e = .returned (.tuple #[]) ∧ RdB w' base g cap bs (l.foldl stpL s) ∧ Below base w w' := by
  have Hh := Lib.hid h
  clear h
  go_enter Try.func79, Try.ntmps79
  go_wp2_with fail
  go_loopw [8] (fun i wr => ∃ k : Nat, k ≤ n ∧ i = .int .i64 k ∧ RdB wr base g cap bs ((l.take k).foldl stpL s) ∧ Below base w wr) (fun i _ => n - (intOf i).toNat)
  case atStart => exact ⟨0, Nat.zero_le _, rfl, Hh.out, Below.refl _ _⟩
  case round =>
    obtain ⟨k, hk, rfl, hrd, hbel⟩ := hrel
    by_cases hlt : k < n
    · have hfit := Hfit.out k hlt
      obtain ⟨x, hx⟩ : ∃ x : Nat, ca l k = (x : Int) := ⟨(ca l k).toNat, by omega⟩
      obtain ⟨y, hy⟩ : ∃ y : Nat, cb l k = (y : Int) := ⟨(cb l k).toNat, by omega⟩
      have h0 := hbel.cell (p := ⟨b, off + k * 2, none⟩) hlow
      have h1 := hbel.cell (p := ⟨b, off + k * 2 + 1, none⟩) hlow
      rw [(Hc.out k hlt).1, hx] at h0
      rw [(Hc.out k hlt).2, hy] at h1
      have hstep := foldlL_succ s l k (by rw [← Hn.out]; exact hlt)
      rw [hx, hy] at hstep hfit
      have Hstep : Hid ((l.take (k + 1)).foldl stpL s = upd ((l.take k).foldl stpL s) y (((l.take k).foldl stpL s) y ||| ((l.take k).foldl stpL s) x)) := by
        show _ = _; rw [hstep]; simp [stpL]
      have hsz : base ≤ wr.heap.size := Nat.le_trans hbase hbel.size
      have hr := read_any base g cap x y F bs ((l.take k).foldl stpL s) (wr.alloc (.cells #[.int .i64 x, .int .i64 y] 62)) hF hcap hF10 (by omega) (by omega) (by omega) (by simp; omega) (hrd.alloc _)
      clear hrd hstep hfit hx hy
      go_wp2_with fail
      refine hr.mono ?_
      rintro e w2 ⟨rfl, hr2, hb2⟩
      rw [← Hstep.out] at hr2
      have Hr2 := Lib.hid hr2
      have hb3 : Below base w w2 := (hbel.alloc hsz _).trans hb2
      clear hr hr2 hb2
      go_wp2_with fail
      go_roundw
      case rel => exact ⟨k + 1, by omega, by go_num, Hr2.out, hb3⟩
      case measure => simp [intOf]; omega
    · obtain rfl : k = n := by omega
      have e : l.take k = l := List.take_of_length_le (by rw [← Hn.out]; exact Nat.le_refl _)
      rw [e] at hrd
      have Hrd := Lib.hid hrd
      clear hrd e
      go_wp2_with fail
      go_end0
      exact ⟨rfl, Hrd.out, hbel⟩

theorem readAll_zero (base g cap F : Nat) (bs : List Nat) (s : Nat → Nat) (ao : Option Addr) (c : Nat) (w : World) (h : RdB w base g cap bs s) :
    Calls Try.prog 79 #[.slice (some ⟨g, 0, none⟩) F cap, .slice ao 0 c] w fun e w' => e = .returned (.tuple #[]) ∧ RdB w' base g cap bs s ∧ Below base w w' := by
  have Hh := Lib.hid h
  clear h
  go_enter Try.func79, Try.ntmps79
  go_wp2_with fail
  go_rounds 1
  go_end0
  exact ⟨rfl, Hh.out, Below.refl _ _⟩

theorem readAll_any (base g cap F : Nat) (bs : List Nat) (s : Nat → Nat) (ao : Option Addr) (c : Nat) (l : List (Int × Int)) (n : Nat) (w : World) (Hn : Hid (n = l.length)) (hs : n ≤ 60) (hF : bs.length = F) (hcap : F ≤ cap) (hF10 : F ≤ 10)
    (Hfit : Hid (Fit F n l)) (hbase : base ≤ w.heap.size) (hlow : ∀ b off, 0 < n → ao = some ⟨b, off, none⟩ → b < base) (Hc : CallsAt w ao l) (h : RdB w base g cap bs s) :
    Calls Try.prog 79 #[.slice (some ⟨g, 0, none⟩) F cap, .slice ao n c] w fun e w' => e = .returned (.tuple #[]) ∧ RdB w' base g cap bs (l.foldl stpL s) ∧ Below base w w' := by
  by_cases h0 : n = 0
  · subst h0
    have : l = [] := List.eq_nil_of_length_eq_zero Hn.out.symm
    subst this
    exact readAll_zero base g cap F bs s ao c w h
  · rcases Hc with rfl | ⟨b, off, rfl, hc⟩
    · exact absurd Hn.out h0
    · exact readAll_pos base g cap F bs s b off c l n w Hn hs hF hcap hF10 Hfit hbase (hlow b off (by omega) rfl) (by rw [Hn.out]; exact hc) h

theorem calls_low {w : World} {ao : Option Addr} {l : List (Int × Int)} (h : CallsAt w ao l) (b off : Nat) (hn : 0 < l.length) (e : ao = some ⟨b, off, none⟩) : b < w.heap.size := by
  rcases h with rfl | ⟨b', off', e', hc⟩
  · simp at hn
  · rw [e] at e'
    obtain ⟨rfl, rfl⟩ : b = b' ∧ off = off' := by simpa using e'
    exact World.block_lt_of_cell? w _ (hc 0 hn).1

theorem readersBehind_any (F : Nat) (ao : Option Addr) (c : Nat) (l : List (Int × Int)) (n : Nat) (w : World) (Hn : Hid (n = l.length)) (hg : gdL (F : Int) l = true) (Hc : CallsAt w ao l) :
    Calls Try.prog 70 #[.int .i64 F, .slice ao n c] w fun e w' => ∃ bs : List Nat, bs.length = F ∧ e = .returned (.slice (some ⟨w.heap.size, 0, none⟩) F F) ∧ RdB w' w.heap.size w.heap.size F bs (playL F l) ∧ Below w.heap.size w w' := by
  have hff := gl_fr hg
  have hlen : n ≤ 60 := by rw [Hn.out]; exact gl_len2 hg
  have Hfit : Hid (Fit F n l) := fun i hi => gl_letter hg (by rw [← Hn.out]; exact hi)
  have HHc := Lib.hid Hc
  clear hg Hc
  go_enter Try.func70, Try.ntmps70
  go_wp2_with fail
  refine (readersBefore_any F w (by omega) (by omega)).mono ?_
  rintro e w1 ⟨bs, hl, rfl, hr, hb⟩
  have hlow : ∀ b off, 0 < n → ao = some ⟨b, off, none⟩ → b < w.heap.size := fun b off hn e => calls_low HHc.out b off (by rw [← Hn.out]; exact hn) e
  have hra := readAll_any w.heap.size w.heap.size F F bs (own0 F) ao c l n w1 Hn hlen hl (Nat.le_refl _) (by omega) Hfit hb.size hlow (HHc.out.kept hb) hr
  have Hb := Lib.hid hb
  clear hr hb
  go_wp2_with fail
  refine hra.mono ?_
  rintro e w2 ⟨rfl, hr2, hb2⟩
  have Hr2 := Lib.hid hr2
  have hb3 := Hb.out.trans hb2
  clear hr2 hra
  go_wp2_with fail
  go_ret
  exact ⟨bs, hl, rfl, Hr2.out, hb3⟩

/-- How many of the first k do not know all news. -/
def lackTo (F : Nat) (s : Nat → Nat) (k : Nat) : Nat := ((List.range k).filter fun i => decide (pc (s i) < F)).length
theorem lackTo_le (F : Nat) (s : Nat → Nat) (k : Nat) : lackTo F s k ≤ k := by
  have := List.length_filter_le (fun i => decide (pc (s i) < F)) (List.range k)
  simpa [lackTo] using this
theorem lackTo_yes {F : Nat} {s : Nat → Nat} {k : Nat} (h : pc (s k) < F) : lackTo F s (k + 1) = lackTo F s k + 1 := by simp [lackTo, List.range_succ, h]
theorem lackTo_no {F : Nat} {s : Nat → Nat} {k : Nat} (h : ¬ pc (s k) < F) : lackTo F s (k + 1) = lackTo F s k := by simp [lackTo, List.range_succ, h]

set_option maxRecDepth 20000 in
theorem lacking_any (base g cap F : Nat) (bs : List Nat) (s : Nat → Nat) (w : World) (hF : bs.length = F) (hcap : F ≤ cap) (hF10 : F ≤ 10) (h : RdB w base g cap bs s) :
    Calls Try.prog 74 #[.slice (some ⟨g, 0, none⟩) F cap] w fun e w' => e = .returned (.int .i64 (lackTo F s F)) ∧ Below w.heap.size w w' := by
  have Hh := Lib.hid h
  clear h
  go_enter Try.func74, Try.ntmps74
  go_wp2_with fail
  go_loopw [3, 8] (fun t i wr => ∃ k : Nat, k ≤ F ∧ i = .int .i64 k ∧ t = .int .i64 (lackTo F s k) ∧ Below w.heap.size w wr) (fun _ i _ => F - (intOf i).toNat)
  case atStart => exact ⟨0, Nat.zero_le _, rfl, rfl, Below.refl _ _⟩
  case round =>
    obtain ⟨k, hk, rfl, rfl, hbel⟩ := hrel
    have hle := lackTo_le F s k
    by_cases hlt : k < F
    · have hr := Hh.out.later hbel
      have hc := hr.cell k (by rw [hF]; exact hlt)
      have hset := (hr.2.2 k (by rw [hF]; exact hlt)).2
      generalize bs[k]'(by rw [hF]; exact hlt) = xk at hc hset
      have hsz := size_setD (s k)
      clear hr
      by_cases hpc : pc (s k) < F
      · have hyes := lackTo_yes hpc
        have hd : ((pc (s k) : Nat) : Int) < (F : Int) := by omega
        go_wp2_with (at_len; refine wpList_len_own _ rfl _ 72 rfl 3 4 Try.underlying72 (plainElem (H := Unit) Try.prog 4) xk 10 (setD (s k)) rfl hset ?_)
        go_wp2_with fail
        go_roundw
        case rel => exact ⟨k + 1, by omega, by go_num, by rw [hyes]; go_num, hbel⟩
        case measure => simp [intOf]; omega
      · have hno := lackTo_no hpc
        have hd : ¬ ((pc (s k) : Nat) : Int) < (F : Int) := by omega
        go_wp2_with (at_len; refine wpList_len_own _ rfl _ 72 rfl 3 4 Try.underlying72 (plainElem (H := Unit) Try.prog 4) xk 10 (setD (s k)) rfl hset ?_)
        go_wp2_with fail
        go_roundw
        case rel => exact ⟨k + 1, by omega, by go_num, by rw [hno], hbel⟩
        case measure => simp [intOf]; omega
    · obtain rfl : k = F := by omega
      go_wp2_with fail
      go_ret
      exact ⟨rfl, hbel⟩

end Go.Proofs.Ytolkfgjgnpjpkaa
