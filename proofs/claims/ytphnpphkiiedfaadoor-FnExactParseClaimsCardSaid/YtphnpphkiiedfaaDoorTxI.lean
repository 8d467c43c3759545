/- The text of claims: the program. -/
import Derived.Test.YtphnpphkiiedfaaDoorTxS
import Derived.Test.YtphnpphkiiedfaaDoorShelf
namespace Go.Proofs.YtphnpphkiiedfaaDoor
open Go.ChangeShapes Go.WideShapes Go.ChangeAt Go.RowKit
set_option linter.unusedVariables false


theorem info9 : (Tryd.prog.info? 9).map (fun i => (i.zero, i.size, i.bytes)) = some (some (.string ⟨#[]⟩), 1, 16) := by kernel_rfl
/-- The parts, so far; the rest is empty. -/
def stp (l : List Snd) (k : Nat) : List Value := ((l.take k).map fun p => Value.string ⟨(cw p).toArray⟩) ++ List.replicate (l.length - k) (.string ⟨#[]⟩)
theorem stp_zero (l : List Snd) : stp l 0 = List.replicate l.length (.string ⟨#[]⟩) := by simp [stp]
theorem stp_all (l : List Snd) : stp l l.length = l.map fun p => Value.string ⟨(cw p).toArray⟩ := by simp [stp]
theorem stp_set (l : List Snd) (n k : Nat) (hn : n = l.length) (h : k < n) : (stp l k).set k (.string ⟨(cw (sf l k, st l k, sm l k)).toArray⟩) = stp l (k + 1) := by
  subst hn
  unfold stp
  rw [List.set_append_right _ _ (by simp; omega)]
  have e1 : ((l.take k).map fun p => Value.string ⟨(cw p).toArray⟩).length = k := by simp; omega
  rw [e1, Nat.sub_self, show l.length - k = (l.length - (k + 1)) + 1 by omega, List.replicate_succ, List.set_cons_zero, List.take_succ_eq_append_getElem h, List.map_append, s_get l k h]
  simp
theorem zero_strings (n : Nat) : (madeCells #[.string ⟨#[]⟩] (n * 1)).toList = List.replicate n (.string ⟨#[]⟩) := by
  rw [Nat.mul_one, toList_madeCells_one]
theorem maps_q (l : List Snd) : (l.map fun p => (⟨(cw p).toArray⟩ : ByteArray)).map (·.data.toList) = l.map cw := by
  rw [List.map_map]; apply List.map_congr_left; intro p _; rfl
theorem own_cells' {w : World} {base g n cap : Nat} {X : List Value} (h : w.ownsRow base 9 1 (.slice (some ⟨g, 0, none⟩) n cap) n X) (j : Nat) (hj : j < n) : w.cell? ⟨g, j, none⟩ = X[j]? := h.cellAt j (by omega)
theorem dig1 (x : Int) (h0 : 0 ≤ x) (h1 : x < 10) : Lib.decDigits x.toNat = [dgt x] := by rw [Lib.decDigits_one (by omega)]; rfl
theorem itoa_dgt (x : Int) (w : World) (h0 : 0 ≤ x) (h1 : x < 10) : Calls Tryd.prog 18 #[.int .i64 x] w fun e w' => e = .returned (.string ⟨#[dgt x]⟩) ∧ w' = w := by
  have h := itoa_small x.toNat (by omega) w
  rw [dig1 x h0 h1, Int.toNat_of_nonneg h0] at h
  exact h
theorem vL (a b : Int) (z : Bool) (c : UInt8) (h : sg z = c) : (⟨(cw (a, b, z)).toArray⟩ : ByteArray) = ⟨#[dgt a]⟩ ++ ⟨#[c]⟩ ++ ⟨#[dgt b]⟩ := by
  subst h; apply ByteArray.ext; apply Array.toList_inj.1; rw [ba_app, ba_app]; rfl
theorem setNew (wr : World) (g k : Nat) (v : Value) (x y z : Value) (t : TypeId) : ((wr.setCell ⟨g, k, none⟩ v).alloc (.cells #[x, y, z] t)).drew.cell? ⟨wr.heap.size, 0, none⟩ = some x ∧ ((wr.setCell ⟨g, k, none⟩ v).alloc (.cells #[x, y, z] t)).drew.cell? ⟨wr.heap.size, 1, none⟩ = some y := by
  have h := heap_alloc_new (wr.setCell ⟨g, k, none⟩ v) (.cells #[x, y, z] t)
  rw [show (wr.setCell ⟨g, k, none⟩ v).heap.size = wr.heap.size by simp [World.setCell]] at h
  exact ⟨cell_of_row _ wr.heap.size 0 _ _ _ h, cell_of_row _ wr.heap.size 1 _ _ _ h⟩
set_option maxHeartbeats 400000 in
set_option maxRecDepth 20000 in
theorem implCT_pos (w : World) (b off : Nat) (cap : Nat) (l : List Snd) (n : Nat) (Hn : Hid (n = l.length)) (hs : n ≤ 20) (hcap : n ≤ cap)
    (Hc : Hid (∀ i, i < n → Sat3 w b off l i)) (Hg : Hid (clB 8 l = true))
    (Hq : Hid (∀ k, k < n → (0 ≤ sf l k ∧ sf l k < 8) ∧ (0 ≤ st l k ∧ st l k < 8))) :
    Calls Tryd.prog 8 #[.slice (some ⟨b, off, none⟩) n cap] w fun e w' => e = .returned (.tuple #[.string ⟨(Lib.join (l.map cw) [44]).toArray⟩, .bool true]) ∧ Below w.heap.size w w' := by
  obtain ⟨i0, hi, hz0, hz1, hz2⟩ := info_parts info9
  have Hz := Lib.hid (And.intro hz0 (And.intro hz1 hz2))
  clear hz0 hz1 hz2
  have HA := Lib.hid (implAC_any w 8 (some ⟨b, off, none⟩) cap l n Hn (by omega) (.inr ⟨b, off, rfl, by rw [← Hn.out]; exact Hc.out⟩))
  rw [Hg.out] at HA
  go_enter Tryd.func8, Tryd.ntmps8
  go_wp2_with fail
  refine HA.out.mono ?_
  rintro e w1 ⟨rfl, hb1⟩
  have hs1 := hb1.size
  go_wp2_with (refine wpList_make_full _ rfl _ _ 40 rfl w.heap.size 9 i0 (.string ⟨#[]⟩) 1 Tryd.underlying40 hi Hz.out.1 Hz.out.2.1 .i64 .i64 _ _ n rfl rfl rfl rfl ?_ ?_ ?_ ?_)
  · rw [Hz.out.2.2]; omega
  · unfold maxLen; omega
  · exact hs1
  intro w2 hown hgr
  have hown2 : w2.ownsRow w.heap.size 9 1 (.slice (some ⟨w1.heap.size, 0, none⟩) n n) n (List.replicate n (.string ⟨#[]⟩)) := by rw [← zero_strings]; simpa using hown
  have Hown0 := Lib.hid hown2
  have Hb2 := Lib.hid (hb1.grown hgr hs1 (fun _ h => by cases h))
  obtain ⟨g, hg⟩ : ∃ g, g = w1.heap.size := ⟨_, rfl⟩
  rw [← hg] at hs1 Hown0 ⊢
  clear hown hown2 hgr hb1 hg
  go_wp2_with fail
  go_loopw [16] (fun i wr => ∃ k : Nat, k ≤ n ∧ i = .int .i64 k ∧ wr.ownsRow w.heap.size 9 1 (.slice (some ⟨g, 0, none⟩) n n) n (stp l k) ∧ Below w.heap.size w wr) (fun i _ => n - (intOf i).toNat)
  case atStart => exact ⟨0, Nat.zero_le _, rfl, by rw [stp_zero, ← Hn.out]; exact Hown0.out, Hb2.out⟩
  case round =>
    obtain ⟨k, hk, rfl, hor, hbel⟩ := hrel
    by_cases hlt : k < n
    · have hsz := hbel.size
      have HQ := Lib.hid (Hq.out k hlt)
      obtain ⟨hz0', hz1', hz2'⟩ := (Hc.out k hlt).kept hbel
      have hb0 : (0 : Int) ≤ k := by omega
      have hb1 : (k : Int) < n := by omega
      have HSS := Lib.hid (stp_set l n k Hn.out hlt)
      obtain ⟨x, hx⟩ : ∃ x, sf l k = x := ⟨_, rfl⟩
      obtain ⟨y, hy⟩ : ∃ y, st l k = y := ⟨_, rfl⟩
      obtain ⟨z, hz⟩ : ∃ z, sm l k = z := ⟨_, rfl⟩
      rw [hx] at HQ hz0'
      rw [hy] at HQ hz1'
      rw [hz] at hz2'
      rw [hx, hy, hz] at HSS
      have hgs := (hor.lt g rfl).2
      have hne : g ≠ wr.heap.size := by omega
      have hne2 : wr.heap.size ≠ g := by omega
      clear hx hy hz
      cases z
      · have hnew := heap_alloc_new wr (.cells #[.int .i64 x, .int .i64 y, .bool false] 37)
        have HI : Hid ((wr.alloc (.cells #[.int .i64 x, .int .i64 y, .bool false] 37)).drew.cell? ⟨wr.heap.size, 0, none⟩ = some (.int .i64 x) ∧ (wr.alloc (.cells #[.int .i64 x, .int .i64 y, .bool false] 37)).drew.cell? ⟨wr.heap.size, 1, none⟩ = some (.int .i64 y)) :=
          ⟨cell_of_row _ wr.heap.size 0 _ _ _ hnew, cell_of_row _ wr.heap.size 1 _ _ _ hnew⟩
        have hor2 := hor.alloc (.cells #[.int .i64 x, .int .i64 y, .bool false] 37)
        obtain ⟨u0, z0⟩ := own_some hor2 k (by rw [Nat.mul_one]; exact hlt)
        have zf0 := hor2.frozenAt k
        have hst := (hor.stored k (.string (⟨#[dgt x]⟩ ++ ⟨#[35]⟩ ++ ⟨#[dgt y]⟩))).1
        rw [vL x y false 35 rfl] at HSS
        rw [HSS.out] at hst
        have Hst := Lib.hid ((hst.alloc (.cells #[.int .i64 x, .int .i64 y, .bool false] 37)).drew)
        have Hbn := Lib.hid (((hbel.setCell (p := ⟨g, k, none⟩) hs1 (.string (⟨#[dgt x]⟩ ++ ⟨#[35]⟩ ++ ⟨#[dgt y]⟩))).alloc (by simp; omega) (.cells #[.int .i64 x, .int .i64 y, .bool false] 37)).drew)
        have HI2 := Lib.hid (fun v => setNew wr g k v (.int .i64 x) (.int .i64 y) (.bool false) 37)
        clear hor hor2 hst hnew
        go_wp2_with fail
        go_region_held3 (fun w' => w'.cell? ⟨wr.heap.size, 0, none⟩ = some (.int .i64 x) ∧ w'.cell? ⟨wr.heap.size, 1, none⟩ = some (.int .i64 y))
          (first | exact HI.out | exact HI2.out _ | go_keep)
          (first
            | (go_at_call 18; first | (go_at_call_of 18 (Value.int .i64 x); refine (itoa_dgt x _ HQ.out.1.1 (by have := HQ.out.1.2; omega)).mono ?_; rintro e w2 ⟨rfl, rfl⟩) | (refine (itoa_dgt y _ HQ.out.2.1 (by have := HQ.out.2.2; omega)).mono ?_; rintro e w2 ⟨rfl, rfl⟩))
            | fail)
        go_wp2_with fail
        go_roundw
        case rel => exact ⟨k + 1, by omega, by go_num, Hst.out, Hbn.out⟩
        case measure => simp [intOf]; omega
      · have hnew := heap_alloc_new wr (.cells #[.int .i64 x, .int .i64 y, .bool true] 37)
        have HI : Hid ((wr.alloc (.cells #[.int .i64 x, .int .i64 y, .bool true] 37)).drew.cell? ⟨wr.heap.size, 0, none⟩ = some (.int .i64 x) ∧ (wr.alloc (.cells #[.int .i64 x, .int .i64 y, .bool true] 37)).drew.cell? ⟨wr.heap.size, 1, none⟩ = some (.int .i64 y)) :=
          ⟨cell_of_row _ wr.heap.size 0 _ _ _ hnew, cell_of_row _ wr.heap.size 1 _ _ _ hnew⟩
        have hor2 := hor.alloc (.cells #[.int .i64 x, .int .i64 y, .bool true] 37)
        obtain ⟨u0, z0⟩ := own_some hor2 k (by rw [Nat.mul_one]; exact hlt)
        have zf0 := hor2.frozenAt k
        have hst := (hor.stored k (.string (⟨#[dgt x]⟩ ++ ⟨#[61]⟩ ++ ⟨#[dgt y]⟩))).1
        rw [vL x y true 61 rfl] at HSS
        rw [HSS.out] at hst
        have Hst := Lib.hid ((hst.alloc (.cells #[.int .i64 x, .int .i64 y, .bool true] 37)).drew)
        have Hbn := Lib.hid (((hbel.setCell (p := ⟨g, k, none⟩) hs1 (.string (⟨#[dgt x]⟩ ++ ⟨#[61]⟩ ++ ⟨#[dgt y]⟩))).alloc (by simp; omega) (.cells #[.int .i64 x, .int .i64 y, .bool true] 37)).drew)
        have HI2 := Lib.hid (fun v => setNew wr g k v (.int .i64 x) (.int .i64 y) (.bool true) 37)
        clear hor hor2 hst hnew
        go_wp2_with fail
        go_region_held3 (fun w' => w'.cell? ⟨wr.heap.size, 0, none⟩ = some (.int .i64 x) ∧ w'.cell? ⟨wr.heap.size, 1, none⟩ = some (.int .i64 y))
          (first | exact HI.out | exact HI2.out _ | go_keep)
          (first
            | (go_at_call 18; first | (go_at_call_of 18 (Value.int .i64 x); refine (itoa_dgt x _ HQ.out.1.1 (by have := HQ.out.1.2; omega)).mono ?_; rintro e w2 ⟨rfl, rfl⟩) | (refine (itoa_dgt y _ HQ.out.2.1 (by have := HQ.out.2.2; omega)).mono ?_; rintro e w2 ⟨rfl, rfl⟩))
            | fail)
        go_wp2_with fail
        go_roundw
        case rel => exact ⟨k + 1, by omega, by go_num, Hst.out, Hbn.out⟩
        case measure => simp [intOf]; omega
    · obtain rfl : k = n := by omega
      have e : stp l k = l.map fun p => Value.string ⟨(cw p).toArray⟩ := by rw [Hn.out, stp_all]
      rw [e] at hor
      have hcells : Hid (∀ (j : Nat) x, (l.map fun p => (⟨(cw p).toArray⟩ : ByteArray))[j]? = some x → wr.cell? ⟨g, 0 + j, none⟩ = some (.string x)) := fun j x hx => by
        have hx2 : (l.map fun p => Value.string ⟨(cw p).toArray⟩)[j]? = some (.string x) := by
          simp only [List.getElem?_map, Option.map_eq_some_iff] at hx ⊢
          obtain ⟨p, h1, h2⟩ := hx
          exact ⟨p, h1, by rw [h2]⟩
        have hj : j < (l.map fun p => Value.string ⟨(cw p).toArray⟩).length := (List.getElem?_eq_some_iff.1 hx2).1
        have h3 := own_cells' hor j (by simpa [← Hn.out] using hj)
        rw [hx2] at h3
        rw [Nat.zero_add]
        exact h3
      have hgs := (hor.lt g rfl).2
      have hml : (l.map fun p => (⟨(cw p).toArray⟩ : ByteArray)).length = k := by simp [← Hn.out]
      have hjl : Hid ((Lib.join ((l.map fun p => (⟨(cw p).toArray⟩ : ByteArray)).map (·.data.toList)) [44]).length ≤ 140737488355328) := by
        show _ ≤ _
        rw [maps_q]
        have h1 := tx_join l l.length (Nat.le_refl _)
        rw [List.take_of_length_le (Nat.le_refl _)] at h1
        rw [← h1]
        have h2 := tx_le l l.length
        have := Hn.out
        omega
      have HJ := Lib.hid (join_any g 0 k (l.map fun p => (⟨(cw p).toArray⟩ : ByteArray)) ⟨#[44]⟩ wr hcells.out hgs (by rw [hml]; omega) (by rw [hml]; exact Nat.le_refl _) hjl.out)
      rw [hml, maps_q] at HJ
      clear hor hcells hjl hml e hlt hk
      go_wp2_with fail
      refine HJ.out.mono ?_
      rintro e w3 ⟨rfl, hb3⟩
      go_wp2_with fail
      go_ret2
      exact ⟨rfl, hbel.trans (hb3.mono hbel.size)⟩
theorem implCT_nil (w : World) (ao : Option Addr) (cap : Nat) (Hg : Hid (clB 8 [] = true)) :
    Calls Tryd.prog 8 #[.slice ao 0 cap] w fun e w' => e = .returned (.tuple #[.string ⟨(Lib.join (([] : List Snd).map cw) [44]).toArray⟩, .bool true]) ∧ Below w.heap.size w w' := by
  obtain ⟨i0, hi, hz0, hz1, hz2⟩ := info_parts info9
  have Hz := Lib.hid (And.intro hz0 (And.intro hz1 hz2))
  clear hz0 hz1 hz2
  have HA := Lib.hid (implAC_any w 8 ao cap [] 0 (Lib.hid rfl) (by omega) (.inl rfl))
  rw [Hg.out] at HA
  go_enter Tryd.func8, Tryd.ntmps8
  go_wp2_with fail
  refine HA.out.mono ?_
  rintro e w1 ⟨rfl, hb1⟩
  have hs1 := hb1.size
  go_wp2_with (refine wpList_make_full _ rfl _ _ 40 rfl w.heap.size 9 i0 (.string ⟨#[]⟩) 1 Tryd.underlying40 hi Hz.out.1 Hz.out.2.1 .i64 .i64 _ _ 0 rfl rfl rfl rfl ?_ ?_ ?_ ?_)
  · omega
  · unfold maxLen; omega
  · exact hs1
  intro w2 hown hgr
  have Hb2 := Lib.hid (hb1.grown hgr hs1 (fun _ h => by cases h))
  clear hown hgr
  go_wp2_with fail
  go_loopw [16] (fun i wr => i = .int .i64 0 ∧ Below w.heap.size w wr) (fun _ _ => 0)
  case atStart => exact ⟨rfl, Hb2.out⟩
  case round =>
    obtain ⟨rfl, hbel⟩ := hrel
    go_wp2_with fail
    refine (join_none _ _ _ _).mono ?_
    rintro e w3 ⟨rfl, rfl⟩
    go_wp2_with fail
    go_ret2
    exact ⟨rfl, hbel⟩
theorem implCT_any (w : World) (ao : Option Addr) (cap : Nat) (l : List Snd) (n : Nat) (Hn : Hid (n = l.length)) (hn : n ≤ 1048576) (hcap : n ≤ cap) (Hc : SendsAt w ao l) :
    Calls Tryd.prog 8 #[.slice ao n cap] w fun e w' => e = .returned (.tuple #[.string (cTxt l), .bool (clB 8 l)]) ∧ Below w.heap.size w w' := by
  have HA := Lib.hid (implAC_any w 8 ao cap l n Hn hn Hc)
  have HHc := Lib.hid Hc
  clear Hc
  cases hg : clB 8 l
  · have e : cTxt l = ⟨#[]⟩ := by simp [cTxt, hg]
    rw [e]
    rw [hg] at HA
    clear hg e
    go_enter Tryd.func8, Tryd.ntmps8
    go_wp2_with fail
    refine HA.out.mono ?_
    rintro e w1 ⟨rfl, hb⟩
    go_wp2_with fail
    go_ret2
    exact ⟨rfl, hb⟩
  · have hq := cl_q Hn.out hg
    have e : cTxt l = ⟨(Lib.join (l.map cw) [44]).toArray⟩ := by simp [cTxt, hg]
    rw [e]
    rcases HHc.out with rfl | ⟨b, off, rfl, hc⟩
    · obtain rfl : n = 0 := Hn.out
      exact implCT_nil w ao cap hg
    · exact implCT_pos w b off cap l n Hn hq.1 hcap (by rw [Hn.out]; exact hc) hg hq.2

end Go.Proofs.YtphnpphkiiedfaaDoor
