/- The text of sends: the program. -/
import Derived.Test.YtmhpbabpdhkmdaaDoorTxS
import Derived.Test.YtmhpbabpdhkmdaaDoorShelf
namespace Go.Proofs.YtmhpbabpdhkmdaaDoor
open Go.ChangeShapes Go.WideShapes Go.ChangeAt Go.RowKit
set_option linter.unusedVariables false

theorem info9 : (Tryd.prog.info? 9).map (fun i => (i.zero, i.size, i.bytes)) = some (some (.string ⟨#[]⟩), 1, 16) := by kernel_rfl
/-- The parts, so far; the rest is empty. -/
def stp (l : List Snd) (k : Nat) : List Value := ((l.take k).map fun p => Value.string ⟨(cw p).toArray⟩) ++ List.replicate (l.length - k) (.string ⟨#[]⟩)
theorem stp_zero (l : List Snd) : stp l 0 = List.replicate l.length (.string ⟨#[]⟩) := by simp [stp]
theorem stp_all (l : List Snd) : stp l l.length = l.map fun p => Value.string ⟨(cw p).toArray⟩ := by simp [stp]
theorem stp_set (l : List Snd) (n k : Nat) (hn : n = l.length) (h : k < n) : (stp l k).set k (.string ⟨(cw (sq l k)).toArray⟩) = stp l (k + 1) := by
  subst hn
  unfold stp
  rw [List.set_append_right _ _ (by simp; omega)]
  have e1 : ((l.take k).map fun p => Value.string ⟨(cw p).toArray⟩).length = k := by simp; omega
  rw [e1, Nat.sub_self, show l.length - k = (l.length - (k + 1)) + 1 by omega, List.replicate_succ, List.set_cons_zero, List.take_succ_eq_append_getElem h, List.map_append, s_get l k h]
  simp [sq]
theorem zero_strings (n : Nat) : (madeCells #[.string ⟨#[]⟩] (n * 1)).toList = List.replicate n (.string ⟨#[]⟩) := by
  rw [Nat.mul_one, toList_madeCells_one]
theorem maps_q (l : List Snd) : (l.map fun p => (⟨(cw p).toArray⟩ : ByteArray)).map (·.data.toList) = l.map cw := by
  rw [List.map_map]; apply List.map_congr_left; intro p _; rfl
theorem own_cells' {w : World} {base g n cap : Nat} {X : List Value} (h : w.ownsRow base 9 1 (.slice (some ⟨g, 0, none⟩) n cap) n X) (j : Nat) (hj : j < n) : w.cell? ⟨g, j, none⟩ = X[j]? := h.cellAt j (by omega)

theorem itoa_nb (x : Int) (w : World) (h : 0 ≤ x ∧ x ≤ 60) : Calls Tryd.prog 18 #[.int .i64 x] w fun e w' => e = .returned (.string (nb x)) ∧ w' = w := by
  have h1 := itoa_small x.toNat (by omega) w
  rw [nt_dec x h.1 (by omega), Int.toNat_of_nonneg h.1] at h1
  exact h1
theorem vL (a b c : Int) : (⟨(cw (a, b, c)).toArray⟩ : ByteArray) = nb a ++ ⟨#[62]⟩ ++ nb b ++ ⟨#[64]⟩ ++ nb c := by
  apply ByteArray.ext; apply Array.toList_inj.1; rw [cwb]
theorem setNew (wr : World) (g k : Nat) (v : Value) (x y z : Value) (t : TypeId) : ((wr.setCell ⟨g, k, none⟩ v).alloc (.cells #[x, y, z] t)).drew.cell? ⟨wr.heap.size, 0, none⟩ = some x ∧ ((wr.setCell ⟨g, k, none⟩ v).alloc (.cells #[x, y, z] t)).drew.cell? ⟨wr.heap.size, 1, none⟩ = some y ∧ ((wr.setCell ⟨g, k, none⟩ v).alloc (.cells #[x, y, z] t)).drew.cell? ⟨wr.heap.size, 2, none⟩ = some z := by
  have h := heap_alloc_new (wr.setCell ⟨g, k, none⟩ v) (.cells #[x, y, z] t)
  rw [show (wr.setCell ⟨g, k, none⟩ v).heap.size = wr.heap.size by simp [World.setCell]] at h
  exact ⟨cell_of_row _ wr.heap.size 0 _ _ _ h, cell_of_row _ wr.heap.size 1 _ _ _ h, cell_of_row _ wr.heap.size 2 _ _ _ h⟩

set_option maxHeartbeats 400000 in
set_option maxRecDepth 20000 in
theorem implST_pos (w : World) (b off : Nat) (cap : Nat) (l : List Snd) (n : Nat) (Hn : Hid (n = l.length)) (hn0 : 0 < n) (hs : n ≤ 40) (hcap : n ≤ cap)
    (Hc : Hid (∀ i, i < n → Sat3 w b off l i)) :
    Calls Tryd.prog 8 #[.slice (some ⟨b, off, none⟩) n cap] w fun e w' => e = .returned (.tuple #[.string (sTxt l), .bool (smB l)]) ∧ Below w.heap.size w w' := by
  obtain ⟨i0, hi, hz0, hz1, hz2⟩ := info_parts info9
  have Hz := Lib.hid (And.intro hz0 (And.intro hz1 hz2))
  clear hz0 hz1 hz2
  go_enter Tryd.func8, Tryd.ntmps8
  go_wp2_with (refine wpList_make_full _ rfl _ _ 40 rfl w.heap.size 9 i0 (.string ⟨#[]⟩) 1 Tryd.underlying40 hi Hz.out.1 Hz.out.2.1 .i64 .i64 _ _ n rfl rfl rfl rfl ?_ ?_ ?_ ?_)
  · rw [Hz.out.2.2]; omega
  · unfold maxLen; omega
  · exact Nat.le_refl _
  intro w2 hown hgr
  have hown2 : w2.ownsRow w.heap.size 9 1 (.slice (some ⟨w.heap.size, 0, none⟩) n n) n (List.replicate n (.string ⟨#[]⟩)) := by rw [← zero_strings]; simpa using hown
  have Hown0 := Lib.hid hown2
  have Hb2 := Lib.hid ((Below.refl w.heap.size w).grown hgr (Nat.le_refl _) (fun _ h => by cases h))
  obtain ⟨g, hg⟩ : ∃ g, g = w.heap.size := ⟨_, rfl⟩
  have hs1 : w.heap.size ≤ g := by omega
  rw [show (Addr.mk w.heap.size 0 none) = ⟨g, 0, none⟩ by rw [hg]] at Hown0 ⊢
  clear hown hown2 hgr hg
  go_wp2_with fail
  go_loopw [15] (fun i wr => ∃ k : Nat, k ≤ n ∧ i = .int .i64 k ∧ Hid (∀ j, j < k → ok1 (sq l j) = true) ∧ wr.ownsRow w.heap.size 9 1 (.slice (some ⟨g, 0, none⟩) n n) n (stp l k) ∧ Below w.heap.size w wr) (fun i _ => n - (intOf i).toNat)
  case atStart => exact ⟨0, Nat.zero_le _, rfl, fun j hj => absurd hj (by omega), by rw [stp_zero, ← Hn.out]; exact Hown0.out, Hb2.out⟩
  case round =>
    obtain ⟨k, hk, rfl, hall, hor, hbel⟩ := hrel
    by_cases hlt : k < n
    · have hsz := hbel.size
      obtain ⟨hz0', hz1', hz2'⟩ := (Hc.out k hlt).kept hbel
      have hb0 : (0 : Int) ≤ k := by omega
      have hb1 : (k : Int) < n := by omega
      have HSS := Lib.hid (stp_set l n k Hn.out hlt)
      have HY : Hid (ok1 (sq l k) = true → Hid (∀ j, j < k + 1 → ok1 (sq l j) = true)) := Lib.hid fun ht => Lib.hid fun j hj => by
          by_cases hjk : j = k
          · subst hjk; exact ht
          · exact hall.out j (by omega)
      have HN : Hid (ok1 (sq l k) = false → smB l = false ∧ sTxt l = ⟨#[]⟩) := Lib.hid fun ht => by
        have h1 := okl_no (by rw [← Hn.out]; exact hlt) ht
        exact ⟨h1, by simp [sTxt, h1]⟩
      unfold sq at HY HN HSS
      obtain ⟨x, hx⟩ : ∃ x, sf l k = x := ⟨_, rfl⟩
      obtain ⟨y, hy⟩ : ∃ y, st l k = y := ⟨_, rfl⟩
      obtain ⟨z, hz⟩ : ∃ z, sm l k = z := ⟨_, rfl⟩
      rw [hx] at HY HN HSS hz0'
      rw [hy] at HY HN HSS hz1'
      rw [hz] at HY HN HSS hz2'
      have hgs := (hor.lt g rfl).2
      have hne : g ≠ wr.heap.size := by omega
      have hne2 : wr.heap.size ≠ g := by omega
      clear hx hy hz
      have HBL := Lib.hid (hbel.alloc hsz (.cells #[.int .i64 x, .int .i64 y, .int .i64 z] 37))
      cases hmx : miB x
      · have Hno := Lib.hid (HN.out (by simp [ok1, hmx]))
        have HX := Lib.hid (fun w => isMinute_any x w)
        rw [hmx] at HX
        clear hmx hor
        go_wp2_with fail
        refine (HX.out _).mono ?_
        rintro e w' ⟨rfl, rfl⟩
        go_wp2_with fail
        go_ret2
        exact ⟨by rw [Hno.out.1, Hno.out.2]; rfl, HBL.out⟩
      cases hmy : miB y
      · have Hno := Lib.hid (HN.out (by simp [ok1, hmy]))
        have HX := Lib.hid (fun w => isMinute_any x w)
        have HY := Lib.hid (fun w => isMinute_any y w)
        rw [hmx] at HX
        rw [hmy] at HY
        clear hmx hmy hor
        go_wp2_with fail
        refine (HX.out _).mono ?_
        rintro e w' ⟨rfl, rfl⟩
        go_wp2_with fail
        refine (HY.out _).mono ?_
        rintro e w' ⟨rfl, rfl⟩
        go_wp2_with fail
        go_ret2
        exact ⟨by rw [Hno.out.1, Hno.out.2]; rfl, HBL.out⟩
      cases hmz : miB z
      · have Hno := Lib.hid (HN.out (by simp [ok1, hmz]))
        have HX := Lib.hid (fun w => isMinute_any x w)
        have HY := Lib.hid (fun w => isMinute_any y w)
        have HZ := Lib.hid (fun w => isMinute_any z w)
        rw [hmx] at HX
        rw [hmy] at HY
        rw [hmz] at HZ
        clear hmx hmy hmz hor
        go_wp2_with fail
        refine (HX.out _).mono ?_
        rintro e w' ⟨rfl, rfl⟩
        go_wp2_with fail
        refine (HY.out _).mono ?_
        rintro e w' ⟨rfl, rfl⟩
        go_wp2_with fail
        refine (HZ.out _).mono ?_
        rintro e w' ⟨rfl, rfl⟩
        go_wp2_with fail
        go_ret2
        exact ⟨by rw [Hno.out.1, Hno.out.2]; rfl, HBL.out⟩
      have HQ := Lib.hid (And.intro (mi_at hmx) (And.intro (mi_at hmy) (mi_at hmz)))
      have hall2 := HY.out (by simp [ok1, hmx, hmy, hmz])
      have HX := Lib.hid (fun w => isMinute_any x w)
      have HYm := Lib.hid (fun w => isMinute_any y w)
      have HZ := Lib.hid (fun w => isMinute_any z w)
      rw [hmx] at HX
      rw [hmy] at HYm
      rw [hmz] at HZ
      clear hmx hmy hmz HY HN
      have sx := nb_le x
      have sy := nb_le y
      have sz := nb_le z
      have q1 : ¬ 9223372036854775807 < (nb x).size + 1 := by omega
      have q2 : ¬ 9223372036854775807 < (nb x).size + 1 + (nb y).size := by omega
      have q3 : ¬ 9223372036854775807 < (nb x).size + 1 + (nb y).size + 1 := by omega
      have q4 : ¬ 9223372036854775807 < (nb x).size + 1 + (nb y).size + 1 + (nb z).size := by omega
      have hnew := heap_alloc_new wr (.cells #[.int .i64 x, .int .i64 y, .int .i64 z] 37)
      have HI : Hid ((wr.alloc (.cells #[.int .i64 x, .int .i64 y, .int .i64 z] 37)).drew.cell? ⟨wr.heap.size, 0, none⟩ = some (.int .i64 x) ∧ (wr.alloc (.cells #[.int .i64 x, .int .i64 y, .int .i64 z] 37)).drew.cell? ⟨wr.heap.size, 1, none⟩ = some (.int .i64 y) ∧ (wr.alloc (.cells #[.int .i64 x, .int .i64 y, .int .i64 z] 37)).drew.cell? ⟨wr.heap.size, 2, none⟩ = some (.int .i64 z)) :=
        ⟨cell_of_row _ wr.heap.size 0 _ _ _ hnew, cell_of_row _ wr.heap.size 1 _ _ _ hnew, cell_of_row _ wr.heap.size 2 _ _ _ hnew⟩
      have hor2 := hor.alloc (.cells #[.int .i64 x, .int .i64 y, .int .i64 z] 37)
      obtain ⟨u0, z0⟩ := own_some hor2 k (by rw [Nat.mul_one]; exact hlt)
      have zf0 := hor2.frozenAt k
      have hst := (hor.stored k (.string (nb x ++ ⟨#[62]⟩ ++ nb y ++ ⟨#[64]⟩ ++ nb z))).1
      rw [vL x y z] at HSS
      rw [HSS.out] at hst
      have Hst := Lib.hid ((hst.alloc (.cells #[.int .i64 x, .int .i64 y, .int .i64 z] 37)).drew)
      have Hbn := Lib.hid (((hbel.setCell (p := ⟨g, k, none⟩) hs1 (.string (nb x ++ ⟨#[62]⟩ ++ nb y ++ ⟨#[64]⟩ ++ nb z))).alloc (by simp; omega) (.cells #[.int .i64 x, .int .i64 y, .int .i64 z] 37)).drew)
      have HI2 := Lib.hid (fun v => setNew wr g k v (.int .i64 x) (.int .i64 y) (.int .i64 z) 37)
      clear hor hor2 hst hnew
      go_wp2_with fail
      refine (HX.out _).mono ?_
      rintro e w' ⟨rfl, rfl⟩
      go_wp2_with fail
      refine (HYm.out _).mono ?_
      rintro e w' ⟨rfl, rfl⟩
      go_wp2_with fail
      refine (HZ.out _).mono ?_
      rintro e w' ⟨rfl, rfl⟩
      go_wp2_with fail
      go_region_held3 (fun w' => w'.cell? ⟨wr.heap.size, 0, none⟩ = some (.int .i64 x) ∧ w'.cell? ⟨wr.heap.size, 1, none⟩ = some (.int .i64 y) ∧ w'.cell? ⟨wr.heap.size, 2, none⟩ = some (.int .i64 z))
        (first | exact HI.out | exact HI2.out _ | go_keep)
        (first
          | (go_at_call 18; first | (go_at_call_of 18 (Value.int .i64 x); refine (itoa_nb x _ HQ.out.1).mono ?_; rintro e w2 ⟨rfl, rfl⟩) | (go_at_call_of 18 (Value.int .i64 y); refine (itoa_nb y _ HQ.out.2.1).mono ?_; rintro e w2 ⟨rfl, rfl⟩) | (refine (itoa_nb z _ HQ.out.2.2).mono ?_; rintro e w2 ⟨rfl, rfl⟩))
          | fail)
      go_wp2_with fail
      go_roundw
      case rel => exact ⟨k + 1, by omega, by go_num, hall2, Hst.out, Hbn.out⟩
      case measure => simp [intOf]; omega
    · obtain rfl : k = n := by omega
      have hsm : smB l = true := okl_yes (by rw [← Hn.out]; exact hs) (fun j hj => hall.out j (by rw [Hn.out]; exact hj))
      have HT : Hid (sTxt l = ⟨(Lib.join (l.map cw) [59]).toArray⟩ ∧ smB l = true) := Lib.hid ⟨by simp [sTxt, hsm], hsm⟩
      have e : stp l k = l.map fun p => Value.string ⟨(cw p).toArray⟩ := by rw [Hn.out, stp_all]
      rw [e] at hor
      have hcells : Hid (∀ (j : Nat) x, (l.map fun p => (⟨(cw p).toArray⟩ : ByteArray))[j]? = some x → wr.cell? ⟨g, 0 + j, none⟩ = some (.string x)) := fun j x hx => by
        have hx2 : (l.map fun p => Value.string ⟨(cw p).toArray⟩)[j]? = some (.string x) := by
          simp only [List.getElem?_map, Option.map_eq_some_iff] at hx ⊢
          obtain ⟨p, h1, h2⟩ := hx
          exact ⟨p, h1, by rw [h2]⟩
        have hj : j < (l.map fun p => Value.string ⟨(cw p).toArray⟩).length := (List.getElem?_eq_some_iff.1 hx2).1
        have h3 := own_cells' hor j (by simpa [← Hn.out] using hj)
        rw [hx2] at h3
        rw [Nat.zero_add]
        exact h3
      have hgs := (hor.lt g rfl).2
      have hml : (l.map fun p => (⟨(cw p).toArray⟩ : ByteArray)).length = k := by simp [← Hn.out]
      have hjl : Hid ((Lib.join ((l.map fun p => (⟨(cw p).toArray⟩ : ByteArray)).map (·.data.toList)) [59]).length ≤ 140737488355328) := by
        show _ ≤ _
        rw [maps_q]
        have h1 := tx_join l l.length (Nat.le_refl _)
        rw [List.take_of_length_le (Nat.le_refl _)] at h1
        rw [← h1]
        have h2 := tx_le l l.length
        have := Hn.out
        omega
      have HJ := Lib.hid (join_any g 0 k (l.map fun p => (⟨(cw p).toArray⟩ : ByteArray)) ⟨#[59]⟩ wr hcells.out hgs (by rw [hml]; omega) (by rw [hml]; exact Nat.le_refl _) hjl.out)
      rw [hml, maps_q] at HJ
      clear hor hcells hjl hml e hlt hk hsm
      go_wp2_with fail
      refine HJ.out.mono ?_
      rintro e w3 ⟨rfl, hb3⟩
      go_wp2_with fail
      go_ret2
      exact ⟨by rw [HT.out.1, HT.out.2]; rfl, hbel.trans (hb3.mono hbel.size)⟩
theorem implST_nil (w : World) (ao : Option Addr) (cap : Nat) :
    Calls Tryd.prog 8 #[.slice ao 0 cap] w fun e w' => e = .returned (.tuple #[.string (sTxt []), .bool (smB [])]) ∧ Below w.heap.size w w' := by
  obtain ⟨i0, hi, hz0, hz1, hz2⟩ := info_parts info9
  have Hz := Lib.hid (And.intro hz0 (And.intro hz1 hz2))
  have HT : Hid (sTxt [] = ⟨#[]⟩ ∧ smB [] = true) := Lib.hid ⟨by simp [sTxt, smB, Lib.join_nil], rfl⟩
  rw [HT.out.1, HT.out.2]
  clear hz0 hz1 hz2
  go_enter Tryd.func8, Tryd.ntmps8
  go_wp2_with (refine wpList_make_full _ rfl _ _ 40 rfl w.heap.size 9 i0 (.string ⟨#[]⟩) 1 Tryd.underlying40 hi Hz.out.1 Hz.out.2.1 .i64 .i64 _ _ 0 rfl rfl rfl rfl ?_ ?_ ?_ ?_)
  · omega
  · unfold maxLen; omega
  · exact Nat.le_refl _
  intro w2 hown hgr
  have Hb2 := Lib.hid ((Below.refl w.heap.size w).grown hgr (Nat.le_refl _) (fun _ h => by cases h))
  clear hown hgr
  go_wp2_with fail
  go_loopw [15] (fun i wr => i = .int .i64 0 ∧ Below w.heap.size w wr) (fun _ _ => 0)
  case atStart => exact ⟨rfl, Hb2.out⟩
  case round =>
    obtain ⟨rfl, hbel⟩ := hrel
    go_wp2_with fail
    refine (join_none _ _ _ _).mono ?_
    rintro e w3 ⟨rfl, rfl⟩
    go_wp2_with fail
    go_ret2
    exact ⟨rfl, hbel⟩
theorem implST_any (w : World) (ao : Option Addr) (cap : Nat) (l : List Snd) (n : Nat) (Hn : Hid (n = l.length)) (hn : n ≤ 1048576) (hcap : n ≤ cap) (Hc : SendsAt w ao l) :
    Calls Tryd.prog 8 #[.slice ao n cap] w fun e w' => e = .returned (.tuple #[.string (sTxt l), .bool (smB l)]) ∧ Below w.heap.size w w' := by
  by_cases h40 : n ≤ 40
  · rcases Hc with rfl | ⟨b, off, rfl, hc⟩
    · obtain rfl : n = 0 := Hn.out
      exact implST_nil w ao cap
    · by_cases h0 : n = 0
      · subst h0
        obtain rfl : l = [] := List.eq_nil_of_length_eq_zero Hn.out.symm
        exact implST_nil w _ cap
      · exact implST_pos w b off cap l n Hn (by omega) h40 hcap (by rw [Hn.out]; exact hc)
  · have e := okl_long (l := l) (by rw [← Hn.out]; omega)
    have e2 : sTxt l = ⟨#[]⟩ := by simp [sTxt, e]
    rw [e, e2]
    have hbig : (40 : Int) < (n : Int) := by omega
    clear e e2
    go_enter Tryd.func8, Tryd.ntmps8
    go_wp2_with fail
    go_ret2
    exact ⟨rfl, Below.refl _ _⟩

end Go.Proofs.YtmhpbabpdhkmdaaDoor
