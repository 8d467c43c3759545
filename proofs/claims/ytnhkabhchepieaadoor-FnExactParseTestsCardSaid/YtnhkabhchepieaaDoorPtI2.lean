/- What tests a text is of: the program. -/
import Derived.Test.YtnhkabhchepieaaDoorPti
namespace Go.Proofs.YtnhkabhchepieaaDoor
open Go.ChangeShapes Go.WideShapes Go.ChangeAt Go.RowKit
set_option linter.unusedVariables false


set_option maxHeartbeats 1600000 in
set_option maxRecDepth 20000 in
theorem implPts_loop (s : ByteArray) (l : List UInt8) (Hl : Hid (l = s.data.toList)) (n : Nat) (Hn : Hid (n = s.size)) (h0 : 0 < n) (hs : n ≤ 1048576) (w : World) (hG : GlobOk w) :
    Calls Tryd.prog 14 #[.string s] w fun e w' => ∃ v X, e = .returned (.tuple #[v, .bool (mOK l)]) ∧ OwnSS w' w.heap.size v X (pR l) ∧ Below w.heap.size w w' := by
  obtain ⟨i2, hi, hz0, hz1, hz2⟩ := info_parts info49
  obtain ⟨q, hq⟩ : ∃ q, qN 47 13 l = q := ⟨_, rfl⟩
  have hS := splitQ 47 13 s l Hl.out (by rw [← Hn.out]; exact hs) (by decide) (by decide) w hG
  have hln := qN_len 47 13 l (by decide)
  have hok := iOK_mOK l
  rw [hq] at hS hln hok
  have hpl : ∀ j, j < q.length → (q.getD j []).length ≤ 1048576 := fun j hj => by
    have hm : q.getD j [] ∈ qN 47 13 l := by rw [hq]; simp [List.getD_eq_getElem?_getD, hj]
    have h1 := splitK_mem 47 _ l _ hm
    have h2 : l.length = n := by rw [Hl.out, Hn.out]; simp
    omega
  have hS2 : Calls Tryd.prog 39 #[.string s, .string ⟨#[47]⟩, .int .i64 13] w fun e w' => ∃ cap, e = .returned (.slice (some ⟨w.heap.size, 0, none⟩) q.length cap) ∧ (∀ j, j < q.length → w'.cell? ⟨w.heap.size, j, none⟩ = some (.string ⟨(q.getD j []).toArray⟩)) ∧ q.length ≤ cap ∧ Below w.heap.size w w' := hS
  have HS := Lib.hid hS2
  have Hok := Lib.hid hok
  have Hpl := Lib.hid hpl
  obtain ⟨hne, hne2⟩ := nonempty_of Hl.out (by rw [← Hn.out]; exact h0)
  have HNE := Lib.hid hne2
  obtain ⟨m, hm⟩ : ∃ m, q.length = m := ⟨_, rfl⟩
  rw [hm] at HS hln
  have Hm := Lib.hid hm
  have hm13 := hln.1
  clear hS hS2 hok hpl hq hm hln hne2
  go_enter Tryd.func14, Tryd.ntmps14
  go_wp2_with fail
  refine HS.out.mono ?_
  rintro e w1 ⟨cap, rfl, hcell, hcap, hb1⟩
  have Hcell := Lib.hid hcell
  have Hb1 := Lib.hid hb1
  have HG1 := Lib.hid (hG.kept hb1)
  have hs1 := hb1.size
  have hg1 : 0 < m → w.heap.size < w1.heap.size := fun h => World.block_lt_of_cell? w1 _ (hcell 0 h)
  clear hcell hb1
  go_wp2_with fail
  go_loopw [4, 14] (fun v i wr => ∃ k X, k ≤ m ∧ i = .int .i64 (k : Int) ∧ Hid ((q.take k).all wrB = true) ∧ OwnSS wr w1.heap.size v X ((q.map wrP).take k) ∧ Below w1.heap.size w1 wr) (fun _ i _ => m - (intOf i).toNat)
  case atStart => exact ⟨0, [], Nat.zero_le _, rfl, Lib.hid rfl, OwnSS.nil _ _, Below.refl _ _⟩
  case round =>
    obtain ⟨k, X, hk, rfl, hall, hor, hbel⟩ := hrel
    have hsz := hbel.size
    by_cases hlt : k < m
    · have hkq : k < q.length := by rw [Hm.out]; exact hlt
      have hz := (hbel.cell (p := ⟨w.heap.size, k, none⟩) (hg1 (by omega))).trans (Hcell.out k hlt)
      have hplk := Hpl.out k hkq
      have HL : Hid (((q.map wrP).take k).length = k) := Lib.hid (by rw [List.length_take, List.length_map]; omega)
      have hnx : (q.map wrP).take (k + 1) = (q.map wrP).take k ++ [wrP (q.getD k [])] := by
        rw [List.take_succ_eq_append_getElem (by rw [List.length_map]; exact hkq)]
        simp [List.getD_eq_getElem?_getD, hkq]
      obtain ⟨p, hp⟩ : ∃ p, q.getD k [] = p := ⟨_, rfl⟩
      have htk := take_one q k hkq
      rw [hp] at hz htk hplk hnx
      have Htk := Lib.hid htk
      have Hnx := Lib.hid hnx
      have Hmem : Hid (p ∈ q) := Lib.hid (by rw [← hp]; simp [List.getD_eq_getElem?_getD, hkq])
      have b0 : (0 : Int) ≤ (k : Int) := by omega
      have b1 : (k : Int) < (m : Int) := by omega
      have Hor := Lib.hid hor
      have Hbel := Lib.hid hbel
      have HW := Lib.hid (parseWires_any p hplk wr (HG1.out.kept hbel))
      clear htk hnx hor hbel hp hkq hplk
      cases hb : wrB p
      · rw [hb] at HW
        have Hno : Hid (mOK l = false) := Lib.hid (by
          rw [← Hok.out.1, iOK]
          have : q.all wrB = false := by rw [List.all_eq_false]; exact ⟨p, Hmem.out, by rw [hb]; simp⟩
          rw [this]; rfl)
        have HR := Lib.hid (pR_no Hno.out)
        clear hb hall
        go_wp2_with fail
        refine HW.out.mono ?_
        rintro e w3 ⟨v3, rfl, _, hb3⟩
        have HBl := Lib.hid (Hb1.out.trans ((Hbel.out.trans (hb3.mono hsz)).mono hs1))
        clear hb3
        go_wp2_with fail
        go_ret2
        rw [Hno.out, HR.out]
        exact ⟨_, [], rfl, OwnSS.nil _ _, HBl.out⟩
      · rw [hb] at HW
        have HwR : Hid (wrR p = wrP p) := Lib.hid (by rw [wrR, hb]; rfl)
        have Hall2 : Hid ((q.take (k + 1)).all wrB = true) := Lib.hid (by rw [Htk.out, List.all_append, hall.out]; simp [hb])
        rw [HwR.out] at HW
        clear hb hall
        go_wp2_with fail
        refine HW.out.mono ?_
        rintro e w3 ⟨v3, rfl, own3, hb3⟩
        obtain ⟨a3, c3, rfl, _⟩ := nums_shape own3 rfl
        have HP := Lib.hid (newRow Hor.out hsz hb3 own3)
        have Hb5 := Lib.hid ((Hbel.out.trans (hb3.mono hsz)).alloc (Nat.le_trans hsz hb3.size) (.cells #[.slice a3 (wrP p).length c3] 49))
        have hs5 : w1.heap.size ≤ (w3.alloc (.cells #[.slice a3 (wrP p).length c3] 49)).heap.size := Hb5.out.size
        obtain ⟨r, hr⟩ : ∃ r, (wrP p).length = r := ⟨_, rfl⟩
        rw [hr] at HP Hb5 hs5
        rw [hr]
        clear own3 hb3 hr
        go_wp2_with (at_builtin; refine push_row _ rfl _ _ 22 rfl w1.heap.size i2 Tryd.underlying22 hi hz0 hz1 hz2 _ X ((q.map wrP).take k) k HL.out rfl HP.out.own (by omega) (.slice a3 r c3) (wrP p) HP.out.new HP.out.hv HP.out.hX 1 w3.heap.size rfl HP.out.cell rfl HP.out.size ?_)
        intro v6 w6 own6 hgr6 hat6
        rw [← Hnx.out] at own6
        have Ho6 := Lib.hid own6
        have Hb6 := Lib.hid (Hb5.out.grown hgr6 hs5 (fun bb hb => (HP.out.own.1.lt bb hb).1))
        clear own6 hgr6 hat6 Hb5
        go_wp2_with fail
        go_roundw
        case rel => exact ⟨k + 1, _, by omega, by go_num, Hall2, Ho6.out, Hb6.out⟩
        case measure => simp [intOf]; omega
    · obtain rfl : k = m := by omega
      have hkk : ¬ (k : Int) < k := by omega
      have e : q.take k = q := List.take_of_length_le (by rw [Hm.out]; exact Nat.le_refl _)
      have e2 : (q.map wrP).take k = q.map wrP := List.take_of_length_le (by rw [List.length_map, Hm.out]; exact Nat.le_refl _)
      rw [e] at hall
      rw [e2] at hor
      have Hio : Hid (mOK l = wiB 10 (q.map wrP)) := Lib.hid (by rw [← Hok.out.1, iOK, hall.out, Bool.true_and])
      have Hlen : Hid (k = (q.map wrP).length) := Lib.hid (by rw [List.length_map, Hm.out])
      obtain ⟨ao, ca, rfl, _⟩ := hor.reads
      rw [← Hlen.out] at hor
      rw [← Hlen.out]
      have HA := Lib.hid (areTests_any 10 ao ca (q.map wrP) k wr Hlen (by omega) (Lib.hid (fun i => by
        by_cases hi : i < (q.map wrP).length
        · rw [List.length_map] at hi
          have : row (q.map wrP) i = wrP (q.getD i []) := by simp [row, List.getD_eq_getElem?_getD, hi]
          rw [this, wrP, List.length_map]
          have := (qN_len 43 11 (q.getD i []) (by decide)).1
          omega
        · have hi2 : q.length ≤ i := by rw [List.length_map] at hi; omega
          have : row (q.map wrP) i = [] := by simp [row, List.getD_eq_getElem?_getD, hi2]
          rw [this]; simp)) (Lib.hid (rows_own hor)))
      have Hor := Lib.hid hor
      have HBl := Lib.hid (Hb1.out.trans (hbel.mono hs1))
      clear e e2 hor hbel hall
      cases hw : wiB 10 (q.map wrP)
      · rw [hw] at HA Hio
        have HR := Lib.hid (pR_no Hio.out)
        clear hw
        go_wp2_with fail
        refine HA.out.mono ?_
        rintro e w' ⟨rfl, rfl⟩
        go_wp2_with fail
        go_ret2
        rw [Hio.out, HR.out]
        exact ⟨_, [], rfl, OwnSS.nil _ _, HBl.out⟩
      · rw [hw] at HA Hio
        have HR : Hid (pR l = q.map wrP) := Lib.hid (by rw [pR_yes HNE.out Hio.out, Hok.out.2 Hio.out])
        clear hw
        go_wp2_with fail
        refine HA.out.mono ?_
        rintro e w' ⟨rfl, rfl⟩
        go_wp2_with fail
        go_ret2
        rw [Hio.out, HR.out]
        exact ⟨_, X, rfl, Hor.out.weaken hs1, HBl.out⟩
theorem implPts_any (s : ByteArray) (l : List UInt8) (Hl : Hid (l = s.data.toList)) (n : Nat) (Hn : Hid (n = s.size)) (hs : n ≤ 1048576) (w : World) (hG : GlobOk w) :
    Calls Tryd.prog 14 #[.string s] w fun e w' => ∃ v X, e = .returned (.tuple #[v, .bool (pB l)]) ∧ OwnSS w' w.heap.size v X (pR l) ∧ Below w.heap.size w w' := by
  by_cases h0 : n = 0
  · obtain ⟨he, hl⟩ := empty_of Hl.out (by rw [← Hn.out]; exact h0)
    have hr : pR l = [] := by rw [hl]; rfl
    have hb : pB l = true := by rw [hl]; rfl
    rw [hb, hr]
    clear hl h0 hr hb
    go_enter Tryd.func14, Tryd.ntmps14
    go_wp2_with fail
    go_ret2
    exact ⟨_, [], rfl, OwnSS.nil _ _, Below.refl _ _⟩
  · obtain ⟨he, hl⟩ := nonempty_of Hl.out (by rw [← Hn.out]; omega)
    rw [pB_some hl]
    exact implPts_loop s l Hl n Hn (by omega) hs w hG

end Go.Proofs.YtnhkabhchepieaaDoor
