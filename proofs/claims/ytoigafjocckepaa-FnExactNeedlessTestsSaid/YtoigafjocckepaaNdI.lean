/- NeedlessTests: the program. -/
import Derived.Test.YtoigafjocckepaaNd0
import Derived.Test.YtoigafjocckepaaTuI
import Derived.Test.YtoigafjocckepaaCw
import Derived.Deep.RegionWith
import Derived.Maps.Own
import Derived.Maps.OwnOps
import Derived.Maps.OwnSet
import Derived.Maps.Ext
import Derived.Maps.Keyed
import Derived.DeepKeys4
import Derived.StringKeys
namespace Go.Proofs.Ytoigafjocckepaa
open Go.ChangeShapes Go.WideShapes Go.ChangeAt Go.RowKit Go.Maps
set_option linter.unusedVariables false


theorem bws_less (L : List (List Int)) (k : Nat) : bws (less L k) = (bws L).take k ++ (bws L).drop (k + 1) := by
  simp [bws, less, List.map_take, List.map_drop]
theorem concat_less (w : World) (b g off2 c1 c2 n k : Nat) (L : List (List Int)) (Hn : Hid (n = L.length)) (hk : k < n) (hn : n ≤ 12)
    (h0 : w.cell? ⟨b, 0, none⟩ = some (.slice (some ⟨g, 0, none⟩) k c1)) (h1 : w.cell? ⟨b, 1, none⟩ = some (.slice (some ⟨g, off2, none⟩) (n - (k + 1)) c2))
    (hc : ∀ i, i < n → w.cell? ⟨g, i, none⟩ = some (.int .u16 ((wa (bws L) i : Nat) : Int))) (hoff : n - (k + 1) = 0 ∨ off2 = k + 1) :
    Calls Try.prog 46 #[.slice (some ⟨b, 0, none⟩) 2 2] w fun e w' => ∃ a c, e = .returned (.slice a (n - 1) c) ∧ WLAt w' a (bws (less L k)) ∧ Below w.heap.size w w' := by
  have hM : (bws L).length = n := by rw [bws_length]; exact Hn.out.symm
  let A : Nat → List Nat := fun j => if j = 0 then (bws L).take k else if j = 1 then (bws L).drop (k + 1) else []
  have hl0 : ((bws L).take k).length = k := by rw [List.length_take]; omega
  have hl1 : ((bws L).drop (k + 1)).length = n - (k + 1) := by rw [List.length_drop]; omega
  have hfl2 : fl A 2 = bws (less L k) := by rw [bws_less]; simp [fl, A]
  have hfl : ∀ j, (fl A j).length ≤ 20000 := by
    intro j
    match j with
    | 0 => simp [fl]
    | 1 => simp [fl, A]; omega
    | j + 2 =>
      have : ∀ i, fl A (i + 2) = bws (less L k) := by
        intro i
        induction i with
        | zero => exact hfl2
        | succ i ih =>
          show fl A (i + 2) ++ A (i + 2) = _
          rw [ih]; simp [A]
      rw [this, bws_less, List.length_append, hl0, hl1]; omega
  have hAk : ∀ j, (A j).length ≤ 10000 := by
    intro j
    simp only [A]
    split
    · omega
    · split
      · omega
      · simp
  refine (concat_wl w b (fun j => if j = 0 then some ⟨g, 0, none⟩ else some ⟨g, off2, none⟩) (fun j => if j = 0 then c1 else c2) A (Lib.hid fun j => ⟨by have := hfl j; omega, by have := hAk j; omega⟩) (Lib.hid fun j hj => ?_)).mono ?_
  · rcases (by omega : j = 0 ∨ j = 1) with rfl | rfl
    · refine ⟨by show w.cell? _ = some (.slice (some ⟨g, 0, none⟩) ((bws L).take k).length c1); rw [hl0]; exact h0, .inr ⟨g, 0, rfl, fun i hi => ?_⟩, fun h => by simp at h⟩
      have hi2 : i < k := by have hi3 : i < ((bws L).take k).length := hi; omega
      show w.cell? ⟨g, 0 + i, none⟩ = some (.int .u16 ((wa ((bws L).take k) i : Nat) : Int))
      rw [Nat.zero_add, hc i (by omega)]
      have e : wa ((bws L).take k) i = wa (bws L) i := by simp [wa, List.getD_eq_getElem?_getD, List.getElem?_take_of_lt hi2]
      rw [e]
    · refine ⟨by show w.cell? _ = some (.slice (some ⟨g, off2, none⟩) ((bws L).drop (k + 1)).length c2); rw [hl1]; exact h1, ?_, fun h => by simp at h⟩
      rcases hoff with h | h
      · exact .inl (List.eq_nil_of_length_eq_zero (by show ((bws L).drop (k + 1)).length = 0; omega))
      · refine .inr ⟨g, off2, rfl, fun i hi => ?_⟩
        have hi2 : i < n - (k + 1) := by have hi3 : i < ((bws L).drop (k + 1)).length := hi; omega
        show w.cell? ⟨g, off2 + i, none⟩ = some (.int .u16 ((wa ((bws L).drop (k + 1)) i : Nat) : Int))
        rw [h, hc (k + 1 + i) (by omega)]
        have e : wa ((bws L).drop (k + 1)) i = wa (bws L) (k + 1 + i) := by simp [wa, List.getD_eq_getElem?_getD, List.getElem?_drop]
        rw [e]
  · rintro e w' ⟨v, rfl, own, hb⟩
    rw [hfl2] at own
    have hll : (bws (less L k)).length = n - 1 := by rw [bws_less, List.length_append, hl0, hl1]; omega
    rw [hll] at own
    obtain ⟨a, c, rfl, hw⟩ := wl_at own hll.symm
    exact ⟨a, c, rfl, hw, hb⟩

set_option maxHeartbeats 3200000 in
set_option maxRecDepth 20000 in
theorem implNd_any (w : World) (f : Int) (ao : Option Addr) (cap : Nat) (L : List (List Int)) (n : Nat) (Hn : Hid (n = L.length)) (hn : n ≤ 1048576) (hL : Hid (∀ i, (row L i).length ≤ 1048576)) (Hc : RowsAt w ao L) (m : Int) :
    Calls Try.prog 24 #[.int .i64 f, .slice ao n cap, .int .i64 m] w fun e w' => ∃ v, e = .returned (.tuple #[v, .bool (tuR f L m)]) ∧ w'.ownsRow w.heap.size 3 1 v (ndR f L m).length (ns (ndR f L m)) ∧ Below w.heap.size w w' := by
  obtain ⟨i3, hi3, hz30, hz31, hz32⟩ := info_parts info3
  have HTu := Lib.hid (implTu_any w f ao cap L n Hn hn hL Hc m)
  have HC := Lib.hid Hc
  clear Hc
  cases hr : tuR f L m
  · have hR : ndR f L m = [] := by simp [ndR, hr]
    rw [hR]
    rw [hr] at HTu
    clear hR hr
    cases hb : tuB f L m
    · rw [hb] at HTu
      clear hb
      go_enter Try.func24, Try.ntmps24
      go_wp2_with fail
      refine HTu.out.mono ?_
      rintro e w1 ⟨rfl, hb1⟩
      have Hb1 := Lib.hid hb1
      clear hb1
      go_wp2_with fail
      go_ret2
      exact ⟨_, rfl, World.ownsRow_nil _ _ _ _, Hb1.out⟩
    · rw [hb] at HTu
      clear hb
      go_enter Try.func24, Try.ntmps24
      go_wp2_with fail
      refine HTu.out.mono ?_
      rintro e w1 ⟨rfl, hb1⟩
      have Hb1 := Lib.hid hb1
      clear hb1
      go_wp2_with fail
      go_ret2
      exact ⟨_, rfl, World.ownsRow_nil _ _ _ _, Hb1.out⟩
  · have hp := tu_wi hr
    have hb : tuB f L m = true := by simp only [tuR, Bool.and_eq_true] at hr; exact hr.1
    have Hw := Lib.hid hp.1
    have hf := (wi_parts hp.1).1
    have hn12 : n ≤ 12 := by have := (wi_parts hp.1).2.1; have := Hn.out; omega
    obtain ⟨F, rfl⟩ := Int.eq_ofNat_of_zero_le (a := f) (by omega)
    have hF : F ≤ 10 := by omega
    have hR : ndR (F : Int) L m = nd F L m n := by
      unfold ndR; rw [hr, Int.toNat_natCast, Hn.out]; simp
    rw [hR]
    rw [hr, hb] at HTu
    clear hR hr hb hp hf
    go_enter Try.func24, Try.ntmps24
    go_wp2_with fail
    refine HTu.out.mono ?_
    rintro e w1 ⟨rfl, hb1⟩
    have Hb1 := Lib.hid hb1
    have HC1 := Lib.hid (HC.out.kept hb1)
    clear hb1
    go_wp2_with fail
    refine (wireListsOf_any ao cap (F : Int) L n w1 Hn Hw HC1).mono ?_
    rintro e w2 ⟨v, rfl, own2, hb2⟩
    have Hb2 := Lib.hid (Hb1.out.trans (hb2.mono Hb1.out.size))
    by_cases hn0 : n = 0
    · subst hn0
      obtain ⟨av, cv, rfl, _⟩ := wl_at own2 (by rw [bws_length]; exact Hn.out)
      clear own2 hb2
      go_wp2_with fail
      go_rounds 1
      go_ret2
      exact ⟨_, rfl, World.ownsRow_nil _ _ _ _, Hb2.out⟩
    obtain ⟨g, c, rfl, hgb⟩ := own_pos own2 (by omega)
    have hcc := own_cap own2
    have Ho2 := Lib.hid own2
    have Hcell : Hid (∀ i, i < n → w2.cell? ⟨g, i, none⟩ = some (.int .u16 ((wa (bws L) i : Nat) : Int))) := Lib.hid fun i hi => by
      have h1 := own2.cellAt i (by omega)
      rw [ws_get _ _ (by rw [bws_length, ← Hn.out]; exact hi)] at h1
      exact h1
    clear own2 hb2
    go_wp2_with fail
    go_loopw [10, 30] (fun v i wr => ∃ k : Nat, k ≤ n ∧ i = .int .i64 ((k : Nat) : Int) ∧ wr.ownsRow w2.heap.size 3 1 v (nd F L m k).length (ns (nd F L m k)) ∧ Below w2.heap.size w2 wr) (fun _ i _ => n - (intOf i).toNat)
    case atStart => exact ⟨0, Nat.zero_le _, rfl, World.ownsRow_nil _ _ _ _, Below.refl _ _⟩
    case round =>
      obtain ⟨k, hk, rfl, hor, hbel⟩ := hrel
      by_cases hlt : k < n
      · have hkL : k < L.length := by have := Hn.out; omega
        have hsz := hbel.size
        have hki : (k : Int) < n := by omega
        have hk0 : (0 : Int) ≤ k := by omega
        have hkc : (k : Int) ≤ (c : Int) := by omega
        have hk3 : (0 : Int) ≤ (k : Int) + 1 := by omega
        have hk4 : (k : Int) + 1 ≤ (n : Int) := by omega
        have hk5 : (n : Int) ≤ (c : Int) := by omega
        have hw1 : IntKind.i64.wrap ((k : Int) + 1) = (k : Int) + 1 := IntWalk.i64_in _ (by omega)
        have hw2 : ((k : Int) + 1).toNat = k + 1 := by omega
        obtain ⟨off2, hif, hoff⟩ : ∃ off2, (if c = k + 1 then (some ⟨g, 0, none⟩ : Option Addr) else some ⟨g, k + 1, none⟩) = some ⟨g, off2, none⟩ ∧ (n - (k + 1) = 0 ∨ off2 = k + 1) := by
          by_cases hc1 : c = k + 1
          · exact ⟨0, by rw [if_pos hc1], .inl (by omega)⟩
          · exact ⟨k + 1, by rw [if_neg hc1], .inr rfl⟩
        have Hor := Lib.hid hor
        have Hbel := Lib.hid hbel
        have Hcr : Hid (∀ i, i < n → wr.cell? ⟨g, i, none⟩ = some (.int .u16 ((wa (bws L) i : Nat) : Int))) := Lib.hid fun i hi => cell_old hbel (Hcell.out i hi)
        have Hw1 := Lib.hid (less_wi Hw.out hkL)
        have Hn1 : Hid (n - 1 = (bws (less L k)).length) := by show _ = _; rw [bws_length, less_len hkL, ← Hn.out]
        have hndl := nd_len F L m k
        have Hs : Hid (nd F L m (k + 1) = if m ≤ gt F (less L k) then nd F L m k ++ [(k : Int)] else nd F L m k) := Lib.hid rfl
        obtain ⟨K, hK⟩ : ∃ K, (nd F L m k).length = K := ⟨_, rfl⟩
        rw [hK] at Hor hndl
        have HKe := Lib.hid hK
        have h10 : (wr.alloc (.cells #[.slice (some ⟨g, 0, none⟩) k c, .slice (some ⟨g, off2, none⟩) (n - (k + 1)) (c - (k + 1))] 47)).drew.cell? ⟨wr.heap.size, 0, none⟩ = some (.slice (some ⟨g, 0, none⟩) k c) := by
          show (wr.alloc _).cell? _ = _
          rw [cell_of_row _ _ _ _ _ _ (heap_alloc_new wr _)]; rfl
        have h11 : (wr.alloc (.cells #[.slice (some ⟨g, 0, none⟩) k c, .slice (some ⟨g, off2, none⟩) (n - (k + 1)) (c - (k + 1))] 47)).drew.cell? ⟨wr.heap.size, 1, none⟩ = some (.slice (some ⟨g, off2, none⟩) (n - (k + 1)) (c - (k + 1))) := by
          show (wr.alloc _).cell? _ = _
          rw [cell_of_row _ _ _ _ _ _ (heap_alloc_new wr _)]; rfl
        have bd : Below wr.heap.size wr (wr.alloc (.cells #[.slice (some ⟨g, 0, none⟩) k c, .slice (some ⟨g, off2, none⟩) (n - (k + 1)) (c - (k + 1))] 47)).drew := ((Below.refl _ _).alloc (Nat.le_refl _) _).drew
        have HCC := Lib.hid (concat_less _ wr.heap.size g off2 c (c - (k + 1)) n k L Hn hlt hn12 h10 h11 (fun i hi => cell_old bd (Hcr.out i hi)) hoff)
        have Hba := Lib.hid (Hbel.out.trans (bd.mono hsz))
        have Hora := Lib.hid (own_later Hor.out bd)
        have HgE : gtW (bws (less L k)) (n - 1) (F : Int) [] (la F F) = gt F (less L k) := by unfold gt; rw [Hn1.out, bws_length]
        have HGT := fun (W : World) (a : Option Addr) (c : Nat) (h : Hid (WLAt W a (bws (less L k)))) => greatestTold_any W F hF a c (bws (less L k)) (n - 1) Hn1 (by omega) (Lib.hid (bws_lt Hw1.out)) h
        simp only [HgE] at HGT
        obtain ⟨G, hG⟩ : ∃ G, gt F (less L k) = G := ⟨_, rfl⟩
        simp only [hG] at HGT
        rw [hG] at Hs
        have HGT2 := Lib.hid HGT
        have hsa := Hba.out.size
        clear hor hbel hK h10 h11 bd HgE HGT hG Hor Hbel hoff
        go_upto_region 9 with (fail)
        go_region_with (first
          | (go_at_call 46; refine HCC.out.mono ?_; rintro e w4 ⟨a4, c4, rfl, hw4, hb4⟩; have Hw4 := Lib.hid hw4; have Hb4 := Lib.hid (Hba.out.trans (hb4.mono hsa)); have Ho4 := Lib.hid (own_later Hora.out hb4); have hs4 := Hb4.out.size; clear hw4 hb4)
          | (go_at_call 43; refine (HGT2.out w4 a4 c4 Hw4).mono ?_; rintro e w5 ⟨rfl, hb5⟩; have Hb5 := Lib.hid (Hb4.out.trans (hb5.mono hs4)); have Ho5 := Lib.hid (own_later Ho4.out hb5); have hs5 := Hb5.out.size; clear hb5)
          | fail)
        all_goals (
          clear hw1 hw2 hif
          cases hd : decide (m ≤ G)
          · have hs := Hs.out
            rw [if_neg (of_decide_eq_false hd)] at hs
            have Hs1 := Lib.hid hs
            have hd2 : ¬ m ≤ G := of_decide_eq_false hd
            clear hd hs
            go_wp2_with fail
            go_roundw
            case rel => exact ⟨k + 1, by omega, by go_num, by rw [Hs1.out, HKe.out]; exact Ho5.out, Hb5.out⟩
            case measure => simp [intOf]; omega
          · have hs := Hs.out
            rw [if_pos (of_decide_eq_true hd)] at hs
            have Hs1 := Lib.hid hs
            have bd : Below w5.heap.size w5 (w5.alloc (.cells #[.int .i64 (k : Int)] 3)) := (Below.refl w5.heap.size w5).alloc (Nat.le_refl _) _
            have Hrow7 := Lib.hid (own_later Ho5.out bd)
            have Hb7 := Lib.hid (Hb5.out.trans (bd.mono hs5))
            have hszW : (w5.alloc (.cells #[.int .i64 (k : Int)] 3)).heap.size = w5.heap.size + 1 := by simp
            have hck : (w5.alloc (.cells #[.int .i64 (k : Int)] 3)).cell? ⟨w5.heap.size, 0, none⟩ = some (.int .i64 (k : Int)) := by rw [cell_of_row _ _ _ _ _ _ (heap_alloc_new w5 _)]; rfl
            have Hck := Lib.hid hck
            have hd2 : m ≤ G := of_decide_eq_true hd
            clear hd hs bd hck Ho5 Hb5
            go_wp2_with (at_builtin; refine push_num _ rfl _ _ 36 rfl w2.heap.size i3 Try.underlying36 hi3 hz30 hz31 hz32 _ (nd F L m k) K rfl Hrow7.out (by omega) (k : Int) 1 w5.heap.size rfl Hck.out (by rw [hszW]; omega) ?_)
            intro g9 c9 w9 own9 hgr9 hat9
            have Ho9 : Hid (w9.ownsRow w2.heap.size 3 1 (.slice (some ⟨g9, 0, none⟩) (K + 1) c9) (nd F L m (k + 1)).length (ns (nd F L m (k + 1)))) := Lib.hid (by rw [Hs1.out, List.length_append, HKe.out]; exact own9)
            have Hb9 := Lib.hid (Hb7.out.grown hgr9 (by rw [hszW]; omega) (fun bb hb => (Hrow7.out.lt bb hb).1))
            clear own9 hgr9 hat9 Hb7
            go_wp2_with fail
            go_roundw
            case rel => exact ⟨k + 1, by omega, by go_num, Ho9.out, Hb9.out⟩
            case measure => simp [intOf]; omega)
      · have hkn : n = k := by omega
        subst hkn
        have Hor := Lib.hid hor
        clear hor
        go_wp2_with fail
        go_ret2
        exact ⟨_, rfl, own_base Hb2.out.size Hor.out, Hb2.out.trans (hbel.mono Hb2.out.size)⟩

end Go.Proofs.Ytoigafjocckepaa
