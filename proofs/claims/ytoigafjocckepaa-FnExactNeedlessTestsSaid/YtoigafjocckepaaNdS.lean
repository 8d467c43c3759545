/- NeedlessTests: the model. -/
import Derived.Test.YtoigafjocckepaaNd0
import Derived.Test.YtoigafjocckepaaTuS
import Derived.Maps.Own
import Derived.Maps.OwnOps
import Derived.Maps.OwnSet
import Derived.Maps.Ext
import Derived.Maps.Keyed
import Derived.DeepKeys4
import Derived.StringKeys
namespace Go.Proofs.Ytoigafjocckepaa
open Go.ChangeShapes Go.WideShapes Go.ChangeAt Go.RowKit Go.Maps
set_option linter.unusedVariables false


set_option maxHeartbeats 1600000 in
set_option maxRecDepth 20000 in
theorem specNd_any (w : World) (f : Int) (ao : Option Addr) (cap : Nat) (L : List (List Int)) (n : Nat) (Hn : Hid (n = L.length)) (hn : n ≤ 1048576) (hL : Hid (∀ i, (row L i).length ≤ 1048576)) (Hd : RowsAt w ao L ∧ n ≤ cap) (m : Int) :
    Calls Try.prog 23 #[.int .i64 f, .slice ao n cap, .int .i64 m] w fun e w' => ∃ v, e = .returned (.tuple #[v, .bool (tuR f L m)]) ∧ w'.ownsRow w.heap.size 3 1 v (ndR f L m).length (ns (ndR f L m)) ∧ Below w.heap.size w w' := by
  obtain ⟨i3, hi3, hz30, hz31, hz32⟩ := info_parts info3
  have HC := Lib.hid Hd.1
  have hcap := Hd.2
  clear Hd
  cases hw : wiB f L
  · have hB : tuR f L m = false := by simp [tuR, tuB, hw]
    have hR : ndR f L m = [] := by simp [ndR, hB]
    rw [hR, hB]
    have Hw := Lib.hid hw
    clear hR hB hw
    go_enter Try.func23, Try.ntmps23
    go_wp2_with fail
    refine (wiGood_any f ao cap L n w Hn hn hL HC).mono ?_
    rintro e w' ⟨rfl, rfl⟩
    rw [Hw.out]
    go_wp2_with fail
    go_ret2
    exact ⟨_, rfl, World.ownsRow_nil _ _ _ _, Below.refl _ _⟩
  · cases hc : decide (0 ≤ m ∧ m ≤ f)
    · have hB : tuR f L m = false := by unfold tuR tuB; rw [hw, hc]; rfl
      have hR : ndR f L m = [] := by simp [ndR, hB]
      rw [hR, hB]
      have Hw := Lib.hid hw
      have Hv := Lib.hid hc
      clear hR hB hw hc
      go_enter Try.func23, Try.ntmps23
      go_wp2_with fail
      refine (wiGood_any f ao cap L n w Hn hn hL HC).mono ?_
      rintro e w' ⟨rfl, rfl⟩
      rw [Hw.out]
      go_wp2_with fail
      refine (l1In_any m 0 f w).mono ?_
      rintro e w' ⟨rfl, rfl⟩
      rw [Hv.out]
      go_wp2_with fail
      go_ret2
      exact ⟨_, rfl, World.ownsRow_nil _ _ _ _, Below.refl _ _⟩
    · have hBe : tuR f L m = decide (m ≤ gt f.toNat L) := by unfold tuR tuB; rw [hw, hc]; simp
      have Hw := Lib.hid hw
      have Hv := Lib.hid hc
      have hf := (wi_parts hw).1
      have hn12 : n ≤ 12 := by have := (wi_parts hw).2.1; have := Hn.out; omega
      have hm := of_decide_eq_true hc
      obtain ⟨F, rfl⟩ := Int.eq_ofNat_of_zero_le (a := f) (by omega)
      obtain ⟨m, rfl⟩ := Int.eq_ofNat_of_zero_le (a := m) (by omega)
      have hF : F ≤ 10 := by omega
      have hmF : m ≤ F := by omega
      rw [Int.toNat_natCast] at hBe
      cases ht : decide ((m : Int) ≤ gt F L)
      · rw [ht] at hBe
        have hR : ndR (F : Int) L m = [] := by simp [ndR, hBe]
        rw [hR, hBe]
        have Ht := Lib.hid ht
        clear hR hBe hw hc hf hm ht
        go_enter Try.func23, Try.ntmps23
        go_wp2_with fail
        refine (wiGood_any (F : Int) ao cap L n w Hn hn hL HC).mono ?_
        rintro e w' ⟨rfl, rfl⟩
        rw [Hw.out]
        go_wp2_with fail
        refine (l1In_any (m : Int) 0 (F : Int) w).mono ?_
        rintro e w' ⟨rfl, rfl⟩
        rw [Hv.out]
        go_wp2_with fail
        refine (wiTells_any w F m hF hmF ao cap L n Hn Hw HC).mono ?_
        rintro e w2 ⟨rfl, hb2⟩
        rw [Hn.out, gt_is hF hmF L, Ht.out]
        have Hb := Lib.hid hb2
        clear hb2
        go_wp2_with fail
        go_ret2
        exact ⟨_, rfl, World.ownsRow_nil _ _ _ _, Hb.out⟩
      · rw [ht] at hBe
        have hR : ndR (F : Int) L m = nd F L m n := by
          unfold ndR; rw [hBe, Int.toNat_natCast, Hn.out]; simp
        rw [hR, hBe]
        have Ht := Lib.hid ht
        clear hR hBe hw hc hf hm ht
        go_enter Try.func23, Try.ntmps23
        go_wp2_with fail
        refine (wiGood_any (F : Int) ao cap L n w Hn hn hL HC).mono ?_
        rintro e w' ⟨rfl, rfl⟩
        rw [Hw.out]
        go_wp2_with fail
        refine (l1In_any (m : Int) 0 (F : Int) w).mono ?_
        rintro e w' ⟨rfl, rfl⟩
        rw [Hv.out]
        go_wp2_with fail
        refine (wiTells_any w F m hF hmF ao cap L n Hn Hw HC).mono ?_
        rintro e w2 ⟨rfl, hb2⟩
        have htT : tlW (bws L) n [] (la F m) = true := by rw [Hn.out, gt_is hF hmF L]; exact Ht.out
        rw [htT]
        have Hb2 := Lib.hid hb2
        clear hb2 htT
        go_wp2_with fail
        go_loopw [8, 29] (fun v i wr => ∃ k : Nat, k ≤ n ∧ i = .int .i64 ((k : Nat) : Int) ∧ wr.ownsRow w.heap.size 3 1 v (nd F L m k).length (ns (nd F L m k)) ∧ Below w.heap.size w wr) (fun _ i _ => n - (intOf i).toNat)
        case atStart => exact ⟨0, Nat.zero_le _, rfl, World.ownsRow_nil _ _ _ _, Hb2.out⟩
        case round =>
          obtain ⟨k, hk, rfl, hor, hbel⟩ := hrel
          by_cases hlt : k < n
          · have hkL : k < L.length := by have := Hn.out; omega
            have hsz := hbel.size
            have hki : (k : Int) < n := by omega
            have hk0 : (0 : Int) ≤ k := by omega
            have Hor := Lib.hid hor
            have Hbel := Lib.hid hbel
            have HL := Lib.hid (wiLess_any ao cap L n k wr Hn hn12 hcap hlt (Lib.hid (HC.out.kept hbel)))
            have Hn1 : Hid (n - 1 = (less L k).length) := by show _ = _; rw [less_len hkL, ← Hn.out]
            have Hw1 := Lib.hid (less_wi Hw.out hkL)
            have hndl := nd_len F L m k
            have Hs : Hid (nd F L m (k + 1) = if (m : Int) ≤ gt F (less L k) then nd F L m k ++ [(k : Int)] else nd F L m k) := Lib.hid rfl
            obtain ⟨K, hK⟩ : ∃ K, (nd F L m k).length = K := ⟨_, rfl⟩
            rw [hK] at Hor hndl
            have HKe := Lib.hid hK
            clear hor hbel hK
            go_wp2_with fail
            refine HL.out.mono ?_
            rintro e w3 ⟨a3, c3, rfl, hr3, hb3⟩
            have Hr3 := Lib.hid hr3
            have Hb3 := Lib.hid (Hbel.out.trans (hb3.mono hsz))
            have Ho3 := Lib.hid (own_later Hor.out hb3)
            clear hr3 hb3 Hor Hbel
            go_wp2_with fail
            refine (wiTells_any w3 F m hF hmF a3 c3 (less L k) (n - 1) Hn1 Hw1 Hr3).mono ?_
            rintro e w4 ⟨rfl, hb4⟩
            rw [Hn1.out, gt_is hF hmF (less L k)]
            have Hb4 := Lib.hid (Hb3.out.trans (hb4.mono Hb3.out.size))
            have Ho4 := Lib.hid (own_later Ho3.out hb4)
            have hs4 := Hb4.out.size
            clear hb4 Hb3 Ho3
            cases hd : decide ((m : Int) ≤ gt F (less L k))
            · have hs := Hs.out
              rw [if_neg (of_decide_eq_false hd)] at hs
              have Hs1 := Lib.hid hs
              clear hd hs
              go_wp2_with fail
              go_roundw
              case rel => exact ⟨k + 1, by omega, by go_num, by rw [Hs1.out, HKe.out]; exact Ho4.out, Hb4.out⟩
              case measure => simp [intOf]; omega
            · have hs := Hs.out
              rw [if_pos (of_decide_eq_true hd)] at hs
              have Hs1 := Lib.hid hs
              have bd : Below w4.heap.size w4 (w4.alloc (.cells #[.int .i64 (k : Int)] 3)) := (Below.refl w4.heap.size w4).alloc (Nat.le_refl _) _
              have Hrow7 := Lib.hid (own_later Ho4.out bd)
              have Hb7 := Lib.hid (Hb4.out.trans (bd.mono hs4))
              have hszW : (w4.alloc (.cells #[.int .i64 (k : Int)] 3)).heap.size = w4.heap.size + 1 := by simp
              have hck : (w4.alloc (.cells #[.int .i64 (k : Int)] 3)).cell? ⟨w4.heap.size, 0, none⟩ = some (.int .i64 (k : Int)) := by rw [cell_of_row _ _ _ _ _ _ (heap_alloc_new w4 _)]; rfl
              have Hck := Lib.hid hck
              clear hd hs bd hck Ho4 Hb4
              go_wp2_with (at_builtin; refine push_num _ rfl _ _ 36 rfl w.heap.size i3 Try.underlying36 hi3 hz30 hz31 hz32 _ (nd F L m k) K rfl Hrow7.out (by omega) (k : Int) 1 w4.heap.size rfl Hck.out (by rw [hszW]; omega) ?_)
              intro g9 c9 w9 own9 hgr9 hat9
              have Ho9 : Hid (w9.ownsRow w.heap.size 3 1 (.slice (some ⟨g9, 0, none⟩) (K + 1) c9) (nd F L m (k + 1)).length (ns (nd F L m (k + 1)))) := Lib.hid (by rw [Hs1.out, List.length_append, HKe.out]; exact own9)
              have Hb9 := Lib.hid (Hb7.out.grown hgr9 (by rw [hszW]; omega) (fun bb hb => (Hrow7.out.lt bb hb).1))
              clear own9 hgr9 hat9 Hb7
              go_wp2_with fail
              go_roundw
              case rel => exact ⟨k + 1, by omega, by go_num, Ho9.out, Hb9.out⟩
              case measure => simp [intOf]; omega
          · have hkn : n = k := by omega
            subst hkn
            have Hor := Lib.hid hor
            clear hor
            go_wp2_with fail
            go_ret2
            exact ⟨_, rfl, Hor.out, hbel⟩

end Go.Proofs.Ytoigafjocckepaa
