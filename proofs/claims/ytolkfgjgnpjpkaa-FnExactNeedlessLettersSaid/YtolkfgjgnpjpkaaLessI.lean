/- The letters that are not needed: the program. -/
import Derived.Test.YtolkfgjgnpjpkaaLessS
namespace Go.Proofs.Ytolkfgjgnpjpkaa
open Go.ChangeShapes Go.WideShapes Go.ChangeAt Go.RowKit
set_option linter.unusedVariables false


theorem lessL_play (f : Nat) (l : List (Int × Int)) (k : Nat) : playL f (less l k) = (l.drop (k + 1)).foldl stpL (playL f (l.take k)) := by
  unfold playL less
  rw [List.foldl_append]
theorem fit_drop {F n : Nat} {l : List (Int × Int)} (hn : n = l.length) (h : Fit F n l) (k : Nat) : Fit F (n - k) (l.drop k) := by
  intro i hi
  have e1 : ca (l.drop k) i = ca l (k + i) := by simp [ca, List.getD_eq_getElem?_getD]
  have e2 : cb (l.drop k) i = cb l (k + i) := by simp [cb, List.getD_eq_getElem?_getD]
  rw [e1, e2]
  exact h _ (by omega)
theorem drop_at {w : World} {b off cap n k : Nat} {l : List (Int × Int)} (hn : n = l.length) (hcap : n ≤ cap) (hk : k < n) (hc : ∀ i, i < n → w.cell? ⟨b, off + i * 2, none⟩ = some (.int .i64 (ca l i)) ∧ w.cell? ⟨b, off + i * 2 + 1, none⟩ = some (.int .i64 (cb l i))) :
    ∃ off2, (if cap = k + 1 then (some ⟨b, off, none⟩ : Option Addr) else some ⟨b, off + (k + 1) * 2, none⟩) = some ⟨b, off2, none⟩ ∧ CallsAt w (some ⟨b, off2, none⟩) (l.drop (k + 1)) := by
  by_cases h : cap = k + 1
  · refine ⟨off, by rw [if_pos h], .inl (List.drop_eq_nil_of_le (by omega))⟩
  · exact ⟨off + (k + 1) * 2, by rw [if_neg h], .inr ⟨b, _, rfl, calls_drop hn hc (k + 1)⟩⟩

set_option maxHeartbeats 800000 in
set_option maxRecDepth 20000 in
theorem implLessL_pos (w : World) (F : Nat) (b off : Nat) (cap : Nat) (l : List (Int × Int)) (n : Nat) (Hn : Hid (n = l.length)) (hs : n ≤ 60) (hcap : n ≤ cap) (Hg : Hid (gdL (F : Int) l = true)) (hff : 1 ≤ (F : Int) ∧ (F : Int) ≤ 10)
    (Hc : Hid (∀ i, i < n → w.cell? ⟨b, off + i * 2, none⟩ = some (.int .i64 (ca l i)) ∧ w.cell? ⟨b, off + i * 2 + 1, none⟩ = some (.int .i64 (cb l i)))) :
    Calls Try.prog 39 #[.int .i64 F, .slice (some ⟨b, off, none⟩) n cap] w fun e w' => ∃ v, e = .returned (.tuple #[v, .bool true]) ∧ w'.ownsRow w.heap.size 3 1 v (ix (ndl F l) n).length (ns (ix (ndl F l) n)) ∧ Below w.heap.size w w' := by
  obtain ⟨i0, hi, hz0, hz1, hz2⟩ := info_parts info3
  have HA : CallsAt w (some ⟨b, off, none⟩) l := .inr ⟨b, off, rfl, by rw [← Hn.out]; exact Hc.out⟩
  have HHA := Lib.hid HA
  have Hfit : Hid (Fit F n l) := fun i hi => gl_letter Hg.out (by rw [← Hn.out]; exact hi)
  have Hsm : Hid (∀ m i, playL F m i < 1024) := fun m i => pow_small (f := F) (by omega) (playL_lt F m i)
  clear HA
  go_enter Try.func39, Try.ntmps39
  go_wp2_with fail
  refine (areLetters_any F _ cap l n w Hn.out (by omega) HHA.out).mono ?_
  rintro e w1 ⟨rfl, hb1⟩
  rw [Hg.out]
  have Hc1 := Lib.hid (HHA.out.kept hb1)
  go_wp2_with fail
  refine (readersBehind_any F _ cap l n w1 Hn Hg.out Hc1.out).mono ?_
  rintro e w2 ⟨cs', hl, rfl, hr, hb2⟩
  have Hr := Lib.hid hr
  have Hb2 := Lib.hid (hb1.trans (hb2.mono hb1.size))
  have hB := hb1.size
  clear hr hb2 hb1 Hc1
  generalize w1.heap.size = B at *
  go_wp2_with fail
  go_loopw [6, 19] (fun v i wr => ∃ k : Nat, k ≤ n ∧ i = .int .i64 k ∧ wr.ownsRow w.heap.size 3 1 v (ix (ndl F l) k).length (ns (ix (ndl F l) k)) ∧ RdB wr B B F cs' (playL F l) ∧ Below w.heap.size w wr) (fun _ i _ => n - (intOf i).toNat)
  case atStart => exact ⟨0, Nat.zero_le _, rfl, World.ownsRow_nil _ _ _ _, Hr.out, Hb2.out⟩
  case round =>
    obtain ⟨k, hk, rfl, hor, hrd, hbel⟩ := hrel
    by_cases hlt : k < n
    · have hle := ix_le (ndl F l) k
      have hsz := hbel.size
      obtain ⟨off2, hif, hdrop⟩ := drop_at Hn.out hcap hlt Hc.out
      have Hdrop := Lib.hid hdrop
      have Hor := Lib.hid hor
      have Hrd := Lib.hid hrd
      have hkc : k ≤ cap := by omega
      have Hk0 : Hid (k = (l.take k).length) := by show k = _; rw [List.length_take, ← Hn.out]; omega
      have Hk1 : Hid (n - (k + 1) = (l.drop (k + 1)).length) := by show _ = _; rw [List.length_drop, ← Hn.out]
      have Hg0 := Lib.hid (gl_take Hg.out k)
      have Hck := Lib.hid (calls_take (HHA.out.kept hbel) k)
      have Hfd := Lib.hid (fit_drop Hn.out Hfit.out (k + 1))
      have hw1 : IntKind.i64.wrap ((k : Int) + 1) = (k : Int) + 1 := IntWalk.i64_in _ (by omega)
      have hw2 : ((k : Int) + 1).toNat = k + 1 := by omega
      have hk0 : (0 : Int) ≤ (k : Int) := by omega
      have hk1 : (k : Int) ≤ (n : Int) := by omega
      have hk2 : (k : Int) ≤ (cap : Int) := by omega
      have hk3 : (0 : Int) ≤ (k : Int) + 1 := by omega
      have hk4 : (k : Int) + 1 ≤ (n : Int) := by omega
      have hk5 : (n : Int) ≤ (cap : Int) := by omega
      clear hor hrd hdrop
      go_wp2_with fail
      refine (readersBehind_any F _ cap (l.take k) k wr Hk0 Hg0.out Hck.out).mono ?_
      rintro e w3 ⟨bs, hl3, rfl, hr3, hb3⟩
      have Hb3 := Lib.hid hb3
      have Hra := Lib.hid (readAll_any wr.heap.size wr.heap.size F F bs (playL F (l.take k)) (some ⟨b, off2, none⟩) (cap - (k + 1)) (l.drop (k + 1)) (n - (k + 1)) w3 Hk1 (by omega) hl3 (Nat.le_refl _) (by omega) Hfd hb3.size
        (fun b' o' hn' e' => Nat.lt_of_lt_of_le (calls_low Hdrop.out b' o' (by rw [← Hk1.out]; exact hn') e') hbel.size) ((Hdrop.out.kept hbel).kept hb3) hr3)
      clear hb3 hr3
      go_wp2_with fail
      refine Hra.out.mono ?_
      rintro e w4 ⟨rfl, hr4, hb4⟩
      rw [← lessL_play] at hr4
      have hb5 : Below wr.heap.size wr w4 := Hb3.out.trans hb4
      have hrd4 := Hrd.out.later hb5
      have Hks := Lib.hid (knowSame_any wr.heap.size wr.heap.size F B B F F bs cs' (playL F (less l k)) (playL F l) w4 hl3 hl (Nat.le_refl _) (Nat.le_refl _) (by omega) (Hsm.out _) (Hsm.out _) hr4 hrd4)
      have Ho4 := Lib.hid (own_later Hor.out hb5)
      have Hrd4 := Lib.hid hrd4
      have hb6 : Below w.heap.size w w4 := hbel.trans (hb5.mono hsz)
      clear hr4 hb4 hb5 hrd4 Hra
      go_wp2_with fail
      refine Hks.out.mono ?_
      rintro e w5 ⟨rfl, hb7⟩
      have Ho5 := Lib.hid (own_later Ho4.out hb7)
      have Hr5 := Lib.hid (Hrd4.out.later hb7)
      have hb8 : Below w.heap.size w w5 := hb6.trans (hb7.mono hb6.size)
      clear hb7 hb6 Hks
      rw [show eqS F (playL F (less l k)) (playL F l) = ndl F l k from eqS_kl _ _ _]
      cases ht : ndl F l k
      · have hz := Ho5.out
        rw [← ix_no (ndl F l) k ht] at hz
        have Hz := Lib.hid hz
        clear ht hz
        go_wp2_with fail
        go_roundw
        case rel => exact ⟨k + 1, by omega, by go_num, Hz.out, Hr5.out, hb8⟩
        case measure => simp [intOf]; omega
      · have Hyes := Lib.hid (ix_yes (ndl F l) k ht)
        have hs2 := hb8.size
        clear ht
        go_wp2_with (at_builtin; refine wpList_append_own _ rfl _ _ 39 rfl w.heap.size 3 i0 (.int .i64 0) 1 8 Try.underlying39 hi hz0 hz1 hz2 rfl (by decide) _ _ _ rfl (Ho5.out.alloc _) ⟨w5.heap.size, 0, none⟩ 1 1 [.int .i64 k] rfl rfl ?c1 ?c2 ?c3 ?c4 ?c5 ?_)
        case c1 => exact World.news_of_block (cs := #[.int .i64 k]) (t := 3) (fr := (0, 0)) (heap_alloc_new _ _)
        case c2 => intro u hu; simp at hu; subst hu; rfl
        case c3 => unfold maxLen; omega
        case c4 => omega
        case c5 => simp; omega
        intro v' w6 hown' hgr _
        have Hown := Lib.hid hown'
        have Hr6 := Lib.hid ((Hr5.out.alloc _).beside (Ho5.out.alloc _) hgr)
        have Hbel := Lib.hid ((hb8.alloc hs2 _).grown hgr (by simp; omega) (fun b hb => (Ho5.out.lt b hb).1))
        clear hown' hgr hb8
        go_wp2_with fail
        go_roundw
        case rel => exact ⟨k + 1, by omega, by go_num, by rw [Hyes.out, ns_append, List.length_append]; exact Hown.out, Hr6.out, Hbel.out⟩
        case measure => simp [intOf]; omega
    · obtain rfl : k = n := by omega
      have Hor := Lib.hid hor
      clear hor hlt hk
      go_wp2_with fail
      go_ret2
      exact ⟨_, rfl, Hor.out, hbel⟩

theorem implLessL_zero (w : World) (F : Nat) (ao : Option Addr) (cap : Nat) (Hg : Hid (gdL (F : Int) [] = true)) (hff : 1 ≤ (F : Int) ∧ (F : Int) ≤ 10) :
    Calls Try.prog 39 #[.int .i64 F, .slice ao 0 cap] w fun e w' => ∃ v, e = .returned (.tuple #[v, .bool true]) ∧ w'.ownsRow w.heap.size 3 1 v 0 (ns []) ∧ Below w.heap.size w w' := by
  go_enter Try.func39, Try.ntmps39
  go_wp2_with fail
  refine (areLetters_any F ao cap [] 0 w rfl (by omega) (.inl rfl)).mono ?_
  rintro e w1 ⟨rfl, hb1⟩
  rw [Hg.out]
  go_wp2_with fail
  refine (readersBehind_any F ao cap [] 0 w1 rfl Hg.out (.inl rfl)).mono ?_
  rintro e w2 ⟨bs, hl, rfl, _, hb2⟩
  have hb3 := hb1.trans (hb2.mono hb1.size)
  clear hb2 hb1
  go_wp2_with fail
  go_rounds 1
  go_ret2
  exact ⟨_, rfl, World.ownsRow_nil _ _ _ _, hb3⟩

theorem implLessL_any (w : World) (f : Int) (ao : Option Addr) (cap : Nat) (l : List (Int × Int)) (n : Nat) (Hn : Hid (n = l.length)) (hs : n ≤ 1048576) (Hc : CallsAt w ao l) (hcap : n ≤ cap) :
    Calls Try.prog 39 #[.int .i64 f, .slice ao n cap] w fun e w' => ∃ v, e = .returned (.tuple #[v, .bool (gdL f l)]) ∧ w'.ownsRow w.heap.size 3 1 v (ndlL f l).length (ns (ndlL f l)) ∧ Below w.heap.size w w' := by
  cases hg : gdL f l
  · rw [show ndlL f l = [] by simp [ndlL, hg]]
    have HHc := Lib.hid Hc
    have Hg := Lib.hid hg
    clear hg Hc
    go_enter Try.func39, Try.ntmps39
    go_wp2_with fail
    refine (areLetters_any f ao cap l n w Hn.out (by omega) HHc.out).mono ?_
    rintro e w1 ⟨rfl, hb⟩
    rw [Hg.out]
    go_wp2_with fail
    go_ret2
    exact ⟨_, rfl, World.ownsRow_nil _ _ _ _, hb⟩
  · have hff := gl_fr hg
    obtain ⟨F, rfl⟩ := Int.eq_ofNat_of_zero_le (show 0 ≤ f by omega)
    rw [show ndlL F l = ix (ndl F l) n by simp [ndlL, hg, Hn.out]]
    by_cases h0 : n = 0
    · subst h0
      have : l = [] := List.eq_nil_of_length_eq_zero Hn.out.symm
      subst this
      exact implLessL_zero w F ao cap hg hff
    · rcases Hc with rfl | ⟨b, off, rfl, hc⟩
      · exact absurd Hn.out h0
      · exact implLessL_pos w F b off cap l n Hn (by rw [Hn.out]; exact gl_len2 hg) hcap hg hff (by rw [Hn.out]; exact hc)

end Go.Proofs.Ytolkfgjgnpjpkaa
