/- CallsOf: the model and the program. -/
import Derived.Test.YtffnmpmgnaephaaThat
namespace Go.Proofs.Ytffnmpmgnaephaa
open Go.ChangeShapes Go.WideShapes Go.ChangeAt Go.RowKit
set_option linter.unusedVariables false

def ofL (f : Int) (l : List (Int × Int)) (x : Int) : List Int := if whoB f l x then tl (pOf x) f.toNat l l.length else []

theorem ofL_length (f : Int) (l : List (Int × Int)) (x : Int) : (ofL f l x).length ≤ 60 := by
  unfold ofL
  cases h : whoB f l x
  · simp
  · simp only [whoB, Bool.and_eq_true] at h
    have h1 := gd_len' h.1
    have h2 := tl_le (pOf x) f.toNat l l.length
    simp only [if_true]
    omega

set_option maxRecDepth 20000 in
theorem that_no (w : World) (f : Int) (ao : Option Addr) (cap : Nat) (l : List (Int × Int)) (n : Nat) (fv : Value) (Hn : Hid (n = l.length)) (hs : n ≤ 1048576) (HHc : Hid (CallsAt w ao l)) (Hg : Hid (gdB f l = false)) :
    Calls Try.prog 58 #[.int .i64 f, .slice ao n cap, fv] w fun e w' => ∃ v, e = .returned (.tuple #[v, .bool false]) ∧ w'.ownsRow w.heap.size 3 1 v 0 (ns []) ∧ Below w.heap.size w w' := by
  go_enter Try.func58, Try.ntmps58
  go_wp2_with fail
  refine (areCalls_any f ao cap l n w Hn.out (by omega) HHc.out).mono ?_
  rintro e w1 ⟨rfl, hb⟩
  rw [Hg.out]
  go_wp2_with fail
  go_ret2
  exact ⟨_, rfl, World.ownsRow_nil _ _ _ _, hb⟩

set_option maxRecDepth 20000 in
theorem implOf_any (w : World) (f : Int) (ao : Option Addr) (cap : Nat) (l : List (Int × Int)) (n : Nat) (Hn : Hid (n = l.length)) (hs : n ≤ 1048576) (Hc : CallsAt w ao l) (x : Int) :
    Calls Try.prog 39 #[.int .i64 f, .slice ao n cap, .int .i64 x] w fun e w' => ∃ v, e = .returned (.tuple #[v, .bool (whoB f l x)]) ∧ w'.ownsRow w.heap.size 3 1 v (ofL f l x).length (ns (ofL f l x)) ∧ Below w.heap.size w w' := by
  have hba : Below w.heap.size w (w.alloc (.cells #[.int .i64 x] 3)) := (Below.refl _ _).alloc (Nat.le_refl _) _
  have HHc := Lib.hid (Hc.kept hba)
  clear Hc
  by_cases hx : 0 ≤ x ∧ x < f
  · have Hx := Lib.hid hx
    cases hg : gdB f l
    · have hw : whoB f l x = false := by simp [whoB, hg]
      rw [hw, show ofL f l x = [] by simp [ofL, hw]]
      have Hg := Lib.hid hg
      clear hx hg hw
      go_enter Try.func39, Try.ntmps39
      go_wp2_with fail
      refine (isFriend_yes f x _ Hx.out.1 Hx.out.2).mono ?_
      rintro e w' ⟨rfl, rfl⟩
      go_wp2_with fail
      refine (that_no _ f ao cap l n _ Hn hs HHc Hg).mono ?_
      rintro e w2 ⟨v, rfl, own2, hb2⟩
      have Hown2 := Lib.hid own2
      clear own2
      go_wp2_with fail
      go_ret2
      exact ⟨v, rfl, own_lower Hown2.out (by simp), hba.trans (hb2.mono (by simp))⟩
    · have hff := gd_fr hg
      have hw : whoB f l x = true := by simp [whoB, hg]; omega
      obtain ⟨F, rfl⟩ := Int.eq_ofNat_of_zero_le (show 0 ≤ f by omega)
      rw [hw, show ofL F l x = tl (pOf x) F l n by simp [ofL, hw, Hn.out]]
      have Hg := Lib.hid hg
      have hs60 : n ≤ 60 := by rw [Hn.out]; exact gd_len' hg
      clear hx hg hw
      go_enter Try.func39, Try.ntmps39
      go_wp2_with fail
      refine (isFriend_yes F x _ Hx.out.1 Hx.out.2).mono ?_
      rintro e w' ⟨rfl, rfl⟩
      go_wp2_with fail
      refine (thatOf _ F ao cap l n Hn hs60 w.heap.size x (by show World.cell? _ _ = _; rw [cell_of_row _ _ _ _ _ _ (heap_alloc_new w _)]; rfl) HHc Hg hff).mono ?_
      rintro e w2 ⟨v, rfl, own2, hb2⟩
      have Hown2 := Lib.hid own2
      clear own2
      go_wp2_with fail
      go_ret2
      exact ⟨v, rfl, own_lower Hown2.out (by simp), hba.trans (hb2.mono (by simp))⟩
  · have Hx := Lib.hid hx
    have hw : whoB f l x = false := by simp [whoB]; omega
    rw [hw, show ofL f l x = [] by simp [ofL, hw]]
    clear hx hw
    go_enter Try.func39, Try.ntmps39
    go_wp2_with fail
    refine (isFriend_no f x _ Hx.out).mono ?_
    rintro e w' ⟨rfl, rfl⟩
    go_wp2_with fail
    go_ret2
    exact ⟨_, rfl, World.ownsRow_nil _ _ _ _, hba⟩

set_option maxRecDepth 20000 in
theorem specOf_yes (w : World) (F : Nat) (ao : Option Addr) (cap : Nat) (l : List (Int × Int)) (n : Nat) (Hn : Hid (n = l.length)) (hs : n ≤ 60) (HHc : Hid (CallsAt w ao l)) (x : Int) (Hg : Hid (gdB (F : Int) l = true)) (hff : 1 ≤ (F : Int) ∧ (F : Int) ≤ 10) (hx : 0 ≤ x ∧ x < F) :
    Calls Try.prog 38 #[.int .i64 F, .slice ao n cap, .int .i64 x] w fun e w' => ∃ v, e = .returned (.tuple #[v, .bool true]) ∧ w'.ownsRow w.heap.size 3 1 v (tl (pOf x) F l n).length (ns (tl (pOf x) F l n)) ∧ Below w.heap.size w w' := by
  obtain ⟨i0, hi, hz0, hz1, hz2⟩ := info_parts info3
  have Hx : Hid (decide ((0 : Int) ≤ x ∧ x ≤ F - 1) = true) := by show _ = true; simp; omega
  go_enter Try.func38, Try.ntmps38
  go_wp2_with fail
  refine (caGood_any F ao cap l n w Hn.out (by omega) HHc.out).mono ?_
  rintro e w1 ⟨rfl, hb1⟩
  rw [Hg.out]
  go_wp2_with fail
  refine (l1In_any x 0 (F - 1) w1).mono ?_
  rintro e w' ⟨rfl, rfl⟩
  rw [Hx.out]
  go_wp2_with fail
  go_loopw [8, 24] (fun v i wr => ∃ k : Nat, k ≤ n ∧ i = .int .i64 k ∧ wr.ownsRow w.heap.size 3 1 v (tl (pOf x) F l k).length (ns (tl (pOf x) F l k)) ∧ Below w.heap.size w wr) (fun _ i _ => n - (intOf i).toNat)
  case atStart => exact ⟨0, Nat.zero_le _, rfl, World.ownsRow_nil _ _ _ _, hb1⟩
  case round =>
    obtain ⟨k, hk, rfl, hor, hbel⟩ := hrel
    by_cases hlt : k < n
    · obtain ⟨b, off, Hao, hcc⟩ : ∃ b off, Hid (ao = some ⟨b, off, none⟩) ∧ (w.cell? ⟨b, off + k * 2, none⟩ = some (.int .i64 (ca l k)) ∧ w.cell? ⟨b, off + k * 2 + 1, none⟩ = some (.int .i64 (cb l k))) := by
        rcases HHc.out with h | ⟨b, off, h, hc⟩
        · subst h; exact absurd Hn.out (by simp; omega)
        · exact ⟨b, off, h, hc k (by rw [← Hn.out]; exact hlt)⟩
      have h0 := cell_old hbel hcc.1
      have h1 := cell_old hbel hcc.2
      have hle := tl_le (pOf x) F l k
      have hsz := hbel.size
      rw [Hao.out]
      have Hor := Lib.hid (hor.alloc (.cells #[.int .i64 (ca l k), .int .i64 (cb l k)] 50))
      have hbel2 := hbel.alloc hsz (.cells #[.int .i64 (ca l k), .int .i64 (cb l k)] 50)
      have Hbel2 := Lib.hid hbel2
      clear hor hbel hcc hbel2
      cases ht : (pOf x) (play F (l.take k)) (ca l k, cb l k)
      · have hz := Hor.out
        rw [← tl_no (pOf x) F l k ht] at hz
        have Hz := Lib.hid hz
        have hte := ht
        simp only [pOf, Bool.or_eq_false_iff] at hte
        have t1 := hte.1
        have t2 := hte.2
        clear ht hte hz
        go_wp2_with fail
        go_roundw
        case rel => exact ⟨k + 1, by omega, by go_num, Hz.out, Hbel2.out⟩
        case measure => simp [intOf]; omega
      · have Hyes := Lib.hid (tl_yes (pOf x) F l k ht)
        have hte := ht
        simp only [pOf] at hte
        clear ht
        have hs2 := Hbel2.out.size
        cases t1 : (ca l k == x)
        · have t2 : (cb l k == x) = true := by rw [t1] at hte; simpa using hte
          clear hte
          go_wp2_with (at_builtin; refine wpList_append_own _ rfl _ _ 38 rfl w.heap.size 3 i0 (.int .i64 0) 1 8 Try.underlying38 hi hz0 hz1 hz2 rfl (by decide) _ _ _ rfl (Hor.out.alloc _) ⟨wr.heap.size + 1, 0, none⟩ 1 1 [.int .i64 k] rfl rfl ?c1 ?c2 ?c3 ?c4 ?c5 ?_)
          case c1 => exact World.news_of_block (cs := #[.int .i64 k]) (t := 3) (fr := (0, 0)) (by simpa using heap_alloc_new (wr.alloc (.cells #[.int .i64 (ca l k), .int .i64 (cb l k)] 50)) (.cells #[.int .i64 k] 3))
          case c2 => intro u hu; simp at hu; subst hu; rfl
          case c3 => unfold maxLen; omega
          case c4 => omega
          case c5 => simp; omega
          intro v' w4 hown' hgr _
          have Hown := Lib.hid hown'
          have Hbel := Lib.hid ((Hbel2.out.alloc hs2 _).grown hgr (by simp; omega) (fun b hb => (Hor.out.lt b hb).1))
          clear hown' hgr
          go_wp2_with fail
          go_roundw
          case rel => exact ⟨k + 1, by omega, by go_num, by rw [Hyes.out, ns_append, List.length_append]; exact Hown.out, Hbel.out⟩
          case measure => simp [intOf]; omega
        · clear hte
          go_wp2_with (at_builtin; refine wpList_append_own _ rfl _ _ 38 rfl w.heap.size 3 i0 (.int .i64 0) 1 8 Try.underlying38 hi hz0 hz1 hz2 rfl (by decide) _ _ _ rfl (Hor.out.alloc _) ⟨wr.heap.size + 1, 0, none⟩ 1 1 [.int .i64 k] rfl rfl ?d1 ?d2 ?d3 ?d4 ?d5 ?_)
          case d1 => exact World.news_of_block (cs := #[.int .i64 k]) (t := 3) (fr := (0, 0)) (by simpa using heap_alloc_new (wr.alloc (.cells #[.int .i64 (ca l k), .int .i64 (cb l k)] 50)) (.cells #[.int .i64 k] 3))
          case d2 => intro u hu; simp at hu; subst hu; rfl
          case d3 => unfold maxLen; omega
          case d4 => omega
          case d5 => simp; omega
          intro v' w4 hown' hgr _
          have Hown := Lib.hid hown'
          have Hbel := Lib.hid ((Hbel2.out.alloc hs2 _).grown hgr (by simp; omega) (fun b hb => (Hor.out.lt b hb).1))
          clear hown' hgr
          go_wp2_with fail
          go_roundw
          case rel => exact ⟨k + 1, by omega, by go_num, by rw [Hyes.out, ns_append, List.length_append]; exact Hown.out, Hbel.out⟩
          case measure => simp [intOf]; omega
    · obtain rfl : k = n := by omega
      have Hor := Lib.hid hor
      clear hor hlt hk
      go_wp2_with fail
      go_ret2
      exact ⟨_, rfl, Hor.out, hbel⟩

theorem specOf_any (w : World) (f : Int) (ao : Option Addr) (cap : Nat) (l : List (Int × Int)) (n : Nat) (Hn : Hid (n = l.length)) (hs : n ≤ 1048576) (Hc : CallsAt w ao l) (x : Int) :
    Calls Try.prog 38 #[.int .i64 f, .slice ao n cap, .int .i64 x] w fun e w' => ∃ v, e = .returned (.tuple #[v, .bool (whoB f l x)]) ∧ w'.ownsRow w.heap.size 3 1 v (ofL f l x).length (ns (ofL f l x)) ∧ Below w.heap.size w w' := by
  have HHc := Lib.hid Hc
  clear Hc
  cases hg : gdB f l
  · have hw : whoB f l x = false := by simp [whoB, hg]
    rw [hw, show ofL f l x = [] by simp [ofL, hw]]
    have Hg := Lib.hid hg
    clear hg hw
    go_enter Try.func38, Try.ntmps38
    go_wp2_with fail
    refine (caGood_any f ao cap l n w Hn.out (by omega) HHc.out).mono ?_
    rintro e w1 ⟨rfl, hb⟩
    rw [Hg.out]
    go_wp2_with fail
    go_ret2
    exact ⟨_, rfl, World.ownsRow_nil _ _ _ _, hb⟩
  · have hff := gd_fr hg
    by_cases hx : 0 ≤ x ∧ x < f
    · have hw : whoB f l x = true := by simp [whoB, hg]; omega
      obtain ⟨F, rfl⟩ := Int.eq_ofNat_of_zero_le (show 0 ≤ f by omega)
      rw [hw, show ofL F l x = tl (pOf x) F l n by simp [ofL, hw, Hn.out]]
      exact specOf_yes w F ao cap l n Hn (by rw [Hn.out]; exact gd_len' hg) HHc x hg hff hx
    · have hx2 : decide (0 ≤ x ∧ x ≤ f - 1) = false := by simp; omega
      have hw : whoB f l x = false := by simp [whoB]; omega
      rw [hw, show ofL f l x = [] by simp [ofL, hw]]
      have Hg := Lib.hid hg
      have Hx := Lib.hid hx2
      clear hg hx hx2 hw
      go_enter Try.func38, Try.ntmps38
      go_wp2_with fail
      refine (caGood_any f ao cap l n w Hn.out (by omega) HHc.out).mono ?_
      rintro e w1 ⟨rfl, hb⟩
      rw [Hg.out]
      go_wp2_with fail
      refine (l1In_any x 0 (f - 1) w1).mono ?_
      rintro e w' ⟨rfl, rfl⟩
      rw [Hx.out]
      go_wp2_with fail
      go_ret2
      exact ⟨_, rfl, World.ownsRow_nil _ _ _ _, hb⟩
end Go.Proofs.Ytffnmpmgnaephaa
