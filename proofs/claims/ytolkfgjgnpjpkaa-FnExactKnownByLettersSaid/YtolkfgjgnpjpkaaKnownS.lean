/- What each friend knows behind letters, as lists: the model. -/
import Derived.Test.YtolkfgjgnpjpkaaKnownI
import Derived.Test.YtolkfgjgnpjpkaaMPlay
namespace Go.Proofs.Ytolkfgjgnpjpkaa
open Go.ChangeShapes Go.WideShapes Go.ChangeAt Go.RowKit
set_option linter.unusedVariables false


set_option maxRecDepth 20000 in
theorem leLists_any (base : Nat) (v2 : Value) (F : Nat) (s : Nat → Nat) (w : World) (hsm : ∀ i, s i < 1024) (h1 : 1 ≤ F) (h2 : F ≤ 10) (hown : w.ownsRow base 3 1 v2 F (ns (kl F s))) :
    Calls Try.prog 68 #[v2] w fun e w' => ∃ v X, e = .returned v ∧ OwnSS w' w.heap.size v X (knS s F) ∧ Below w.heap.size w w' := by
  obtain ⟨i0, hi, hz0, hz1, hz2⟩ := info_parts info39
  obtain ⟨b2, c2, rfl⟩ := own_apos' hown (by omega)
  have Hd := Lib.hid (kl_cells hown)
  have Hsm := Lib.hid hsm
  clear hown hsm
  go_enter Try.func68, Try.ntmps68
  go_wp2_with fail
  go_loopw [3, 8] (fun v i wr => ∃ (k : Nat) (X : List Value), k ≤ F ∧ i = .int .i64 k ∧ OwnSS wr w.heap.size v X (knS s k) ∧ Below w.heap.size w wr) (fun _ i _ => F - (intOf i).toNat)
  case atStart => exact ⟨0, [], Nat.zero_le _, rfl, OwnSS.nil _ _, Below.refl _ _⟩
  case round =>
    obtain ⟨k, X, hk, rfl, hor, hbel⟩ := hrel
    by_cases hlt : k < F
    · have hsz := hbel.size
      have h0 := hbel.cell (p := ⟨b2, 0 + k, none⟩) (World.block_lt_of_cell? w _ (Hd.out k hlt))
      rw [Hd.out k hlt, Nat.zero_add] at h0
      have Hor := Lib.hid hor
      have Hstep := Lib.hid (knS_succ s k)
      have Hbel := Lib.hid hbel
      clear hor hbel
      go_wp2_with fail
      refine (caBits_any (s k) wr (Hsm.out k)).mono ?_
      rintro e w3 ⟨v3, rfl, own3, hb3⟩
      rw [← bl_length] at own3
      obtain ⟨a3, c3, rfl, _⟩ := nums_shape own3 rfl
      have Ho3 := Lib.hid (Hor.out.later hb3)
      have Hb4 := Lib.hid (Hbel.out.trans (hb3.mono hsz))
      have Own3 := Lib.hid own3
      have hs4 := Hb4.out.size
      have hs5 := hb3.size
      clear own3 hb3 h0
      go_wp2_with (at_builtin; refine wpList_append_lies _ rfl _ _ 29 rfl w.heap.size 39 i0 (.slice none 0 0) 1 24 Try.underlying29 hi hz0 hz1 hz2 rfl (by decide) _ k X rfl (by have h := (Ho3.out.alloc (.cells #[.slice a3 (bl (s k) 10).length c3] 39)).1; rw [knS_length] at h; exact h) ⟨w3.heap.size, 0, none⟩ 1 1 [.slice a3 (bl (s k) 10).length c3] rfl rfl ?c1 ?c2 (by omega) ?c3 ?c4 ?c5 (w3.heap.size + 1) ?c6 ?_)
      case c1 => exact World.news_of_block (cs := #[.slice a3 (bl (s k) 10).length c3]) (t := 39) (fr := (0, 0)) (heap_alloc_new _ _)
      case c2 => intro u hu; simp at hu; subst hu; rfl
      case c3 => unfold maxLen; omega
      case c4 => omega
      case c5 => simp; omega
      case c6 => simp
      intro g cap6 w6 hown hgr hat _
      have hp := OwnSS.push (v' := .slice (some ⟨g, 0, none⟩) (k + 1) cap6) (H := w3.heap.size + 1) (Ho3.out.alloc (.cells #[.slice a3 (bl (s k) 10).length c3] 39)) (own_base hsz (Own3.out.alloc _))
        (fun b hb e => by have h1 := (Own3.out.lt b hb).1; have h2 := (Hor.out.1.lt b e).2; omega)
        (fun i y b hy hb e => by
          have hi := (List.getElem?_eq_some_iff.1 hy).1
          have h2 := ((Hor.out.2.2.1 i y _ hy (List.getElem?_eq_getElem (by rw [← Hor.out.2.1]; exact hi))).1.lt b hb).2
          have h1 := (Own3.out.lt b e).1
          omega)
        hgr (by rw [knS_length]; exact hown) (by rcases hat with e | e
                                                 · exact .inl e.symm
                                                 · exact .inr (by rw [e]; rfl)) (by simp)
      rw [← Hstep.out] at hp
      have Hp := Lib.hid hp
      have Hb6 := Lib.hid ((Hb4.out.alloc hs4 _).grown hgr (by simp; omega) (fun b hb => (Ho3.out.1.lt b hb).1))
      clear hp hown hgr hat
      go_wp2_with fail
      go_roundw
      case rel => exact ⟨k + 1, _, by omega, by go_num, Hp.out, Hb6.out⟩
      case measure => simp [intOf]; omega
    · obtain rfl : k = F := by omega
      have Hor := Lib.hid hor
      clear hor hlt hk
      go_wp2_with fail
      go_ret
      exact ⟨_, X, rfl, Hor.out, hbel⟩

theorem specKnown_yes (w : World) (F : Nat) (ao : Option Addr) (cap : Nat) (l : List (Int × Int)) (n : Nat) (Hn : Hid (n = l.length)) (hs : n ≤ 60) (HHc : Hid (CallsAt w ao l)) (Hg : Hid (gdL (F : Int) l = true)) (hff : 1 ≤ (F : Int) ∧ (F : Int) ≤ 10) :
    Calls Try.prog 23 #[.int .i64 F, .slice ao n cap] w fun e w' => ∃ v X, e = .returned (.tuple #[v, .bool true]) ∧ OwnSS w' w.heap.size v X (knS (playL F l) F) ∧ Below w.heap.size w w' := by
  go_enter Try.func23, Try.ntmps23
  go_wp2_with fail
  refine (leGood_any F ao cap l n w Hn.out (by omega) HHc.out).mono ?_
  rintro e w1 ⟨rfl, hb1⟩
  rw [Hg.out]
  have Hc1 := Lib.hid (HHc.out.kept hb1)
  go_wp2_with fail
  refine (lePlay_any F ao cap l n w1 Hn Hg.out Hc1.out).mono ?_
  rintro e w2 ⟨v2, rfl, own2, hb⟩
  have Hown2 := Lib.hid own2
  have hb2 : Below w.heap.size w w2 := hb1.trans (hb.mono hb1.size)
  have hs2 := hb2.size
  clear own2 hb
  go_wp2_with fail
  refine (leLists_any _ v2 F (playL F l) w2 (fun i => pow_small (f := F) (by omega) (playL_lt F l i)) (by omega) (by omega) Hown2.out).mono ?_
  rintro e w3 ⟨v, X, rfl, ho, hb3⟩
  have Ho := Lib.hid (ho.weaken hs2)
  have hb4 : Below w.heap.size w w3 := hb2.trans (hb3.mono hs2)
  clear ho hb3
  go_wp2_with fail
  go_ret2
  exact ⟨_, X, rfl, Ho.out, hb4⟩

def knownR (f : Int) (l : List (Int × Int)) : List (List Int) := if gdL f l then knS (playL f.toNat l) f.toNat else []
theorem knownR_length (f : Int) (l : List (Int × Int)) : (knownR f l).length ≤ 1000 := by
  unfold knownR
  cases h : gdL f l
  · simp
  · have := gl_fr h
    rw [if_pos rfl, knS_length]; omega
theorem knownR_row (f : Int) (l : List (Int × Int)) : ∀ i, (row (knownR f l) i).length ≤ 1000 := by
  unfold knownR
  cases h : gdL f l
  · intro i; simp [row]
  · exact knS_row _ _

theorem specKnown_any (w : World) (f : Int) (ao : Option Addr) (cap : Nat) (l : List (Int × Int)) (n : Nat) (Hn : Hid (n = l.length)) (hs : n ≤ 1048576) (Hc : CallsAt w ao l) :
    Calls Try.prog 23 #[.int .i64 f, .slice ao n cap] w fun e w' => ∃ v X, e = .returned (.tuple #[v, .bool (gdL f l)]) ∧ OwnSS w' w.heap.size v X (knownR f l) ∧ Below w.heap.size w w' := by
  have HHc := Lib.hid Hc
  clear Hc
  cases hg : gdL f l
  · rw [show knownR f l = [] by simp [knownR, hg]]
    have Hg := Lib.hid hg
    clear hg
    go_enter Try.func23, Try.ntmps23
    go_wp2_with fail
    refine (leGood_any f ao cap l n w Hn.out (by omega) HHc.out).mono ?_
    rintro e w1 ⟨rfl, hb⟩
    rw [Hg.out]
    go_wp2_with fail
    go_ret2
    exact ⟨_, [], rfl, OwnSS.nil _ _, hb⟩
  · have hff := gl_fr hg
    obtain ⟨F, rfl⟩ := Int.eq_ofNat_of_zero_le (show 0 ≤ f by omega)
    rw [show knownR F l = knS (playL F l) F by simp [knownR, hg]]
    exact specKnown_yes w F ao cap l n Hn (by rw [Hn.out]; exact gl_len2 hg) HHc hg hff

theorem implKnown_any (w : World) (f : Int) (ao : Option Addr) (cap : Nat) (l : List (Int × Int)) (n : Nat) (Hn : Hid (n = l.length)) (hs : n ≤ 1048576) (Hc : CallsAt w ao l) :
    Calls Try.prog 24 #[.int .i64 f, .slice ao n cap] w fun e w' => ∃ v X, e = .returned (.tuple #[v, .bool (gdL f l)]) ∧ OwnSS w' w.heap.size v X (knownR f l) ∧ Below w.heap.size w w' := by
  have HHc := Lib.hid Hc
  clear Hc
  cases hg : gdL f l
  · rw [show knownR f l = [] by simp [knownR, hg]]
    have Hg := Lib.hid hg
    clear hg
    go_enter Try.func24, Try.ntmps24
    go_wp2_with fail
    refine (areLetters_any f ao cap l n w Hn.out (by omega) HHc.out).mono ?_
    rintro e w1 ⟨rfl, hb⟩
    rw [Hg.out]
    go_wp2_with fail
    go_ret2
    exact ⟨_, [], rfl, OwnSS.nil _ _, hb⟩
  · have hff := gl_fr hg
    obtain ⟨F, rfl⟩ := Int.eq_ofNat_of_zero_le (show 0 ≤ f by omega)
    rw [show knownR F l = knS (playL F l) F by simp [knownR, hg]]
    exact implKnown_yes w F ao cap l n Hn (by rw [Hn.out]; exact gl_len2 hg) HHc hg hff

end Go.Proofs.Ytolkfgjgnpjpkaa
