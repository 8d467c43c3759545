/- KnownAfter by the model, where the calls are good. -/
import Derived.Test.YtffnmpmgnaephaaRows2
namespace Go.Proofs.Ytffnmpmgnaephaa
open Go.ChangeShapes Go.WideShapes Go.ChangeAt Go.RowKit
set_option linter.unusedVariables false

/-- What the first k friends know. -/
def kn (F : Nat) (l : List (Int × Int)) (k : Nat) : List (List Int) := (List.range k).map fun i => bl (play F l i) 10

theorem kn_length (F : Nat) (l : List (Int × Int)) (k : Nat) : (kn F l k).length = k := by simp [kn]

theorem kn_succ (F : Nat) (l : List (Int × Int)) (k : Nat) : kn F l (k + 1) = kn F l k ++ [bl (play F l k) 10] := by simp [kn, List.range_succ]

set_option maxRecDepth 20000 in
theorem specKnown_yes (w : World) (F : Nat) (ao : Option Addr) (cap : Nat) (l : List (Int × Int)) (n : Nat) (Hn : Hid (n = l.length)) (hs : n ≤ 60) (HHc : Hid (CallsAt w ao l)) (Hg : Hid (gdB (F : Int) l = true)) (hff : 1 ≤ (F : Int) ∧ (F : Int) ≤ 10) :
    Calls Try.prog 13 #[.int .i64 F, .slice ao n cap] w fun e w' => ∃ v X, e = .returned (.tuple #[v, .bool true]) ∧ OwnSS w' w.heap.size v X (kn F l F) ∧ Below w.heap.size w w' := by
  obtain ⟨i0, hi, hz0, hz1, hz2⟩ := info_parts info38
  go_enter Try.func13, Try.ntmps13
  go_wp2_with fail
  refine (caGood_any F ao cap l n w Hn.out (by omega) HHc.out).mono ?_
  rintro e w1 ⟨rfl, hb1⟩
  rw [Hg.out]
  go_wp2_with fail
  refine (caPlay_any F ao cap l n w1 Hn Hg.out (HHc.out.kept hb1)).mono ?_
  rintro e w2 ⟨v2, rfl, own2, hb⟩
  obtain ⟨al, cl, rfl, hnum⟩ := nums_shape own2 (kl_length _ _).symm
  have hb2 : Below w.heap.size w w2 := hb1.trans (hb.mono hb1.size)
  rcases hnum with h | ⟨b2, off2, rfl, hd⟩
  · have := kl_length F (play F l); rw [h] at this; simp at this; omega
  rw [kl_length] at hd
  have Hd : Hid (∀ i, i < F → w2.cell? ⟨b2, off2 + i, none⟩ = some (.int .i64 (play F l i))) := fun i h => by rw [hd i h, kl_get F _ i h]
  have HB2 := Lib.hid hb2
  have hs2 := hb2.size
  clear hb hb1 hb2 own2 hd
  go_wp2_with fail
  go_loopw [6, 17] (fun v i wr => ∃ (k : Nat) (X : List Value), k ≤ F ∧ i = .int .i64 k ∧ OwnSS wr w2.heap.size v X (kn F l k) ∧ Below w2.heap.size w2 wr) (fun _ i _ => F - (intOf i).toNat)
  case atStart => exact ⟨0, [], Nat.zero_le _, rfl, OwnSS.nil _ _, Below.refl _ _⟩
  case round =>
    obtain ⟨k, X, hk, rfl, hor, hbel⟩ := hrel
    by_cases hlt : k < F
    · have hsz := hbel.size
      have h0 := hbel.cell (p := ⟨b2, off2 + k, none⟩) (World.block_lt_of_cell? w2 _ (Hd.out k hlt))
      rw [Hd.out k hlt] at h0
      have Hor := Lib.hid hor
      have Hstep := Lib.hid (kn_succ F l k)
      have Hbel := Lib.hid hbel
      clear hor hbel
      go_wp2_with fail
      refine (caBits_any (play F l k) wr (play_small F (by omega) l k)).mono ?_
      rintro e w3 ⟨v3, rfl, own3, hb3⟩
      rw [← bl_length] at own3
      obtain ⟨a3, c3, rfl, _⟩ := nums_shape own3 rfl
      have Ho3 := Lib.hid (Hor.out.later hb3)
      have Hb4 := Lib.hid (Hbel.out.trans (hb3.mono hsz))
      have Own3 := Lib.hid own3
      have hs4 := Hb4.out.size
      have hs5 := hb3.size
      clear own3 hb3 h0
      go_wp2_with (at_builtin; refine wpList_append_lies _ rfl _ _ 24 rfl w2.heap.size 38 i0 (.slice none 0 0) 1 24 Try.underlying24 hi hz0 hz1 hz2 rfl (by decide) _ k X rfl (by have h := (Ho3.out.alloc (.cells #[.slice a3 (bl (play F l k) 10).length c3] 38)).1; rw [kn_length] at h; exact h) ⟨w3.heap.size, 0, none⟩ 1 1 [.slice a3 (bl (play F l k) 10).length c3] rfl rfl ?c1 ?c2 (by omega) ?c3 ?c4 ?c5 (w3.heap.size + 1) ?c6 ?_)
      case c1 => exact World.news_of_block (cs := #[.slice a3 (bl (play F l k) 10).length c3]) (t := 38) (fr := (0, 0)) (heap_alloc_new _ _)
      case c2 => intro u hu; simp at hu; subst hu; rfl
      case c3 => unfold maxLen; omega
      case c4 => omega
      case c5 => simp; omega
      case c6 => simp
      intro g cap6 w6 hown hgr hat _
      have hp := OwnSS.push (v' := .slice (some ⟨g, 0, none⟩) (k + 1) cap6) (H := w3.heap.size + 1) (Ho3.out.alloc (.cells #[.slice a3 (bl (play F l k) 10).length c3] 38)) (own_base hsz (Own3.out.alloc _))
        (fun b hb e => by have h1 := (Own3.out.lt b hb).1; have h2 := (Hor.out.1.lt b e).2; omega)
        (fun i y b hy hb e => by
          have hi := (List.getElem?_eq_some_iff.1 hy).1
          have h2 := ((Hor.out.2.2.1 i y _ hy (List.getElem?_eq_getElem (by rw [← Hor.out.2.1]; exact hi))).1.lt b hb).2
          have h1 := (Own3.out.lt b e).1
          omega)
        hgr (by rw [kn_length]; exact hown) (by rcases hat with e | e
                                                · exact .inl e.symm
                                                · exact .inr (by rw [e]; rfl)) (by simp)
      rw [← Hstep.out] at hp
      have Hp := Lib.hid hp
      have Hb6 := Lib.hid ((Hb4.out.alloc hs4 _).grown hgr (by simp; omega) (fun b hb => (Ho3.out.1.lt b hb).1))
      clear hp hown hgr hat
      go_wp2_with fail
      go_roundw
      case rel => exact ⟨k + 1, _, by omega, by go_num, Hp.out, Hb6.out⟩
      case measure => simp [intOf]; omega
    · obtain rfl : k = F := by omega
      have Hor := Lib.hid (hor.weaken hs2)
      have Hb := Lib.hid (HB2.out.trans (hbel.mono hs2))
      clear hor hlt hk hbel
      go_wp2_with fail
      go_ret2
      exact ⟨_, X, rfl, Hor.out, Hb.out⟩
end Go.Proofs.Ytffnmpmgnaephaa
