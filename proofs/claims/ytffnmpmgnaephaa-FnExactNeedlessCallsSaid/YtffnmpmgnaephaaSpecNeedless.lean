/- NeedlessCalls by the model. -/
import Derived.Test.YtffnmpmgnaephaaLess
namespace Go.Proofs.Ytffnmpmgnaephaa
open Go.ChangeShapes Go.WideShapes Go.ChangeAt Go.RowKit
set_option linter.unusedVariables false

/-- The indices below k that have a property. -/
def ix (q : Nat → Bool) : Nat → List Int | 0 => [] | k + 1 => if q k then ix q k ++ [(k : Int)] else ix q k

theorem ix_le (q : Nat → Bool) : ∀ k, (ix q k).length ≤ k
  | 0 => by simp [ix]
  | k + 1 => by
    have := ix_le q k
    simp only [ix]
    split
    · simp; omega
    · omega

theorem ix_no (q : Nat → Bool) (k : Nat) (h : q k = false) : ix q (k + 1) = ix q k := by simp [ix, h]

theorem ix_yes (q : Nat → Bool) (k : Nat) (h : q k = true) : ix q (k + 1) = ix q k ++ [(k : Int)] := by simp [ix, h]

/-- Behind the calls without this one each friend knows the same. -/
def nd (F : Nat) (l : List (Int × Int)) (k : Nat) : Bool := sameN (kl F (play F (less l k))) (kl F (play F l)) F

def ndL (f : Int) (l : List (Int × Int)) : List Int := if gdB f l then ix (nd f.toNat l) l.length else []

theorem ndL_length (f : Int) (l : List (Int × Int)) : (ndL f l).length ≤ 60 := by
  unfold ndL
  cases h : gdB f l
  · simp
  · have h1 := gd_len' h
    have h2 := ix_le (nd f.toNat l) l.length
    simp only [if_true]
    omega

theorem caLess_any (ao : Option Addr) (cap : Nat) (l : List (Int × Int)) (n k : Nat) (w : World) (Hn : Hid (n = l.length)) (hs : n ≤ 60) (hcap : n ≤ cap) (hk : k < n) (hc : CallsAt w ao l) :
    Calls Try.prog 61 #[.slice ao n cap, .int .i64 k] w fun e w' => ∃ v, e = .returned v ∧ w'.ownsRow w.heap.size 50 2 v (less l k).length (cs (less l k)) ∧ Below w.heap.size w w' := by
  rcases hc with h | ⟨b, off, rfl, hc⟩
  · subst h; have := Hn.out; simp at this; omega
  · exact caLess_pos b off cap l n k w Hn hs hcap hk (by rw [Hn.out]; exact hc)

theorem l1Same_own {b1 b2 : Nat} (v1 v2 : Value) (l m : List Int) (n : Nat) (w : World) (hn : n = l.length) (hm : n = m.length) (h0 : 0 < n) (hl : n ≤ 1048576) (h1 : w.ownsRow b1 3 1 v1 n (ns l)) (h2 : w.ownsRow b2 3 1 v2 n (ns m)) :
    Calls Try.prog 60 #[v1, v2] w fun e w' => e = .returned (.bool (sameN l m n)) ∧ Below w.heap.size w w' := by
  obtain ⟨ao, ka, rfl, hc⟩ := nums_shape h1 hn
  obtain ⟨bo, kb, rfl, hd⟩ := nums_shape h2 hm
  rcases hc with h | ⟨b, off, rfl, hc⟩
  · subst h; simp at hn; omega
  rcases hd with h | ⟨b', off', rfl, hd⟩
  · subst h; simp at hm; omega
  exact l1Same_pos b off b' off' ka kb l m n w hl (by rw [hn]; exact hc) (by rw [hm]; exact hd)

set_option maxRecDepth 20000 in
theorem specNeedless_yes (w : World) (F : Nat) (ao : Option Addr) (cap : Nat) (l : List (Int × Int)) (n : Nat) (Hn : Hid (n = l.length)) (hs : n ≤ 60) (hcap : n ≤ cap) (HHc : Hid (CallsAt w ao l)) (Hg : Hid (gdB (F : Int) l = true)) (hff : 1 ≤ (F : Int) ∧ (F : Int) ≤ 10) :
    Calls Try.prog 36 #[.int .i64 F, .slice ao n cap] w fun e w' => ∃ v, e = .returned (.tuple #[v, .bool true]) ∧ w'.ownsRow w.heap.size 3 1 v (ix (nd F l) n).length (ns (ix (nd F l) n)) ∧ Below w.heap.size w w' := by
  obtain ⟨i0, hi, hz0, hz1, hz2⟩ := info_parts info3
  go_enter Try.func36, Try.ntmps36
  go_wp2_with fail
  refine (caGood_any F ao cap l n w Hn.out (by omega) HHc.out).mono ?_
  rintro e w1 ⟨rfl, hb1⟩
  rw [Hg.out]
  go_wp2_with fail
  go_loopw [6, 14] (fun v i wr => ∃ k : Nat, k ≤ n ∧ i = .int .i64 k ∧ wr.ownsRow w.heap.size 3 1 v (ix (nd F l) k).length (ns (ix (nd F l) k)) ∧ Below w.heap.size w wr) (fun _ i _ => n - (intOf i).toNat)
  case atStart => exact ⟨0, Nat.zero_le _, rfl, World.ownsRow_nil _ _ _ _, hb1⟩
  case round =>
    obtain ⟨k, hk, rfl, hor, hbel⟩ := hrel
    by_cases hlt : k < n
    · have hle := ix_le (nd F l) k
      have hsz := hbel.size
      have Hck := Lib.hid (HHc.out.kept hbel)
      have Hor := Lib.hid hor
      have Hgl := Lib.hid (less_gd Hg.out k)
      clear hor
      go_wp2_with fail
      refine (caLess_any ao cap l n k wr Hn hs hcap hlt Hck.out).mono ?_
      rintro e w2 ⟨vl, rfl, ownl, hb2⟩
      obtain ⟨al, cl, rfl, hcl, _, _⟩ := own_shape ownl rfl
      have hb3 : Below w.heap.size w w2 := hbel.trans (hb2.mono hsz)
      have Ho2 := Lib.hid (own_later Hor.out hb2)
      have Hcl := Lib.hid hcl
      clear hb2 hbel ownl hcl
      go_wp2_with fail
      refine (caPlay_any F al cl (less l k) _ w2 (Lib.hid rfl) Hgl.out Hcl.out).mono ?_
      rintro e w3 ⟨v3, rfl, own3, hb⟩
      have hb4 : Below w.heap.size w w3 := hb3.trans (hb.mono hb3.size)
      have Ho3 := Lib.hid (own_later Ho2.out hb)
      have Hp3 := Lib.hid own3
      clear own3 hb hb3
      go_wp2_with fail
      refine (caPlay_any F ao cap l n w3 Hn Hg.out (HHc.out.kept hb4)).mono ?_
      rintro e w4 ⟨v4, rfl, own4, hb⟩
      have hb5 : Below w.heap.size w w4 := hb4.trans (hb.mono hb4.size)
      have Ho4 := Lib.hid (own_later Ho3.out hb)
      have Hp4 := Lib.hid (own_later Hp3.out hb)
      have Hq4 := Lib.hid own4
      clear own4 hb hb4
      go_wp2_with fail
      refine (l1Same_own v3 v4 (kl F (play F (less l k))) (kl F (play F l)) F w4 (kl_length _ _).symm (kl_length _ _).symm (by omega) (by omega) Hp4.out Hq4.out).mono ?_
      rintro e w5 ⟨rfl, hb⟩
      have hb6 : Below w.heap.size w w5 := hb5.trans (hb.mono hb5.size)
      have Ho5 := Lib.hid (own_later Ho4.out hb)
      clear hb hb5
      cases ht : nd F l k
      · have hz := Ho5.out
        rw [← ix_no (nd F l) k ht] at hz
        have Hz := Lib.hid hz
        have htest : sameN (kl F (play F (less l k))) (kl F (play F l)) F = false := ht
        clear ht hz
        go_wp2_with fail
        go_roundw
        case rel => exact ⟨k + 1, by omega, by go_num, Hz.out, hb6⟩
        case measure => simp [intOf]; omega
      · have Hyes := Lib.hid (ix_yes (nd F l) k ht)
        have htest : sameN (kl F (play F (less l k))) (kl F (play F l)) F = true := ht
        have hs2 := hb6.size
        clear ht
        go_wp2_with (at_builtin; refine wpList_append_own _ rfl _ _ 38 rfl w.heap.size 3 i0 (.int .i64 0) 1 8 Try.underlying38 hi hz0 hz1 hz2 rfl (by decide) _ _ _ rfl (Ho5.out.alloc _) ⟨w5.heap.size, 0, none⟩ 1 1 [.int .i64 k] rfl rfl ?c1 ?c2 ?c3 ?c4 ?c5 ?_)
        case c1 => exact World.news_of_block (cs := #[.int .i64 k]) (t := 3) (fr := (0, 0)) (heap_alloc_new _ _)
        case c2 => intro u hu; simp at hu; subst hu; rfl
        case c3 => unfold maxLen; omega
        case c4 => omega
        case c5 => simp; omega
        intro v' w6 hown' hgr _
        have Hown := Lib.hid hown'
        have Hbel := Lib.hid ((hb6.alloc hs2 _).grown hgr (by simp; omega) (fun b hb => (Ho5.out.lt b hb).1))
        clear hown' hgr hb6
        go_wp2_with fail
        go_roundw
        case rel => exact ⟨k + 1, by omega, by go_num, by rw [Hyes.out, ns_append, List.length_append]; exact Hown.out, Hbel.out⟩
        case measure => simp [intOf]; omega
    · obtain rfl : k = n := by omega
      have Hor := Lib.hid hor
      clear hor hlt hk
      go_wp2_with fail
      go_ret2
      exact ⟨_, rfl, Hor.out, hbel⟩

theorem specNeedless_any (w : World) (f : Int) (ao : Option Addr) (cap : Nat) (l : List (Int × Int)) (n : Nat) (Hn : Hid (n = l.length)) (hs : n ≤ 1048576) (Hc : CallsAt w ao l) (hcap : n ≤ cap) :
    Calls Try.prog 36 #[.int .i64 f, .slice ao n cap] w fun e w' => ∃ v, e = .returned (.tuple #[v, .bool (gdB f l)]) ∧ w'.ownsRow w.heap.size 3 1 v (ndL f l).length (ns (ndL f l)) ∧ Below w.heap.size w w' := by
  have HHc := Lib.hid Hc
  clear Hc
  cases hg : gdB f l
  · rw [show ndL f l = [] by simp [ndL, hg]]
    have Hg := Lib.hid hg
    clear hg
    go_enter Try.func36, Try.ntmps36
    go_wp2_with fail
    refine (caGood_any f ao cap l n w Hn.out (by omega) HHc.out).mono ?_
    rintro e w1 ⟨rfl, hb⟩
    rw [Hg.out]
    go_wp2_with fail
    go_ret2
    exact ⟨_, rfl, World.ownsRow_nil _ _ _ _, hb⟩
  · have hff := gd_fr hg
    obtain ⟨F, rfl⟩ := Int.eq_ofNat_of_zero_le (show 0 ≤ f by omega)
    rw [show ndL F l = ix (nd F l) n by simp [ndL, hg, Hn.out]]
    exact specNeedless_yes w F ao cap l n Hn (by rw [Hn.out]; exact gd_len' hg) hcap HHc hg hff
end Go.Proofs.Ytffnmpmgnaephaa
