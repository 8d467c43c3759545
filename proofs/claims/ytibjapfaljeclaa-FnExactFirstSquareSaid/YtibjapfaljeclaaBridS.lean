/- The bridges: what they are; the model. -/
import Derived.Test.YtibjapfaljeclaaJoinI
import Derived.Test.YtibjapfaljeclaaDrop
namespace Go.Proofs.Ytibjapfaljeclaa
open Go.ChangeShapes Go.WideShapes Go.ChangeAt Go.RowKit
set_option linter.unusedVariables false


theorem less_getD (l : List (Int × Int)) {k : Nat} (i : Nat) (hk : k < l.length) : (less l k)[i]? = l[if i < k then i else i + 1]? := by
  unfold less
  rw [List.getElem?_append]
  have e : (l.take k).length = k := by simp; omega
  rw [e]
  by_cases h : i < k
  · simp [h]
  · rw [if_neg h, if_neg h, List.getElem?_drop]
    congr 1; omega
theorem ca_less (l : List (Int × Int)) {k : Nat} (i : Nat) (hk : k < l.length) : ca (less l k) i = ca l (if i < k then i else i + 1) := by
  unfold ca; rw [List.getD_eq_getElem?_getD, List.getD_eq_getElem?_getD, less_getD l i hk]
theorem cb_less (l : List (Int × Int)) {k : Nat} (i : Nat) (hk : k < l.length) : cb (less l k) i = cb l (if i < k then i else i + 1) := by
  unfold cb; rw [List.getD_eq_getElem?_getD, List.getD_eq_getElem?_getD, less_getD l i hk]
/-- A network without a pair is one. -/
theorem net_less {f : Int} {l : List (Int × Int)} (h : netB f l = true) {k : Nat} (hk : k < l.length) : netB f (less l k) = true := by
  have hg := net_gd h
  have h1 : gdB f (less l k) = true := by
    simp only [gdB, Bool.and_eq_true, decide_eq_true_eq, List.all_eq_true] at hg ⊢
    refine ⟨⟨hg.1.1, ?_⟩, fun p hp => ?_⟩
    · rw [less_len hk]; have := hg.1.2; omega
    · unfold less at hp
      rcases List.mem_append.1 hp with h2 | h2
      · exact hg.2 p (List.mem_of_mem_take h2)
      · exact hg.2 p (List.mem_of_mem_drop h2)
  have h2 : incB (less l k) = true := by
    refine inc_yes fun j j1 j2 => ?_
    rw [less_len hk] at j2
    have hb := inc_lt (net_inc h) (i := if j - 1 < k then j - 1 else j - 1 + 1) (if j < k then j else j + 1) (by split <;> split <;> omega) (by split <;> omega)
    simp only [lessB, decide_eq_true_eq, ca_less l _ hk, cb_less l _ hk]
    exact hb
  rw [netB, h1, h2]; rfl

/-- The first of the bridges, of so many pairs. -/
def brT (f : Int) (l : List (Int × Int)) : Nat → List (Int × Int)
  | 0 => []
  | k + 1 => if isjR f (less l k) then brT f l k else brT f l k ++ [(ca l k, cb l k)]
theorem brT_len (f : Int) (l : List (Int × Int)) : ∀ k, (brT f l k).length ≤ k
  | 0 => Nat.le_refl _
  | k + 1 => by
    have := brT_len f l k
    rw [brT]; split
    · omega
    · rw [List.length_append]; simp; omega
def bridR (f : Int) (l : List (Int × Int)) : List (Int × Int) := if isjR f l then brT f l l.length else []
theorem isj_net {f : Int} {l : List (Int × Int)} (h : isjR f l = true) : netB f l = true := by
  simp only [isjR, Bool.and_eq_true] at h; exact h.1
theorem bridR_len (f : Int) (l : List (Int × Int)) : (bridR f l).length ≤ 60 := by
  unfold bridR
  cases h : isjR f l
  · simp
  · rw [if_pos rfl]
    have := brT_len f l l.length
    have := net_len60 (isj_net h)
    omega

set_option maxRecDepth 20000 in
theorem specBrid_any (w : World) (f : Int) (ao : Option Addr) (cap : Nat) (l : List (Int × Int)) (n : Nat) (Hn : Hid (n = l.length)) (hs : n ≤ 1048576) (Hc : CallsAt w ao l) (hcap : n ≤ cap) :
    Calls Try.prog 29 #[.int .i64 f, .slice ao n cap] w fun e w' => ∃ v, e = .returned (.tuple #[v, .bool (isjR f l)]) ∧ w'.ownsRow w.heap.size 46 2 v (bridR f l).length (cs (bridR f l)) ∧ Below w.heap.size w w' := by
  have HA := Lib.hid Hc
  clear Hc
  cases hj : isjR f l
  · have Hno : Hid (isjR f l = false ∧ bridR f l = []) := Lib.hid ⟨hj, by rw [bridR, hj]; rfl⟩
    cases hg : netB f l
    · have Hg := Lib.hid hg
      clear hg hj
      go_enter Try.func29, Try.ntmps29
      go_wp2_with fail
      refine (neGood_any f ao cap l n w Hn.out (by omega) HA.out).mono ?_
      rintro e w1 ⟨rfl, hb1⟩
      rw [Hg.out]
      go_wp2_with fail
      go_ret2
      exact ⟨.slice none 0 0, rfl, by rw [Hno.out.2]; exact World.ownsRow_nil _ _ _ _, hb1⟩
    · have hfr := net_fr hg
      obtain ⟨F, rfl⟩ := Int.eq_ofNat_of_zero_le (show 0 ≤ f by omega)
      have HJ : Hid (joinB F l = false) := Lib.hid (by rw [← isj_at hg]; exact hj)
      have Hgd := Lib.hid (net_gd hg)
      have Hg := Lib.hid hg
      clear hg hj
      go_enter Try.func29, Try.ntmps29
      go_wp2_with fail
      refine (neGood_any F ao cap l n w Hn.out (by omega) HA.out).mono ?_
      rintro e w1 ⟨rfl, hb1⟩
      rw [Hg.out]
      go_wp2_with fail
      refine (neJoined_any F ao cap l n w1 Hn hs Hgd (HA.out.kept hb1)).mono ?_
      rintro e w2 ⟨rfl, hb2⟩
      rw [HJ.out]
      have hb3 := hb1.trans (hb2.mono hb1.size)
      clear hb1 hb2
      go_wp2_with fail
      go_ret2
      exact ⟨.slice none 0 0, rfl, by rw [Hno.out.2]; exact World.ownsRow_nil _ _ _ _, hb3⟩
  · have hnet := isj_net hj
    have hfr := net_fr hnet
    obtain ⟨F, rfl⟩ := Int.eq_ofNat_of_zero_le (show 0 ≤ f by omega)
    have h60 := net_len60 hnet
    rw [← Hn.out] at h60
    have Hless : Hid (∀ k, k < n → netB (F : Int) (less l k) = true) := Lib.hid (fun k hk => net_less hnet (by rw [← Hn.out]; exact hk))
    have Hok : Hid (isjR (F : Int) l = true ∧ bridR (F : Int) l = brT F l n) := Lib.hid ⟨hj, by rw [bridR, hj, ← Hn.out]; rfl⟩
    have HJ : Hid (joinB F l = true) := Lib.hid (by rw [← isj_at hnet]; exact hj)
    have Hg := Lib.hid hnet
    have Hgd := Lib.hid (net_gd hnet)
    clear hj hnet
    obtain ⟨i0, hi, hz0, hz1, hz2⟩ := info_parts info46
    go_enter Try.func29, Try.ntmps29
    go_wp2_with fail
    refine (neGood_any F ao cap l n w Hn.out (by omega) HA.out).mono ?_
    rintro e w1 ⟨rfl, hb1⟩
    rw [Hg.out]
    go_wp2_with fail
    refine (neJoined_any F ao cap l n w1 Hn hs Hgd (HA.out.kept hb1)).mono ?_
    rintro e w2 ⟨rfl, hb2⟩
    rw [HJ.out]
    have hb0 := hb1.trans (hb2.mono hb1.size)
    clear hb1 hb2
    have Hb0 := Lib.hid hb0
    clear hb0
    go_wp2_with fail
    go_loopw [6, 21] (fun v i wr => ∃ k : Nat, k ≤ n ∧ i = .int .i64 k ∧ wr.ownsRow w.heap.size 46 2 v (brT F l k).length (cs (brT F l k)) ∧ Below w.heap.size w wr) (fun _ i _ => n - (intOf i).toNat)
    case atStart => exact ⟨0, Nat.zero_le _, rfl, World.ownsRow_nil _ _ _ _, Hb0.out⟩
    case round =>
      clear Hb0
      obtain ⟨k, hk, rfl, hor, hbel⟩ := hrel
      have hll := brT_len F l k
      by_cases hlt : k < n
      · rcases HA.out with h | ⟨b, off, rfl, hc⟩
        · exact absurd hlt (by rw [Hn.out, h]; simp)
        have hkl : k < l.length := by rw [← Hn.out]; exact hlt
        have h0 := cell_old hbel (hc k hkl).1
        have h1 := cell_old hbel (hc k hkl).2
        have hs3 := hbel.size
        have hk0 : (0 : Int) ≤ k := by omega
        have hk2 : (k : Int) < n := by omega
        obtain ⟨X, hX⟩ : ∃ X : Int, ca l k = X := ⟨_, rfl⟩
        obtain ⟨Y, hY⟩ : ∃ Y : Int, cb l k = Y := ⟨_, rfl⟩
        rw [hX] at h0
        rw [hY] at h1
        have HXY : Hid (ca l k = X ∧ cb l k = Y) := Lib.hid ⟨hX, hY⟩
        obtain ⟨W, hW⟩ : ∃ W, wr.alloc (.cells #[.int .i64 X, .int .i64 Y] 46) = W := ⟨_, rfl⟩
        have c0 : W.cell? ⟨wr.heap.size, 0, none⟩ = some (.int .i64 X) := by rw [← hW]; simp
        have c1 : W.cell? ⟨wr.heap.size, 1, none⟩ = some (.int .i64 Y) := by rw [← hW]; simp
        have hbW : Below w.heap.size w W := by rw [← hW]; exact hbel.alloc hs3 _
        have horW := hor.alloc (.cells #[.int .i64 X, .int .i64 Y] 46)
        rw [hW] at horW
        have HW := Lib.hid hW
        have hLN := Hless.out k hlt
        have HLg := Lib.hid (net_gd hLN)
        have HLj : Hid (isjR (F : Int) (less l k) = joinB F (less l k)) := Lib.hid (isj_at hLN)
        have hl60 : (less l k).length ≤ 60 := net_len60 hLN
        have hsW := hbW.size
        clear hX hY hc hW hbel hor hLN
        go_wp2_with fail
        rw [HW.out]
        refine (caLess_any (some ⟨b, off, none⟩) cap l n k W Hn h60 hcap hlt (HA.out.kept hbW)).mono ?_
        rintro e w5 ⟨v5, rfl, own5, hb5⟩
        obtain ⟨ao5, cap5, rfl, hc5⟩ := own_shape own5 rfl
        have c0 := cell_old hb5 c0
        have c1 := cell_old hb5 c1
        have hor5 := own_later horW hb5
        have hb6 := hbW.trans (hb5.mono hsW)
        have hs6 := hb6.size
        obtain ⟨m, hm⟩ : ∃ m, (less l k).length = m := ⟨_, rfl⟩
        have Hm : Hid (m = (less l k).length) := Lib.hid hm.symm
        rw [hm]
        rw [hm] at hl60
        clear own5 hb5 horW hbW HW hm h0 h1
        go_wp2_with fail
        refine (neJoined_any F ao5 cap5 (less l k) m w5 Hm (by omega) HLg (Lib.hid hc5.1)).mono ?_
        rintro e w7 ⟨rfl, hb7⟩
        have c0 := cell_old hb7 c0
        have c1 := cell_old hb7 c1
        have hor7 := own_later hor5 hb7
        have hb8 := hb6.trans (hb7.mono hs6)
        have hs8 := hb8.size
        clear hb7 hb6 hor5 hc5
        cases hjj : joinB F (less l k)
        · have Hs : Hid (brT F l (k + 1) = brT F l k ++ [(X, Y)]) := Lib.hid (by rw [brT, HLj.out, hjj, HXY.out.1, HXY.out.2]; rfl)
          clear hjj
          go_wp2_with (at_builtin; refine wpList_append_own _ rfl _ _ 26 rfl w.heap.size 46 i0 (.agg #[.int .i64 0, .int .i64 0]) 2 16 Try.underlying26 hi hz0 hz1 hz2 rfl (by decide) _ _ _ rfl (hor7.alloc _) ⟨w7.heap.size, 0, none⟩ 1 1 [.int .i64 X, .int .i64 Y] rfl rfl ?c1 ?c2 ?c3 ?c4 ?c5 ?_)
          case c1 => exact World.news_of_block (cs := #[.int .i64 X, .int .i64 Y]) (t := 46) (fr := (0, 0)) (heap_alloc_new _ _)
          case c2 => intro u hu; simp at hu; rcases hu with rfl | rfl <;> rfl
          case c3 => unfold maxLen; omega
          case c4 => omega
          case c5 => simp; omega
          intro v' w9 hown' hgr _
          have Hown := Lib.hid hown'
          have Hbel := Lib.hid ((hb8.alloc hs8 _).grown hgr (by simp; omega) (fun b hb => (hor7.lt b hb).1))
          clear hown' hgr hor7 hb8
          go_wp2_with fail
          go_roundw
          case rel => exact ⟨k + 1, by omega, by go_num, by rw [Hs.out, cs_append, List.length_append]; exact Hown.out, Hbel.out⟩
          case measure => simp [intOf]; omega
        · have Hs : Hid (brT F l (k + 1) = brT F l k) := Lib.hid (by rw [brT, HLj.out, hjj]; rfl)
          have Hor := Lib.hid hor7
          clear hjj hor7
          go_wp2_with fail
          go_roundw
          case rel => exact ⟨k + 1, by omega, by go_num, by rw [Hs.out]; exact Hor.out, hb8⟩
          case measure => simp [intOf]; omega
      · obtain rfl : k = n := by omega
        obtain ⟨ao2, cap2, rfl, _⟩ := own_shape hor rfl
        have Hor := Lib.hid hor
        clear hor
        go_wp2_with fail
        go_ret2
        exact ⟨_, rfl, by rw [Hok.out.2]; exact Hor.out, hbel⟩

end Go.Proofs.Ytibjapfaljeclaa
