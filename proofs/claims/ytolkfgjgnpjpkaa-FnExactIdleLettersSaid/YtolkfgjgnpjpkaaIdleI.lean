/- The letters by which nobody comes to know anything: the program. -/
import Derived.Test.YtolkfgjgnpjpkaaIdleS
namespace Go.Proofs.Ytolkfgjgnpjpkaa
open Go.ChangeShapes Go.WideShapes Go.ChangeAt Go.RowKit
set_option linter.unusedVariables false


theorem pc_or_same {x y : Nat} (hx : x < 1024) (hy : y < 1024) : pc (x ||| y) = pc x ↔ x = x ||| y := by
  have hxy : x ||| y < 1024 := Nat.or_lt_two_pow (n := 10) hx hy
  constructor
  · intro h
    have h1 := (pc_sub (a := x) (b := x ||| y) 10 (fun i _ hi => by rw [Nat.testBit_or, hi, Bool.true_or])).2 h.symm
    apply Nat.eq_of_testBit_eq
    intro i
    by_cases hi : i < 10
    · exact h1 i hi
    · have hp : 2 ^ 10 ≤ 2 ^ i := Nat.pow_le_pow_right (by decide) (by omega)
      rw [Nat.testBit_lt_two_pow (by omega), Nat.testBit_lt_two_pow (by omega)]
  · intro h; rw [← h]
theorem idl_eq {F x y : Nat} {l : List (Int × Int)} {k : Nat} {s : Nat → Nat} (hs : playL F (l.take k) = s) (hsm : ∀ i, s i < 1024) (hy : y < F) (hstep : playL F (l.take (k + 1)) = upd s y (s y ||| s x)) :
    (((pc (s y ||| s x) : Int) - pc (s y)) == 0) = idl F l k := by
  rw [Bool.eq_iff_iff]
  unfold idl
  rw [sameN_kl, hs, hstep, beq_iff_eq]
  have h1 := pc_or_same (hsm y) (hsm x)
  constructor
  · intro h
    have h2 := h1.1 (by omega)
    intro i _
    by_cases e : i = y
    · subst e; rw [upd_same]; exact h2
    · simp [upd, e]
  · intro h
    have h2 := h y hy
    rw [upd_same] at h2
    have := h1.2 h2
    omega

set_option maxHeartbeats 800000 in
set_option maxRecDepth 20000 in
theorem implIdleL_pos (w : World) (F : Nat) (b off : Nat) (cap : Nat) (l : List (Int × Int)) (n : Nat) (Hn : Hid (n = l.length)) (hs : n ≤ 60) (Hg : Hid (gdL (F : Int) l = true)) (hff : 1 ≤ (F : Int) ∧ (F : Int) ≤ 10)
    (Hc : Hid (∀ i, i < n → w.cell? ⟨b, off + i * 2, none⟩ = some (.int .i64 (ca l i)) ∧ w.cell? ⟨b, off + i * 2 + 1, none⟩ = some (.int .i64 (cb l i)))) :
    Calls Try.prog 34 #[.int .i64 F, .slice (some ⟨b, off, none⟩) n cap] w fun e w' => ∃ v, e = .returned (.tuple #[v, .bool true]) ∧ w'.ownsRow w.heap.size 3 1 v (ix (idl F l) n).length (ns (ix (idl F l) n)) ∧ Below w.heap.size w w' := by
  obtain ⟨i0, hi, hz0, hz1, hz2⟩ := info_parts info3
  have HA : CallsAt w (some ⟨b, off, none⟩) l := .inr ⟨b, off, rfl, by rw [← Hn.out]; exact Hc.out⟩
  have HHA := Lib.hid HA
  clear HA
  go_enter Try.func34, Try.ntmps34
  go_wp2_with fail
  refine (areLetters_any F _ cap l n w Hn.out (by omega) HHA.out).mono ?_
  rintro e w1 ⟨rfl, hb1⟩
  rw [Hg.out]
  go_wp2_with fail
  refine (readersBefore_any F w1 (by omega) (by omega)).mono ?_
  rintro e w2 ⟨bs, hl, rfl, hr, hb2⟩
  have Hr := Lib.hid hr
  have Hb2 := Lib.hid (hb1.trans (hb2.mono hb1.size))
  have hB := hb1.size
  have hB2 := hb2.size
  clear hr hb2 hb1
  generalize w1.heap.size = B at *
  go_wp2_with fail
  go_loopw [6, 18] (fun v i wr => ∃ k : Nat, k ≤ n ∧ i = .int .i64 k ∧ wr.ownsRow w.heap.size 3 1 v (ix (idl F l) k).length (ns (ix (idl F l) k)) ∧ RdB wr B B F bs (playL F (l.take k)) ∧ Below w.heap.size w wr ∧ B ≤ wr.heap.size) (fun _ i _ => n - (intOf i).toNat)
  case atStart => exact ⟨0, Nat.zero_le _, rfl, World.ownsRow_nil _ _ _ _, Hr.out, Hb2.out, hB2⟩
  case round =>
    obtain ⟨k, hk, rfl, hor, hrd, hbel, hBr⟩ := hrel
    by_cases hlt : k < n
    · have hle := ix_le (idl F l) k
      have h0 := hbel.cell (p := ⟨b, off + k * 2, none⟩) (World.block_lt_of_cell? w _ (Hc.out k hlt).1)
      have h1 := hbel.cell (p := ⟨b, off + k * 2 + 1, none⟩) (World.block_lt_of_cell? w _ (Hc.out k hlt).2)
      have hgc := gl_letter Hg.out (i := k) (by rw [← Hn.out]; exact hlt)
      obtain ⟨x, hx⟩ : ∃ x : Nat, ca l k = (x : Int) := ⟨(ca l k).toNat, by omega⟩
      obtain ⟨y, hy⟩ : ∃ y : Nat, cb l k = (y : Int) := ⟨(cb l k).toNat, by omega⟩
      rw [(Hc.out k hlt).1, hx] at h0
      rw [(Hc.out k hlt).2, hy] at h1
      have hstep := playL_succ F l k (by rw [← Hn.out]; exact hlt)
      rw [hx, hy] at hstep hgc
      have hsm : ∀ i, playL F (l.take k) i < 1024 := fun i => pow_small (f := F) (by omega) (playL_lt F _ i)
      obtain ⟨s, hs'⟩ : ∃ s, playL F (l.take k) = s := ⟨_, rfl⟩
      have hst : playL F (l.take (k + 1)) = upd s y (s y ||| s x) := by rw [hstep, hs']; simp [stpL]
      rw [hs'] at hrd hsm
      have hidl := idl_eq hs' hsm (show y < F by omega) hst
      have Hst := Lib.hid hst
      have hp1 := pc_ten (s y)
      have hp2 := pc_ten (s y ||| s x)
      have hread := read_off B B F x y F bs s (wr.alloc (.cells #[.int .i64 x, .int .i64 y] 62)) hl (Nat.le_refl _) (by omega) (by omega) (by omega) (by omega) (by simp; omega) (hrd.alloc _)
      have Hor := Lib.hid (hor.alloc (.cells #[.int .i64 x, .int .i64 y] 62))
      have Hrd := Lib.hid (hrd.alloc (.cells #[.int .i64 x, .int .i64 y] 62))
      have hb3 : Below w.heap.size w (wr.alloc (.cells #[.int .i64 x, .int .i64 y] 62)) := hbel.alloc hbel.size _
      have hsz : (wr.alloc (.cells #[.int .i64 x, .int .i64 y] 62)).heap.size = wr.heap.size + 1 := by simp
      clear hor hrd hgc hstep hx hy hst hs' hsm hbel
      go_wp2_with fail
      generalize wr.alloc (.cells #[.int .i64 x, .int .i64 y] 62) = w3 at hread Hor Hrd hb3 hsz ⊢
      refine hread.mono ?_
      rintro e w4 ⟨rfl, hr4, hb4, hoff⟩
      have hor4 := own_same (w' := w4) Hor.out (fun g hg => hoff g ((Hor.out.lt g hg).2) (Hrd.out.not_in Hor.out hg))
      rw [← Hst.out] at hr4
      have hb5 : Below w.heap.size w w4 := hb3.trans (hb4.mono hB)
      have hs4 := hb4.size
      have Hr4 := Lib.hid hr4
      clear hread hr4 hb4 hoff Hor Hrd hb3
      cases ht : idl F l k
      · rw [← ix_no (idl F l) k ht] at hor4
        have Hz := Lib.hid hor4
        rw [ht] at hidl
        clear ht hor4
        go_wp2_with fail
        go_roundw
        case rel => exact ⟨k + 1, by omega, by go_num, Hz.out, Hr4.out, hb5, by omega⟩
        case measure => simp [intOf]; omega
      · have Hyes := Lib.hid (ix_yes (idl F l) k ht)
        have Ho5 := Lib.hid hor4
        rw [ht] at hidl
        have hs2 := hb5.size
        clear ht hor4
        go_wp2_with (at_builtin; refine wpList_append_own _ rfl _ _ 39 rfl w.heap.size 3 i0 (.int .i64 0) 1 8 Try.underlying39 hi hz0 hz1 hz2 rfl (by decide) _ _ _ rfl (Ho5.out.alloc _) ⟨w4.heap.size, 0, none⟩ 1 1 [.int .i64 k] rfl rfl ?c1 ?c2 ?c3 ?c4 ?c5 ?_)
        case c1 => exact World.news_of_block (cs := #[.int .i64 k]) (t := 3) (fr := (0, 0)) (heap_alloc_new _ _)
        case c2 => intro u hu; simp at hu; subst hu; rfl
        case c3 => unfold maxLen; omega
        case c4 => omega
        case c5 => simp; omega
        intro v' w6 hown' hgr _
        have Hown := Lib.hid hown'
        have Hr6 := Lib.hid ((Hr4.out.alloc _).beside (Ho5.out.alloc _) hgr)
        have hs6 := hgr.size
        have Hbel := Lib.hid ((hb5.alloc hs2 _).grown hgr (by simp; omega) (fun b hb => (Ho5.out.lt b hb).1))
        have hs7 : B ≤ w6.heap.size := by simp at hs6; omega
        clear hown' hgr hb5 hs6
        go_wp2_with fail
        go_roundw
        case rel => exact ⟨k + 1, by omega, by go_num, by rw [Hyes.out, ns_append, List.length_append]; exact Hown.out, Hr6.out, Hbel.out, hs7⟩
        case measure => simp [intOf]; omega
    · obtain rfl : k = n := by omega
      have Hor := Lib.hid hor
      clear hor hlt hk
      go_wp2_with fail
      go_ret2
      exact ⟨_, rfl, Hor.out, hbel⟩

theorem implIdleL_zero (w : World) (F : Nat) (ao : Option Addr) (cap : Nat) (Hg : Hid (gdL (F : Int) [] = true)) (hff : 1 ≤ (F : Int) ∧ (F : Int) ≤ 10) :
    Calls Try.prog 34 #[.int .i64 F, .slice ao 0 cap] w fun e w' => ∃ v, e = .returned (.tuple #[v, .bool true]) ∧ w'.ownsRow w.heap.size 3 1 v 0 (ns []) ∧ Below w.heap.size w w' := by
  go_enter Try.func34, Try.ntmps34
  go_wp2_with fail
  refine (areLetters_any F ao cap [] 0 w rfl (by omega) (.inl rfl)).mono ?_
  rintro e w1 ⟨rfl, hb1⟩
  rw [Hg.out]
  go_wp2_with fail
  refine (readersBefore_any F w1 (by omega) (by omega)).mono ?_
  rintro e w2 ⟨bs, hl, rfl, _, hb2⟩
  have hb3 := hb1.trans (hb2.mono hb1.size)
  clear hb2 hb1
  go_wp2_with fail
  go_rounds 1
  go_ret2
  exact ⟨_, rfl, World.ownsRow_nil _ _ _ _, hb3⟩

theorem implIdleL_any (w : World) (f : Int) (ao : Option Addr) (cap : Nat) (l : List (Int × Int)) (n : Nat) (Hn : Hid (n = l.length)) (hs : n ≤ 1048576) (Hc : CallsAt w ao l) (hcap : n ≤ cap) :
    Calls Try.prog 34 #[.int .i64 f, .slice ao n cap] w fun e w' => ∃ v, e = .returned (.tuple #[v, .bool (gdL f l)]) ∧ w'.ownsRow w.heap.size 3 1 v (idlL f l).length (ns (idlL f l)) ∧ Below w.heap.size w w' := by
  cases hg : gdL f l
  · rw [show idlL f l = [] by simp [idlL, hg]]
    have HHc := Lib.hid Hc
    have Hg := Lib.hid hg
    clear hg Hc
    go_enter Try.func34, Try.ntmps34
    go_wp2_with fail
    refine (areLetters_any f ao cap l n w Hn.out (by omega) HHc.out).mono ?_
    rintro e w1 ⟨rfl, hb⟩
    rw [Hg.out]
    go_wp2_with fail
    go_ret2
    exact ⟨_, rfl, World.ownsRow_nil _ _ _ _, hb⟩
  · have hff := gl_fr hg
    obtain ⟨F, rfl⟩ := Int.eq_ofNat_of_zero_le (show 0 ≤ f by omega)
    rw [show idlL F l = ix (idl F l) n by simp [idlL, hg, Hn.out]]
    by_cases h0 : n = 0
    · subst h0
      have : l = [] := List.eq_nil_of_length_eq_zero Hn.out.symm
      subst this
      exact implIdleL_zero w F ao cap hg hff
    · rcases Hc with rfl | ⟨b, off, rfl, hc⟩
      · exact absurd Hn.out h0
      · exact implIdleL_pos w F b off cap l n Hn (by rw [Hn.out]; exact gl_len2 hg) hg hff (by rw [Hn.out]; exact hc)

end Go.Proofs.Ytolkfgjgnpjpkaa
