/- NeedlessCalls: the model and the program. -/
import Derived.Test.YtffnmpmgnaephaaWithout
namespace Go.Proofs.Ytffnmpmgnaephaa
open Go.ChangeShapes Go.WideShapes Go.ChangeAt Go.RowKit
set_option linter.unusedVariables false

set_option maxRecDepth 100000 in
theorem eq65 (x0 x1 x2 x3 x4 x5 x6 x7 x8 x9 y0 y1 y2 y3 y4 y5 y6 y7 y8 y9 : Int) (w : World) : (Op.equalIn 9999 55 (.agg #[.int .u16 x0, .int .u16 x1, .int .u16 x2, .int .u16 x3, .int .u16 x4, .int .u16 x5, .int .u16 x6, .int .u16 x7, .int .u16 x8, .int .u16 x9]) (.agg #[.int .u16 y0, .int .u16 y1, .int .u16 y2, .int .u16 y3, .int .u16 y4, .int .u16 y5, .int .u16 y6, .int .u16 y7, .int .u16 y8, .int .u16 y9])).run Try.prog w = .ok (x0 == y0 && (x1 == y1 && (x2 == y2 && (x3 == y3 && (x4 == y4 && (x5 == y5 && (x6 == y6 && (x7 == y7 && (x8 == y8 && x9 == y9))))))))) w := by
  have u3 := Try.underlying54
  have a3 := Try.isAgg64
  have z3 := Try.sizeOf64
  rw [show (9999 : Nat) = 9998 + 1 from rfl, Op.equalIn]
  simp only [Sem.run_bind, run_underlying Try.underlying55, Result.andThen_ok]
  simp only [Std.Legacy.Range.forIn_eq_forIn_range', Std.Legacy.Range.size, Nat.sub_zero, Nat.add_sub_cancel, Nat.div_one, List.range'_succ, List.range'_zero, List.forIn_cons, List.forIn_nil]
  go_simp
  repeat' split
  all_goals simp_all

set_option maxRecDepth 100000 in
theorem eq67 (f x0 x1 x2 x3 x4 x5 x6 x7 x8 x9 y0 y1 y2 y3 y4 y5 y6 y7 y8 y9 : Int) (w : World) : (Op.equalIn 10000 57 (.agg #[.int .i64 f, .int .u16 x0, .int .u16 x1, .int .u16 x2, .int .u16 x3, .int .u16 x4, .int .u16 x5, .int .u16 x6, .int .u16 x7, .int .u16 x8, .int .u16 x9]) (.agg #[.int .i64 f, .int .u16 y0, .int .u16 y1, .int .u16 y2, .int .u16 y3, .int .u16 y4, .int .u16 y5, .int .u16 y6, .int .u16 y7, .int .u16 y8, .int .u16 y9])).run Try.prog w = .ok (x0 == y0 && (x1 == y1 && (x2 == y2 && (x3 == y3 && (x4 == y4 && (x5 == y5 && (x6 == y6 && (x7 == y7 && (x8 == y8 && x9 == y9))))))))) w := by
  have u3 := Try.underlying3
  have a3 := Try.isAgg3
  have z3 := Try.sizeOf3
  have a65 := Try.isAgg65
  have z65 := Try.sizeOf65
  have h65 := eq65 x0 x1 x2 x3 x4 x5 x6 x7 x8 x9 y0 y1 y2 y3 y4 y5 y6 y7 y8 y9
  have hS : Try.prog.underlying 57 = some (.struct (Try.prog.fieldsOf 57)) := by kernel_rfl
  have hp : Try.prog.stoodInHeld 57 = false := by kernel_rfl
  rw [show (10000 : Nat) = 9999 + 1 from rfl, run_equalIn_agg w 9999 57 _ _ hS hp]
  simp only [Program.fieldsOf, Try.underlying57]
  go_simp
  generalize (x0 == y0 && (x1 == y1 && (x2 == y2 && (x3 == y3 && (x4 == y4 && (x5 == y5 && (x6 == y6 && (x7 == y7 && (x8 == y8 && x9 == y9))))))))) = r
  cases r <;> rfl

/-- The ten sets are the same. -/
def sameS (s t : Nat → Nat) : Bool := (((s 0 : Nat) : Int) == ((t 0 : Nat) : Int) && (((s 1 : Nat) : Int) == ((t 1 : Nat) : Int) && (((s 2 : Nat) : Int) == ((t 2 : Nat) : Int) && (((s 3 : Nat) : Int) == ((t 3 : Nat) : Int) && (((s 4 : Nat) : Int) == ((t 4 : Nat) : Int) && (((s 5 : Nat) : Int) == ((t 5 : Nat) : Int) && (((s 6 : Nat) : Int) == ((t 6 : Nat) : Int) && (((s 7 : Nat) : Int) == ((t 7 : Nat) : Int) && (((s 8 : Nat) : Int) == ((t 8 : Nat) : Int) && ((s 9 : Nat) : Int) == ((t 9 : Nat) : Int))))))))))

theorem eqKA (f : Int) (s t : Nat → Nat) (w : World) : (Op.equalIn 10000 57 (.agg (KA f s)) (.agg (KA f t))).run Try.prog w = .ok (sameS s t) w := eq67 f _ _ _ _ _ _ _ _ _ _ _ _ _ _ _ _ _ _ _ _ w

theorem same_eq (F : Nat) (s t : Nat → Nat) (hF : F ≤ 10) (h1 : ∀ i, F ≤ i → s i = 0) (h2 : ∀ i, F ≤ i → t i = 0) : sameS s t = sameN (kl F s) (kl F t) F := by
  rw [Bool.eq_iff_iff]
  simp only [sameS, sameN, Bool.and_eq_true, beq_iff_eq, List.all_eq_true, List.mem_range, Int.ofNat_inj]
  constructor
  · intro h i hi
    rw [kl_get F s i hi, kl_get F t i hi, Int.ofNat_inj]
    have : i = 0 ∨ i = 1 ∨ i = 2 ∨ i = 3 ∨ i = 4 ∨ i = 5 ∨ i = 6 ∨ i = 7 ∨ i = 8 ∨ i = 9 := by omega
    rcases this with rfl | rfl | rfl | rfl | rfl | rfl | rfl | rfl | rfl | rfl <;> simp [h]
  · intro h
    have key : ∀ i, s i = t i := by
      intro i
      by_cases hi : i < F
      · have := h i hi
        rw [kl_get F s i hi, kl_get F t i hi, Int.ofNat_inj] at this
        exact this
      · rw [h1 i (by omega), h2 i (by omega)]
    simp [key]

theorem nd_same {F : Nat} {l : List (Int × Int)} (hg : gdB (F : Int) l = true) (k : Nat) : sameS (play F (less l k)) (play F l) = nd F l k := by
  have hf := gd_fr hg
  exact same_eq F _ _ (by omega) (play_zero (less_gd hg k)) (play_zero hg)

theorem own_weaken {w : World} {b b' : Nat} {e : TypeId} {size : Nat} {v : Value} {n : Nat} {xs : List Value} (h : w.ownsRow b e size v n xs) (hb : b' ≤ b) : w.ownsRow b' e size v n xs := by
  refine ⟨h.1, ?_⟩
  rcases h.2 with h2 | ⟨g, cap, cur, h1, h2, h3⟩
  · exact .inl h2
  · exact .inr ⟨g, cap, cur, h1, Nat.le_trans hb h2, h3⟩

set_option maxRecDepth 20000 in
theorem implNeedless_yes (w : World) (F : Nat) (ao : Option Addr) (cap : Nat) (l : List (Int × Int)) (n : Nat) (Hn : Hid (n = l.length)) (hs : n ≤ 60) (hcap : n ≤ cap) (HHc : Hid (CallsAt w ao l)) (Hg : Hid (gdB (F : Int) l = true)) (hff : 1 ≤ (F : Int) ∧ (F : Int) ≤ 10) :
    Calls Try.prog 37 #[.int .i64 F, .slice ao n cap] w fun e w' => ∃ v, e = .returned (.tuple #[v, .bool true]) ∧ w'.ownsRow w.heap.size 3 1 v (ix (nd F l) n).length (ns (ix (nd F l) n)) ∧ Below w.heap.size w w' := by
  obtain ⟨i0, hi, hz0, hz1, hz2⟩ := info_parts info3
  go_enter Try.func37, Try.ntmps37
  go_wp2_with fail
  refine (areCalls_any F ao cap l n w Hn.out (by omega) HHc.out).mono ?_
  rintro e w1 ⟨rfl, hb1⟩
  rw [Hg.out]
  go_wp2_with fail
  refine (knowledgeBehind_any F ao cap l n w1 Hn Hg.out (HHc.out.kept hb1)).mono ?_
  rintro e w2 ⟨rfl, hb⟩
  have hb2 : Below w.heap.size w w2 := hb1.trans (hb.mono hb1.size)
  have hs2 := hb2.size
  clear hb hb1
  go_wp2_with (with_reducible refine wpList_store_row rfl 57 (.tmp 7) (.tmp 15) rfl w2.heap.size (KA F (play F l)) ?r1 ?r2 57 _ (heap_alloc_new w2 _) ?r3 ?r4 ?r5 ?_)
  case r1 => rfl
  case r2 => rfl
  case r3 => rw [info57, KA_size]
  case r4 => rw [KA_size]; rfl
  case r5 => exact KA_one _ _
  have hB0 : ((w2.alloc (.cells ZA 57)).setRow w2.heap.size (KA F (play F l))).heap[w2.heap.size]? = some (.cells (KA F (play F l)) 57 (0, 0)) := setRow_heap _ _ _ _ _ _ (heap_alloc_new w2 _)
  have hb0 : Below w.heap.size w ((w2.alloc (.cells ZA 57)).setRow w2.heap.size (KA F (play F l))) := below_setRow (hb2.alloc hs2 _) hs2 _
  have HB0 := Lib.hid hB0
  have HH0 := Lib.hid hb0
  clear hB0 hb0
  go_wp2_with fail
  go_loopw [6, 18] (fun v i wr => ∃ k : Nat, k ≤ n ∧ i = .int .i64 k ∧ wr.heap[w2.heap.size]? = some (.cells (KA F (play F l)) 57 (0, 0)) ∧ wr.ownsRow (w2.heap.size + 1) 3 1 v (ix (nd F l) k).length (ns (ix (nd F l) k)) ∧ Below w.heap.size w wr) (fun _ i _ => n - (intOf i).toNat)
  case atStart => exact ⟨0, Nat.zero_le _, rfl, HB0.out, World.ownsRow_nil _ _ _ _, HH0.out⟩
  case round =>
    obtain ⟨k, hk, rfl, hB, hor, hbel⟩ := hrel
    by_cases hlt : k < n
    · have hle := ix_le (nd F l) k
      have hsz := hbel.size
      have Hck := Lib.hid (HHc.out.kept hbel)
      have Hor := Lib.hid hor
      have HBk := Lib.hid hB
      have hlt1 : w2.heap.size < wr.heap.size := (Array.getElem?_eq_some_iff.1 hB).1
      clear hor hB
      have hev : ∀ w', (Op.equalIn 10000 57 (.agg (KA F (play F (less l k)))) (.agg #[.int .i64 F, .int .u16 (play F l 0), .int .u16 (play F l 1), .int .u16 (play F l 2), .int .u16 (play F l 3), .int .u16 (play F l 4), .int .u16 (play F l 5), .int .u16 (play F l 6), .int .u16 (play F l 7), .int .u16 (play F l 8), .int .u16 (play F l 9)])).run Try.prog w' = .ok (sameS (play F (less l k)) (play F l)) w' := eqKA F (play F (less l k)) (play F l)
      have HD : Hid (wr.drew.heap[w2.heap.size]? = some (.cells (KA F (play F l)) 57 (0, 0))) := HBk.out
      go_wp2_with fail
      go_region_held3 (fun w' => w'.cell? ⟨w2.heap.size, 0, none⟩ = some (.int .i64 F) ∧ w'.cell? ⟨w2.heap.size, 1, none⟩ = some (.int .u16 (play F l 0)) ∧ w'.cell? ⟨w2.heap.size, 2, none⟩ = some (.int .u16 (play F l 1)) ∧ w'.cell? ⟨w2.heap.size, 3, none⟩ = some (.int .u16 (play F l 2)) ∧ w'.cell? ⟨w2.heap.size, 4, none⟩ = some (.int .u16 (play F l 3)) ∧ w'.cell? ⟨w2.heap.size, 5, none⟩ = some (.int .u16 (play F l 4)) ∧ w'.cell? ⟨w2.heap.size, 6, none⟩ = some (.int .u16 (play F l 5)) ∧ w'.cell? ⟨w2.heap.size, 7, none⟩ = some (.int .u16 (play F l 6)) ∧ w'.cell? ⟨w2.heap.size, 8, none⟩ = some (.int .u16 (play F l 7)) ∧ w'.cell? ⟨w2.heap.size, 9, none⟩ = some (.int .u16 (play F l 8)) ∧ w'.cell? ⟨w2.heap.size, 10, none⟩ = some (.int .u16 (play F l 9)) ∧ Below w.heap.size w w')
        (first
          | exact ⟨KA_cell0 HD.out, KA_cell HD.out 0 (by decide), KA_cell HD.out 1 (by decide), KA_cell HD.out 2 (by decide), KA_cell HD.out 3 (by decide), KA_cell HD.out 4 (by decide), KA_cell HD.out 5 (by decide), KA_cell HD.out 6 (by decide), KA_cell HD.out 7 (by decide), KA_cell HD.out 8 (by decide), KA_cell HD.out 9 (by decide), hbel.drew⟩
          | (go_split_ands
             refine ⟨?_, ?_, ?_, ?_, ?_, ?_, ?_, ?_, ?_, ?_, ?_, ?_⟩
             all_goals first | exact cell_below (by assumption) hb2 | exact Below.trans (by assumption) (hb2.mono (Below.size (by assumption))))
          | go_keep)
        (first
          | (go_at_call 62; refine (without_any ao cap F l n k _ Hn hs hcap hlt Hg.out (Hck.out.kept (Below.refl _ _).drew)).mono ?_; rintro e w3 ⟨rfl, hb2⟩)
          | fail)
      rename_i hS
      clear hS hev
      have hb3 : Below w.heap.size w w3 := hbel.drew.trans (hb2.mono hsz)
      have hB3 : w3.heap[w2.heap.size]? = some (.cells (KA F (play F l)) 57 (0, 0)) := (hb2.block _ hlt1).trans HD.out
      have Ho3 := Lib.hid (own_later Hor.out.drew hb2)
      have HB3 := Lib.hid hB3
      have hlt3 : w2.heap.size < w3.heap.size := (Array.getElem?_eq_some_iff.1 hB3).1
      have Hns := Lib.hid (nd_same Hg.out k)
      clear hb2 hbel hB3
      cases ht : nd F l k
      · have hz := Ho3.out
        rw [← ix_no (nd F l) k ht] at hz
        have Hz := Lib.hid hz
        have htest : sameS (play F (less l k)) (play F l) = false := Hns.out.trans ht
        rw [htest]
        clear ht hz htest
        go_wp2_with fail
        go_roundw
        case rel => exact ⟨k + 1, by omega, by go_num, HB3.out, Hz.out, hb3⟩
        case measure => simp [intOf]; omega
      · have Hyes := Lib.hid (ix_yes (nd F l) k ht)
        have htest : sameS (play F (less l k)) (play F l) = true := Hns.out.trans ht
        have hs3 := hb3.size
        rw [htest]
        clear ht htest
        go_wp2_with (at_builtin; refine wpList_append_own _ rfl _ _ 38 rfl (w2.heap.size + 1) 3 i0 (.int .i64 0) 1 8 Try.underlying38 hi hz0 hz1 hz2 rfl (by decide) _ _ _ rfl (Ho3.out.alloc _) ⟨w3.heap.size, 0, none⟩ 1 1 [.int .i64 k] rfl rfl ?c1 ?c2 ?c3 ?c4 ?c5 ?_)
        case c1 => exact World.news_of_block (cs := #[.int .i64 k]) (t := 3) (fr := (0, 0)) (heap_alloc_new _ _)
        case c2 => intro u hu; simp at hu; subst hu; rfl
        case c3 => unfold maxLen; omega
        case c4 => omega
        case c5 => simp; omega
        intro v' w6 hown' hgr _
        have Hown := Lib.hid hown'
        have hB6 : w6.heap[w2.heap.size]? = some (.cells (KA F (play F l)) 57 (0, 0)) := (hgr.block _ (by simp; omega) (fun h => by have := (Ho3.out.lt _ h.symm).1; omega)).trans ((Below.heap_alloc w3 _ _ hlt3).trans HB3.out)
        have HB6 := Lib.hid hB6
        have Hbel := Lib.hid ((hb3.alloc hs3 _).grown hgr (by simp; omega) (fun b hb => by have := (Ho3.out.lt b hb).1; omega))
        clear hown' hgr hb3 hB6
        go_wp2_with fail
        go_roundw
        case rel => exact ⟨k + 1, by omega, by go_num, HB6.out, by rw [Hyes.out, ns_append, List.length_append]; exact Hown.out, Hbel.out⟩
        case measure => simp [intOf]; omega
    · obtain rfl : k = n := by omega
      have Hor := Lib.hid (own_weaken hor (show w.heap.size ≤ w2.heap.size + 1 by omega))
      clear hor hlt hk
      go_wp2_with fail
      go_ret2
      exact ⟨_, rfl, Hor.out, hbel⟩

theorem implNeedless_any (w : World) (f : Int) (ao : Option Addr) (cap : Nat) (l : List (Int × Int)) (n : Nat) (Hn : Hid (n = l.length)) (hs : n ≤ 1048576) (Hc : CallsAt w ao l) (hcap : n ≤ cap) :
    Calls Try.prog 37 #[.int .i64 f, .slice ao n cap] w fun e w' => ∃ v, e = .returned (.tuple #[v, .bool (gdB f l)]) ∧ w'.ownsRow w.heap.size 3 1 v (ndL f l).length (ns (ndL f l)) ∧ Below w.heap.size w w' := by
  have HHc := Lib.hid Hc
  clear Hc
  cases hg : gdB f l
  · rw [show ndL f l = [] by simp [ndL, hg]]
    have Hg := Lib.hid hg
    clear hg
    go_enter Try.func37, Try.ntmps37
    go_wp2_with fail
    refine (areCalls_any f ao cap l n w Hn.out (by omega) HHc.out).mono ?_
    rintro e w1 ⟨rfl, hb⟩
    rw [Hg.out]
    go_wp2_with fail
    go_ret2
    exact ⟨_, rfl, World.ownsRow_nil _ _ _ _, hb⟩
  · have hff := gd_fr hg
    obtain ⟨F, rfl⟩ := Int.eq_ofNat_of_zero_le (show 0 ≤ f by omega)
    rw [show ndL F l = ix (nd F l) n by simp [ndL, hg, Hn.out]]
    exact implNeedless_yes w F ao cap l n Hn (by rw [Hn.out]; exact gd_len' hg) hcap HHc hg hff
end Go.Proofs.Ytffnmpmgnaephaa
