/- Calls with a property. -/
import Derived.Test.YtmgmkgjefplfdaaWho
namespace Go.Proofs.Ytmgmkgjefplfdaa
open Go.ChangeShapes Go.WideShapes Go.ChangeAt Go.RowKit
set_option linter.unusedVariables false

theorem learnNothing_any (a b : Int) (x y : Nat) (w : World) :
    Calls Try.prog 143 #[.agg #[.int .i64 a, .int .i64 b, .int .u16 x, .int .u16 y]] w fun e w' => e = .returned (.bool ((x : Int) == (y : Int))) ∧ Below w.heap.size w w' := by
  go_enter Try.func143, Try.ntmps143
  go_wp2
  go_ret
  exact ⟨rfl, by go_grown⟩

theorem include_any (a b z : Int) (x y : Nat) (w : World) :
    Calls Try.prog 146 #[.agg #[.int .i64 a, .int .i64 b, .int .u16 x, .int .u16 y], .int .i64 z] w fun e w' => e = .returned (.bool (a == z || b == z)) ∧ Below w.heap.size w w' := by
  cases h1 : (a == z)
  · go_enter Try.func146, Try.ntmps146
    go_wp2
    go_ret
    exact ⟨by simp, by go_grown⟩
  · go_enter Try.func146, Try.ntmps146
    go_wp2
    go_ret
    exact ⟨by simp, by go_grown⟩

theorem ofFunc_any (a b z : Int) (x y : Nat) (g : Nat) (w : World) (hg : w.cell? ⟨g, 0, none⟩ = some (.int .i64 z)) :
    Calls Try.prog 145 #[.agg #[.int .i64 a, .int .i64 b, .int .u16 x, .int .u16 y], .pointer (some ⟨g, 0, none⟩)] w fun e w' => e = .returned (.bool (a == z || b == z)) ∧ Below w.heap.size w w' := by
  have hgs : g < w.heap.size := World.block_lt_of_cell? w _ hg
  go_enter Try.func145, Try.ntmps145
  go_wp2_with fail
  refine (include_any a b z x y _).mono ?_
  rintro e w1 ⟨rfl, hb⟩
  go_wp2_with fail
  go_ret
  exact ⟨rfl, ((Below.refl _ _).alloc (Nat.le_refl _) _).trans (hb.mono (by simp))⟩

/-- The indices of the calls that have a property just before them. -/
def tl (p : (Nat → Nat) → Int × Int → Bool) (F : Nat) (l : List (Int × Int)) (k : Nat) : List Int := ((List.range k).filter fun i => p (play F (l.take i)) (ca l i, cb l i)).map fun (i : Nat) => (i : Int)

theorem tl_yes (p : (Nat → Nat) → Int × Int → Bool) (F : Nat) (l : List (Int × Int)) (k : Nat) (h : p (play F (l.take k)) (ca l k, cb l k) = true) : tl p F l (k + 1) = tl p F l k ++ [(k : Int)] := by simp [tl, List.range_succ, List.filter_append, h]

theorem tl_no (p : (Nat → Nat) → Int × Int → Bool) (F : Nat) (l : List (Int × Int)) (k : Nat) (h : p (play F (l.take k)) (ca l k, cb l k) = false) : tl p F l (k + 1) = tl p F l k := by simp [tl, List.range_succ, List.filter_append, h]

theorem tl_le (p : (Nat → Nat) → Int × Int → Bool) (F : Nat) (l : List (Int × Int)) (k : Nat) : (tl p F l k).length ≤ k := by
  have := List.length_filter_le (fun i => p (play F (l.take i)) (ca l i, cb l i)) (List.range k)
  simpa [tl] using this

def pIdle : (Nat → Nat) → Int × Int → Bool := fun s c => ((s c.1.toNat : Int) == (s c.2.toNat : Int))

def pOf (z : Int) : (Nat → Nat) → Int × Int → Bool := fun _ c => (c.1 == z || c.2 == z)

theorem own_setRow {w : World} {base : Nat} {e : TypeId} {size : Nat} {v : Value} {n : Nat} {xs : List Value} {B : Nat} {cs' : Array Value} (h : w.ownsRow base e size v n xs) (hB : B < base) : (w.setRow B cs').ownsRow base e size v n xs := by
  refine ⟨h.1, ?_⟩
  rcases h.2 with hn | ⟨g, cap, cur, hv, hbg, hgg, rest⟩
  · exact .inl hn
  · exact .inr ⟨g, cap, cur, hv, hbg, by rw [setRow_other _ _ _ _ (by omega)]; exact hgg, rest⟩

theorem ns_append_one (l : List Int) (k : Int) : ns (l ++ [k]) = ns l ++ [.int .i64 k] := by simp [ns]

theorem tl_len1 {a b : List Int} {k : Int} (h : a = b ++ [k]) : b.length + 1 = a.length := by rw [h]; simp

set_option maxRecDepth 20000 in
theorem thatIdle (w : World) (F : Nat) (ao : Option Addr) (cap : Nat) (l : List (Int × Int)) (n : Nat) (Hn : Hid (n = l.length)) (hs : n ≤ 60) (HHc : Hid (CallsAt w ao l)) (Hg : Hid (gdB (F : Int) l = true)) (hff : 1 ≤ (F : Int) ∧ (F : Int) ≤ 10) :
    Calls Try.prog 142 #[.int .i64 F, .slice ao n cap, .func (Fn.func 143) #[] #[]] w fun e w' => ∃ v, e = .returned (.tuple #[v, .bool true]) ∧ w'.ownsRow w.heap.size 3 1 v (tl (pIdle) F l n).length (ns (tl (pIdle) F l n)) ∧ Below w.heap.size w w' := by
  obtain ⟨i0, hi, hz0, hz1, hz2⟩ := info_parts info3
  go_enter Try.func142, Try.ntmps142
  go_wp2_with fail
  refine (areCalls_any F ao cap l n w Hn.out (by omega) HHc.out).mono ?_
  rintro e w1 ⟨rfl, hb1⟩
  rw [Hg.out]
  go_wp2_with fail
  refine (ownNews_any F w1 (by omega)).mono ?_
  rintro e w2 ⟨rfl, hb2⟩
  have hb3 : Below w.heap.size w w2 := hb1.trans (hb2.mono hb1.size)
  have hs3 := hb3.size
  have HB3 := Lib.hid hb3
  clear hb2 hb3
  go_wp2_with (with_reducible refine wpList_store_row rfl 133 (.tmp 9) (.tmp 17) rfl w2.heap.size (KA F (own0 F)) ?r1 ?r2 133 _ (heap_alloc_new w2 _) ?r3 ?r4 ?r5 ?_)
  case r1 => rfl
  case r2 => rfl
  case r3 => rw [info133, KA_size]
  case r4 => rw [KA_size]; rfl
  case r5 => exact KA_one _ _
  have hB0 : ((w2.alloc (.cells ZA 133)).setRow w2.heap.size (KA F (own0 F))).heap[w2.heap.size]? = some (.cells (KA F (own0 F)) 133 (0, 0)) := setRow_heap _ _ _ _ _ _ (heap_alloc_new w2 _)
  have hb0 : Below w.heap.size w ((w2.alloc (.cells ZA 133)).setRow w2.heap.size (KA F (own0 F))) := below_setRow (HB3.out.alloc hs3 _) hs3 _
  obtain ⟨B, HBdef⟩ : ∃ B, Hid (B = w2.heap.size) := ⟨_, rfl⟩
  rw [← HBdef.out] at hB0 hb0 hs3 ⊢
  have HB0 := Lib.hid hB0
  have HH0 := Lib.hid hb0
  clear hB0 hb0
  go_loopw [8, 20] (fun v i wr => ∃ k : Nat, k ≤ n ∧ i = .int .i64 k ∧ wr.ownsRow (B + 1) 3 1 v (tl (pIdle) F l k).length (ns (tl (pIdle) F l k)) ∧ wr.heap[B]? = some (.cells (KA F (play F (l.take k))) 133 (0, 0)) ∧ Below w.heap.size w wr) (fun _ i _ => n - (intOf i).toNat)
  case atStart => exact ⟨0, Nat.zero_le _, rfl, World.ownsRow_nil _ _ _ _, HB0.out, HH0.out⟩
  case round =>
    obtain ⟨k, hk, rfl, hor, hB, hbel⟩ := hrel
    have HBk := Lib.hid hB
    have hBs : B < wr.heap.size := (Array.getElem?_eq_some_iff.1 hB).1
    clear hB
    by_cases hlt : k < n
    · have hgc := gd_call Hg.out (by rw [← Hn.out]; exact hlt)
      obtain ⟨b, off, Hao, hcc⟩ : ∃ b off, Hid (ao = some ⟨b, off, none⟩) ∧ (w.cell? ⟨b, off + k * 2, none⟩ = some (.int .i64 (ca l k)) ∧ w.cell? ⟨b, off + k * 2 + 1, none⟩ = some (.int .i64 (cb l k))) := by
        rcases HHc.out with h | ⟨b, off, h, hc⟩
        · subst h; exact absurd Hn.out (by simp; omega)
        · exact ⟨b, off, h, hc k (by rw [← Hn.out]; exact hlt)⟩
      have h0 := cell_old hbel hcc.1
      have h1 := cell_old hbel hcc.2
      have hle := tl_le (pIdle) F l k
      have hsz := hbel.size
      rw [Hao.out]
      have HB2 := Lib.hid ((Below.heap_alloc wr (.cells #[.int .i64 (ca l k), .int .i64 (cb l k)] 83) _ hBs).trans HBk.out)
      have Hor := Lib.hid hor
      have Hbel := Lib.hid hbel
      clear hor hbel hcc
      go_wp2_with (with_reducible refine wpList_load_row rfl 133 (.tmp 9) rfl B ?y1 133 _ (0, 0) _ HB2.out Try.underlying133 rfl ?y3 ?_)
      case y1 => rfl
      case y3 => rw [info133, KA_size]
      go_wp2_with fail
      refine (before_int F (play F (l.take k)) _ _ _ hgc.1 hgc.2.1 (by omega)).mono ?_
      rintro e w3 ⟨rfl, hb3⟩
      have Hb3 := Lib.hid hb3
      clear hb3
      go_wp2_with fail
      refine (learnNothing_any _ _ _ _ _).mono ?_
      rintro e wz ⟨rfl, hb4⟩
      have hball : Below (wr.alloc (.cells #[.int .i64 (ca l k), .int .i64 (cb l k)] 83)).heap.size (wr.alloc (.cells #[.int .i64 (ca l k), .int .i64 (cb l k)] 83)) wz := Hb3.out.trans (hb4.mono Hb3.out.size)
      have z0 : wz.cell? ⟨wr.heap.size, 0, none⟩ = some (.int .i64 (ca l k)) := cell_below2 hball (by rw [cell_of_row _ _ _ _ _ _ (heap_alloc_new wr _)]; rfl)
      have z1 : wz.cell? ⟨wr.heap.size, 1, none⟩ = some (.int .i64 (cb l k)) := cell_below2 hball (by rw [cell_of_row _ _ _ _ _ _ (heap_alloc_new wr _)]; rfl)
      have hBz0 : wz.heap[B]? = some (.cells (KA F (play F (l.take k))) 133 (0, 0)) := (hball.block _ (by simp; omega)).trans HB2.out
      have HBz := Lib.hid hBz0
      have hBz : B < wz.heap.size := (Array.getElem?_eq_some_iff.1 hBz0).1
      have hbz : Below w.heap.size w wz := (Hbel.out.alloc hsz _).trans (hball.mono (by simp; omega))
      have Hz0 := Lib.hid (own_later (Hor.out.alloc (.cells #[.int .i64 (ca l k), .int .i64 (cb l k)] 83)) hball)
      have hwz : wr.heap.size < wz.heap.size := by have := hball.size; simp at this; omega
      clear hball hb4 hBz0 h0 h1
      cases ht : (pIdle) (play F (l.take k)) (ca l k, cb l k)
      · have hz2 := Hz0.out
        rw [← tl_no (pIdle) F l k ht] at hz2
        have Hz := Lib.hid hz2
        have htest := ht
        simp only [pIdle] at htest
        clear hz2 ht
        go_wp2_with (with_reducible refine wpList_load_row rfl 133 (.tmp 9) rfl B ?q1 133 _ (0, 0) _ HBz.out Try.underlying133 rfl ?q3 ?_)
        case q1 => rfl
        case q3 => rw [info133, KA_size]
        go_wp2_with fail
        refine (behind_st F (play F (l.take k)) _ _ wz (play_small F (by omega) _) hgc.1 hgc.2.1 (by omega)).mono ?_
        rintro e w6 ⟨rfl, hb6⟩
        have hB6 : w6.heap[B]? = some (.cells (KA F (play F (l.take k))) 133 (0, 0)) := (hb6.block _ hBz).trans HBz.out
        have HB6 := Lib.hid hB6
        have Ho6 := Lib.hid (own_later Hz.out hb6)
        have hbel6 : Below w.heap.size w w6 := hbz.trans (hb6.mono hbz.size)
        have Hb6 := Lib.hid hbel6
        clear hB6 hb6 hbel6 z0 z1
        go_wp2_with (with_reducible refine wpList_store_row rfl 133 (.tmp 9) (.tmp 36) rfl B (KA F (stp (play F (l.take k)) (ca l k, cb l k))) ?s1 ?s2 133 _ HB6.out ?s3 ?s4 ?s5 ?_)
        case s1 => rfl
        case s2 => rfl
        case s3 => rw [info133, KA_size]
        case s4 => rw [KA_size, KA_size]
        case s5 => exact KA_one _ _
        go_roundw
        case rel =>
          refine ⟨k + 1, by omega, by go_num, own_setRow Ho6.out (by omega), ?_, below_setRow Hb6.out (by omega) _⟩
          rw [play_succ F l k (by rw [← Hn.out]; exact hlt)]
          exact setRow_heap _ _ _ _ _ _ HB6.out
        case measure => simp [intOf]; omega
      · have Hyes := Lib.hid (tl_yes (pIdle) F l k ht)
        have htest := ht
        simp only [pIdle] at htest
        have hszz := hbz.size
        clear ht
        go_wp2_with (at_builtin; refine wpList_append_own _ rfl _ _ 61 rfl (B + 1) 3 i0 (.int .i64 0) 1 8 Try.underlying61 hi hz0 hz1 hz2 rfl (by decide) _ _ _ rfl (Hz0.out.alloc _) ⟨wz.heap.size, 0, none⟩ 1 1 [.int .i64 k] rfl rfl ?c1 ?c2 ?c3 ?c4 ?c5 ?_)
        case c1 => exact World.news_of_block (cs := #[.int .i64 k]) (t := 3) (fr := (0, 0)) (heap_alloc_new _ _)
        case c2 => intro u hu; simp at hu; subst hu; rfl
        case c3 => unfold maxLen; omega
        case c4 => omega
        case c5 => simp; omega
        intro v' wy hown' hgr _
        have hz3 := hown'
        rw [← ns_append_one, ← Hyes.out, tl_len1 Hyes.out] at hz3
        have hBy0 : wy.heap[B]? = some (.cells (KA F (play F (l.take k))) 133 (0, 0)) := by
          rw [hgr.block B (by simp; omega) (fun h => by have := (Hor.out.lt _ h.symm).1; omega), Below.heap_alloc _ _ _ hBz]
          exact HBz.out
        have hblk : wy.heap[wr.heap.size]? = wz.heap[wr.heap.size]? := (hgr.block wr.heap.size (by simp; omega) (fun h => by have := (Hor.out.lt _ h.symm).2; omega)).trans (Below.heap_alloc _ _ _ hwz)
        have y0 : wy.cell? ⟨wr.heap.size, 0, none⟩ = some (.int .i64 (ca l k)) := (World.cell?_of_block (w := wz) (a := ⟨wr.heap.size, 0, none⟩) hblk).trans z0
        have y1 : wy.cell? ⟨wr.heap.size, 1, none⟩ = some (.int .i64 (cb l k)) := (World.cell?_of_block (w := wz) (a := ⟨wr.heap.size, 1, none⟩) hblk).trans z1
        have hby : Below w.heap.size w wy := (hbz.alloc hszz _).grown hgr (by simp; omega) (fun b hb => by have := (Hor.out.lt b hb).1; omega)
        have HBy := Lib.hid hBy0
        have Hy := Lib.hid hz3
        have hBy : B < wy.heap.size := (Array.getElem?_eq_some_iff.1 hBy0).1
        clear z0 z1 hBy0 hblk hz3 hown' hgr hbz hBz
        go_wp2_with (with_reducible refine wpList_load_row rfl 133 (.tmp 9) rfl B ?qq1 133 _ (0, 0) _ HBy.out Try.underlying133 rfl ?qq3 ?_)
        case qq1 => rfl
        case qq3 => rw [info133, KA_size]
        go_wp2_with fail
        refine (behind_st F (play F (l.take k)) _ _ wy (play_small F (by omega) _) hgc.1 hgc.2.1 (by omega)).mono ?_
        rintro e w6 ⟨rfl, hb6⟩
        have hB6 : w6.heap[B]? = some (.cells (KA F (play F (l.take k))) 133 (0, 0)) := (hb6.block _ hBy).trans HBy.out
        have HB6 := Lib.hid hB6
        have Ho6 := Lib.hid (own_later Hy.out hb6)
        have hbel6 : Below w.heap.size w w6 := hby.trans (hb6.mono hby.size)
        have Hb6 := Lib.hid hbel6
        clear hB6 hb6 hbel6 y0 y1
        go_wp2_with (with_reducible refine wpList_store_row rfl 133 (.tmp 9) (.tmp 36) rfl B (KA F (stp (play F (l.take k)) (ca l k, cb l k))) ?ss1 ?ss2 133 _ HB6.out ?ss3 ?ss4 ?ss5 ?_)
        case ss1 => rfl
        case ss2 => rfl
        case ss3 => rw [info133, KA_size]
        case ss4 => rw [KA_size, KA_size]
        case ss5 => exact KA_one _ _
        go_roundw
        case rel =>
          refine ⟨k + 1, by omega, by go_num, own_setRow Ho6.out (by omega), ?_, below_setRow Hb6.out (by omega) _⟩
          rw [play_succ F l k (by rw [← Hn.out]; exact hlt)]
          exact setRow_heap _ _ _ _ _ _ HB6.out
        case measure => simp [intOf]; omega
    · obtain rfl : k = n := by omega
      have Hor := Lib.hid hor
      clear hor hlt hk
      go_wp2_with fail
      go_ret2
      exact ⟨_, rfl, own_lower Hor.out (by omega), hbel⟩

set_option maxRecDepth 20000 in
theorem thatOf (w : World) (F : Nat) (ao : Option Addr) (cap : Nat) (l : List (Int × Int)) (n : Nat) (Hn : Hid (n = l.length)) (hs : n ≤ 60) (g : Nat) (z : Int) (Hgz : Hid (w.cell? ⟨g, 0, none⟩ = some (.int .i64 z))) (HHc : Hid (CallsAt w ao l)) (Hg : Hid (gdB (F : Int) l = true)) (hff : 1 ≤ (F : Int) ∧ (F : Int) ≤ 10) :
    Calls Try.prog 142 #[.int .i64 F, .slice ao n cap, .func (Fn.func 145) #[] #[.pointer (some ⟨g, 0, none⟩)]] w fun e w' => ∃ v, e = .returned (.tuple #[v, .bool true]) ∧ w'.ownsRow w.heap.size 3 1 v (tl (pOf z) F l n).length (ns (tl (pOf z) F l n)) ∧ Below w.heap.size w w' := by
  obtain ⟨i0, hi, hz0, hz1, hz2⟩ := info_parts info3
  go_enter Try.func142, Try.ntmps142
  go_wp2_with fail
  refine (areCalls_any F ao cap l n w Hn.out (by omega) HHc.out).mono ?_
  rintro e w1 ⟨rfl, hb1⟩
  rw [Hg.out]
  go_wp2_with fail
  refine (ownNews_any F w1 (by omega)).mono ?_
  rintro e w2 ⟨rfl, hb2⟩
  have hb3 : Below w.heap.size w w2 := hb1.trans (hb2.mono hb1.size)
  have hs3 := hb3.size
  have HB3 := Lib.hid hb3
  clear hb2 hb3
  go_wp2_with (with_reducible refine wpList_store_row rfl 133 (.tmp 9) (.tmp 17) rfl w2.heap.size (KA F (own0 F)) ?r1 ?r2 133 _ (heap_alloc_new w2 _) ?r3 ?r4 ?r5 ?_)
  case r1 => rfl
  case r2 => rfl
  case r3 => rw [info133, KA_size]
  case r4 => rw [KA_size]; rfl
  case r5 => exact KA_one _ _
  have hB0 : ((w2.alloc (.cells ZA 133)).setRow w2.heap.size (KA F (own0 F))).heap[w2.heap.size]? = some (.cells (KA F (own0 F)) 133 (0, 0)) := setRow_heap _ _ _ _ _ _ (heap_alloc_new w2 _)
  have hb0 : Below w.heap.size w ((w2.alloc (.cells ZA 133)).setRow w2.heap.size (KA F (own0 F))) := below_setRow (HB3.out.alloc hs3 _) hs3 _
  obtain ⟨B, HBdef⟩ : ∃ B, Hid (B = w2.heap.size) := ⟨_, rfl⟩
  rw [← HBdef.out] at hB0 hb0 hs3 ⊢
  have HB0 := Lib.hid hB0
  have HH0 := Lib.hid hb0
  clear hB0 hb0
  go_loopw [8, 20] (fun v i wr => ∃ k : Nat, k ≤ n ∧ i = .int .i64 k ∧ wr.ownsRow (B + 1) 3 1 v (tl (pOf z) F l k).length (ns (tl (pOf z) F l k)) ∧ wr.heap[B]? = some (.cells (KA F (play F (l.take k))) 133 (0, 0)) ∧ Below w.heap.size w wr) (fun _ i _ => n - (intOf i).toNat)
  case atStart => exact ⟨0, Nat.zero_le _, rfl, World.ownsRow_nil _ _ _ _, HB0.out, HH0.out⟩
  case round =>
    obtain ⟨k, hk, rfl, hor, hB, hbel⟩ := hrel
    have HBk := Lib.hid hB
    have hBs : B < wr.heap.size := (Array.getElem?_eq_some_iff.1 hB).1
    clear hB
    by_cases hlt : k < n
    · have hgc := gd_call Hg.out (by rw [← Hn.out]; exact hlt)
      obtain ⟨b, off, Hao, hcc⟩ : ∃ b off, Hid (ao = some ⟨b, off, none⟩) ∧ (w.cell? ⟨b, off + k * 2, none⟩ = some (.int .i64 (ca l k)) ∧ w.cell? ⟨b, off + k * 2 + 1, none⟩ = some (.int .i64 (cb l k))) := by
        rcases HHc.out with h | ⟨b, off, h, hc⟩
        · subst h; exact absurd Hn.out (by simp; omega)
        · exact ⟨b, off, h, hc k (by rw [← Hn.out]; exact hlt)⟩
      have h0 := cell_old hbel hcc.1
      have h1 := cell_old hbel hcc.2
      have hle := tl_le (pOf z) F l k
      have hsz := hbel.size
      rw [Hao.out]
      have HB2 := Lib.hid ((Below.heap_alloc wr (.cells #[.int .i64 (ca l k), .int .i64 (cb l k)] 83) _ hBs).trans HBk.out)
      have Hor := Lib.hid hor
      have Hbel := Lib.hid hbel
      clear hor hbel hcc
      go_wp2_with (with_reducible refine wpList_load_row rfl 133 (.tmp 9) rfl B ?y1 133 _ (0, 0) _ HB2.out Try.underlying133 rfl ?y3 ?_)
      case y1 => rfl
      case y3 => rw [info133, KA_size]
      go_wp2_with fail
      refine (before_int F (play F (l.take k)) _ _ _ hgc.1 hgc.2.1 (by omega)).mono ?_
      rintro e w3 ⟨rfl, hb3⟩
      have Hb3 := Lib.hid hb3
      clear hb3
      go_wp2_with fail
      refine (ofFunc_any _ _ z _ _ g _ (cell_old Hb3.out (cell_old ((Below.refl _ _).alloc (Nat.le_refl _) _) (cell_old Hbel.out Hgz.out)))).mono ?_
      rintro e wz ⟨rfl, hb4⟩
      have hball : Below (wr.alloc (.cells #[.int .i64 (ca l k), .int .i64 (cb l k)] 83)).heap.size (wr.alloc (.cells #[.int .i64 (ca l k), .int .i64 (cb l k)] 83)) wz := Hb3.out.trans (hb4.mono Hb3.out.size)
      have z0 : wz.cell? ⟨wr.heap.size, 0, none⟩ = some (.int .i64 (ca l k)) := cell_below2 hball (by rw [cell_of_row _ _ _ _ _ _ (heap_alloc_new wr _)]; rfl)
      have z1 : wz.cell? ⟨wr.heap.size, 1, none⟩ = some (.int .i64 (cb l k)) := cell_below2 hball (by rw [cell_of_row _ _ _ _ _ _ (heap_alloc_new wr _)]; rfl)
      have hBz0 : wz.heap[B]? = some (.cells (KA F (play F (l.take k))) 133 (0, 0)) := (hball.block _ (by simp; omega)).trans HB2.out
      have HBz := Lib.hid hBz0
      have hBz : B < wz.heap.size := (Array.getElem?_eq_some_iff.1 hBz0).1
      have hbz : Below w.heap.size w wz := (Hbel.out.alloc hsz _).trans (hball.mono (by simp; omega))
      have Hz0 := Lib.hid (own_later (Hor.out.alloc (.cells #[.int .i64 (ca l k), .int .i64 (cb l k)] 83)) hball)
      have hwz : wr.heap.size < wz.heap.size := by have := hball.size; simp at this; omega
      clear hball hb4 hBz0 h0 h1
      cases ht : (pOf z) (play F (l.take k)) (ca l k, cb l k)
      · have hz2 := Hz0.out
        rw [← tl_no (pOf z) F l k ht] at hz2
        have Hz := Lib.hid hz2
        have htest := ht
        simp only [pOf] at htest
        clear hz2 ht
        go_wp2_with (with_reducible refine wpList_load_row rfl 133 (.tmp 9) rfl B ?q1 133 _ (0, 0) _ HBz.out Try.underlying133 rfl ?q3 ?_)
        case q1 => rfl
        case q3 => rw [info133, KA_size]
        go_wp2_with fail
        refine (behind_st F (play F (l.take k)) _ _ wz (play_small F (by omega) _) hgc.1 hgc.2.1 (by omega)).mono ?_
        rintro e w6 ⟨rfl, hb6⟩
        have hB6 : w6.heap[B]? = some (.cells (KA F (play F (l.take k))) 133 (0, 0)) := (hb6.block _ hBz).trans HBz.out
        have HB6 := Lib.hid hB6
        have Ho6 := Lib.hid (own_later Hz.out hb6)
        have hbel6 : Below w.heap.size w w6 := hbz.trans (hb6.mono hbz.size)
        have Hb6 := Lib.hid hbel6
        clear hB6 hb6 hbel6 z0 z1
        go_wp2_with (with_reducible refine wpList_store_row rfl 133 (.tmp 9) (.tmp 36) rfl B (KA F (stp (play F (l.take k)) (ca l k, cb l k))) ?s1 ?s2 133 _ HB6.out ?s3 ?s4 ?s5 ?_)
        case s1 => rfl
        case s2 => rfl
        case s3 => rw [info133, KA_size]
        case s4 => rw [KA_size, KA_size]
        case s5 => exact KA_one _ _
        go_roundw
        case rel =>
          refine ⟨k + 1, by omega, by go_num, own_setRow Ho6.out (by omega), ?_, below_setRow Hb6.out (by omega) _⟩
          rw [play_succ F l k (by rw [← Hn.out]; exact hlt)]
          exact setRow_heap _ _ _ _ _ _ HB6.out
        case measure => simp [intOf]; omega
      · have Hyes := Lib.hid (tl_yes (pOf z) F l k ht)
        have htest := ht
        simp only [pOf] at htest
        have hszz := hbz.size
        clear ht
        go_wp2_with (at_builtin; refine wpList_append_own _ rfl _ _ 61 rfl (B + 1) 3 i0 (.int .i64 0) 1 8 Try.underlying61 hi hz0 hz1 hz2 rfl (by decide) _ _ _ rfl (Hz0.out.alloc _) ⟨wz.heap.size, 0, none⟩ 1 1 [.int .i64 k] rfl rfl ?c1 ?c2 ?c3 ?c4 ?c5 ?_)
        case c1 => exact World.news_of_block (cs := #[.int .i64 k]) (t := 3) (fr := (0, 0)) (heap_alloc_new _ _)
        case c2 => intro u hu; simp at hu; subst hu; rfl
        case c3 => unfold maxLen; omega
        case c4 => omega
        case c5 => simp; omega
        intro v' wy hown' hgr _
        have hz3 := hown'
        rw [← ns_append_one, ← Hyes.out, tl_len1 Hyes.out] at hz3
        have hBy0 : wy.heap[B]? = some (.cells (KA F (play F (l.take k))) 133 (0, 0)) := by
          rw [hgr.block B (by simp; omega) (fun h => by have := (Hor.out.lt _ h.symm).1; omega), Below.heap_alloc _ _ _ hBz]
          exact HBz.out
        have hblk : wy.heap[wr.heap.size]? = wz.heap[wr.heap.size]? := (hgr.block wr.heap.size (by simp; omega) (fun h => by have := (Hor.out.lt _ h.symm).2; omega)).trans (Below.heap_alloc _ _ _ hwz)
        have y0 : wy.cell? ⟨wr.heap.size, 0, none⟩ = some (.int .i64 (ca l k)) := (World.cell?_of_block (w := wz) (a := ⟨wr.heap.size, 0, none⟩) hblk).trans z0
        have y1 : wy.cell? ⟨wr.heap.size, 1, none⟩ = some (.int .i64 (cb l k)) := (World.cell?_of_block (w := wz) (a := ⟨wr.heap.size, 1, none⟩) hblk).trans z1
        have hby : Below w.heap.size w wy := (hbz.alloc hszz _).grown hgr (by simp; omega) (fun b hb => by have := (Hor.out.lt b hb).1; omega)
        have HBy := Lib.hid hBy0
        have Hy := Lib.hid hz3
        have hBy : B < wy.heap.size := (Array.getElem?_eq_some_iff.1 hBy0).1
        clear z0 z1 hBy0 hblk hz3 hown' hgr hbz hBz
        go_wp2_with (with_reducible refine wpList_load_row rfl 133 (.tmp 9) rfl B ?qq1 133 _ (0, 0) _ HBy.out Try.underlying133 rfl ?qq3 ?_)
        case qq1 => rfl
        case qq3 => rw [info133, KA_size]
        go_wp2_with fail
        refine (behind_st F (play F (l.take k)) _ _ wy (play_small F (by omega) _) hgc.1 hgc.2.1 (by omega)).mono ?_
        rintro e w6 ⟨rfl, hb6⟩
        have hB6 : w6.heap[B]? = some (.cells (KA F (play F (l.take k))) 133 (0, 0)) := (hb6.block _ hBy).trans HBy.out
        have HB6 := Lib.hid hB6
        have Ho6 := Lib.hid (own_later Hy.out hb6)
        have hbel6 : Below w.heap.size w w6 := hby.trans (hb6.mono hby.size)
        have Hb6 := Lib.hid hbel6
        clear hB6 hb6 hbel6 y0 y1
        go_wp2_with (with_reducible refine wpList_store_row rfl 133 (.tmp 9) (.tmp 36) rfl B (KA F (stp (play F (l.take k)) (ca l k, cb l k))) ?ss1 ?ss2 133 _ HB6.out ?ss3 ?ss4 ?ss5 ?_)
        case ss1 => rfl
        case ss2 => rfl
        case ss3 => rw [info133, KA_size]
        case ss4 => rw [KA_size, KA_size]
        case ss5 => exact KA_one _ _
        go_roundw
        case rel =>
          refine ⟨k + 1, by omega, by go_num, own_setRow Ho6.out (by omega), ?_, below_setRow Hb6.out (by omega) _⟩
          rw [play_succ F l k (by rw [← Hn.out]; exact hlt)]
          exact setRow_heap _ _ _ _ _ _ HB6.out
        case measure => simp [intOf]; omega
    · obtain rfl : k = n := by omega
      have Hor := Lib.hid hor
      clear hor hlt hk
      go_wp2_with fail
      go_ret2
      exact ⟨_, rfl, own_lower Hor.out (by omega), hbel⟩

end Go.Proofs.Ytmgmkgjefplfdaa
