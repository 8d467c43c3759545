/- What calls a text is of: the model. -/
import Derived.Test.YtjldfdaaoeomdaaDoorSplit
namespace Go.Proofs.YtjldfdaaoeomdaaDoor
open Go.ChangeShapes Go.WideShapes Go.ChangeAt Go.RowKit
set_option linter.unusedVariables false


theorem own_weaken {w : World} {b b' : Nat} {e : TypeId} {size : Nat} {v : Value} {n : Nat} {xs : List Value} (h : w.ownsRow b e size v n xs) (hb : b' ≤ b) : w.ownsRow b' e size v n xs := by
  refine ⟨h.1, ?_⟩
  rcases h.2 with h2 | ⟨g, cap, cur, h1, h2, h3⟩
  · exact .inl h2
  · exact .inr ⟨g, cap, cur, h1, Nat.le_trans hb h2, h3⟩
def pB (l : List UInt8) : Bool := l.isEmpty || pOK l
def pR (l : List UInt8) : List (Int × Int) := if pOK l then (spF l).map cp else []
theorem pR_length (l : List UInt8) : (pR l).length ≤ 60 := by
  unfold pR
  cases h : pOK l
  · simp
  · rw [pOK] at h
    simp only [Bool.and_eq_true, decide_eq_true_eq] at h
    simpa using h.2
/-- A piece that is a call. -/
def okp (t : List UInt8) : Bool := t.length == 2 && calB 10 (cp t).1 (cp t).2

theorem row_some {w : World} {base e size n : Nat} {v : Value} {xs : List Value} (h : w.ownsRow base e size v n xs) (hn : 0 < n) : ∃ g cap, v = .slice (some ⟨g, 0, none⟩) n cap := by
  rcases h.2 with ⟨rfl, h0⟩ | ⟨g, cap, cur, rfl, _⟩
  · omega
  · exact ⟨g, cap, rfl⟩

theorem piece_size (t : List UInt8) : (⟨t.toArray⟩ : ByteArray).size = t.length := by simp [ByteArray.size]
theorem piece_get (t : List UInt8) (k : Nat) (h : k < (⟨t.toArray⟩ : ByteArray).size) : (⟨t.toArray⟩ : ByteArray)[k]'h = t.getD k 0 := by
  have h2 : k < t.length := by rw [← piece_size]; exact h
  rw [List.getD_eq_getElem?_getD, List.getElem?_eq_getElem h2]
  rfl
theorem wrapb (b : UInt8) : IntKind.i64.wrap (b.toNat : Int) = (b.toNat : Int) := IntWalk.i64_in _ (by have := b.toNat_lt; omega)
theorem wrap48 (b : UInt8) : IntKind.i64.wrap ((b.toNat : Int) - 48) = (b.toNat : Int) - 48 := IntWalk.i64_in _ (by have := b.toNat_lt; omega)

set_option maxRecDepth 20000 in
set_option maxHeartbeats 4000000 in
theorem caParse_loop (s : ByteArray) (l : List UInt8) (Hl : Hid (l = s.data.toList)) (n : Nat) (Hn : Hid (n = s.size)) (h0 : 0 < n) (hs : n ≤ 180) (w : World) :
    Calls Tryd.prog 41 #[.string s] w fun e w' => ∃ v, e = .returned (.tuple #[v, .bool (pOK l)]) ∧ w'.ownsRow w.heap.size 50 2 v (pR l).length (cs (pR l)) ∧ Below w.heap.size w w' := by
  obtain ⟨i0, hi, hz0, hz1, hz2q⟩ := info_parts info50
  have hsz9 : s.size = n := Hn.out.symm
  have hll : l.length = n := by rw [Hl.out, Hn.out]; simp
  have Hll := Lib.hid hll
  clear hll
  have hne : s.toList.isEmpty = false := by
    rw [ByteArray.toList_eq, ← Hl.out]
    have := Hll.out
    cases l with
    | nil => simp at this; omega
    | cons _ _ => rfl
  have hsI : (n : Int) ≤ 180 := by omega
  obtain ⟨q, hq⟩ : ∃ q, q = spF l := ⟨_, rfl⟩
  obtain ⟨m, hm⟩ : ∃ m, m = q.length := ⟨_, rfl⟩
  have hm1 : 0 < m := by rw [hm, hq]; exact List.length_pos_iff.2 (spF_ne l)
  have hm2 : m ≤ 181 := by have := spF_le l; rw [hm, hq]; have := Hll.out; omega
  have Hq := Lib.hid hq
  have Hm := Lib.hid hm
  have Hok : Hid (pOK l = (q.all okp && decide (m ≤ 60))) := by
    show pOK l = _
    rw [pOK, hm, hq, Hll.out, show decide (n ≤ 180) = true by simpa using hs, Bool.true_and]; rfl
  clear hq hm
  go_enter Tryd.func41, Tryd.ntmps41
  go_wp2_with fail
  refine (l1Split_any s l Hl n Hn hs w).mono ?_
  rintro e w1 ⟨v1, rfl, own1, hb1⟩
  rw [← Hq.out, ← Hm.out] at own1
  obtain ⟨g, cap1, rfl⟩ := row_some own1 hm1
  have hs1 := hb1.size
  have Hcell : Hid (∀ j, j < m → w1.cell? ⟨g, 0 + j, none⟩ = some (.string ⟨(q.getD j []).toArray⟩)) := fun j hj => by
    rw [Nat.zero_add, own1.cellAt j (by omega)]
    have hjq : j < q.length := by rw [← Hm.out]; exact hj
    simp [sv, List.getD_eq_getElem?_getD, hjq]
  have hg1 := (own1.lt g rfl).2
  clear own1
  go_wp2_with fail
  go_loopw [4, 17] (fun v i wr => ∃ k : Nat, k ≤ m ∧ i = .int .i64 k ∧ Hid ((q.take k).all okp = true) ∧ wr.ownsRow w1.heap.size 50 2 v k (cs ((q.take k).map cp)) ∧ Below w1.heap.size w1 wr) (fun _ i _ => m - (intOf i).toNat)
  case atStart => exact ⟨0, Nat.zero_le _, rfl, rfl, World.ownsRow_nil _ _ _ _, Below.refl _ _⟩
  case round =>
    obtain ⟨k, hk, rfl, hall, hor, hbel⟩ := hrel
    have hsz := hbel.size
    have Hor := Lib.hid hor
    clear hor
    by_cases hlt : k < m
    · have hz := (hbel.cell (p := ⟨g, 0 + k, none⟩) hg1).trans (Hcell.out k hlt)
      obtain ⟨t, ht⟩ : ∃ t, t = q.getD k [] := ⟨_, rfl⟩
      rw [← ht] at hz
      rw [Nat.zero_add] at hz
      have htk : Hid (q.take (k + 1) = q.take k ++ [t]) := by
        show q.take (k + 1) = q.take k ++ [t]
        have hjq : k < q.length := by rw [← Hm.out]; exact hlt
        rw [List.take_succ_eq_append_getElem hjq, ht]
        simp [List.getD_eq_getElem?_getD, hjq]
      have Htq : Hid (t ∈ q) := by
        show t ∈ q
        have hjq : k < q.length := by rw [← Hm.out]; exact hlt
        rw [ht]
        simp [List.getD_eq_getElem?_getD, hjq]
      obtain ⟨sk, hsk⟩ : ∃ sk : ByteArray, sk = ⟨t.toArray⟩ := ⟨_, rfl⟩
      rw [← hsk] at hz
      have hskz : sk.size = t.length := by rw [hsk, piece_size]
      have Hno : Hid (okp t = false → pOK l = false) := fun h => by
        rw [Hok.out]
        have : q.all okp = false := by
          rw [Bool.eq_false_iff]
          intro e
          rw [List.all_eq_true] at e
          have := e t Htq.out
          rw [h] at this
          cases this
        rw [this]; rfl
      have b0 : (0 : Int) ≤ (k : Int) := by omega
      have b1 : (k : Int) < (m : Int) := by omega
      have bt : (t.length : Int) ≤ 9223372036854775807 ∨ True := .inr trivial
      clear ht
      by_cases h2 : t.length = 2
      · have hz2 : sk.size = 2 := by omega
        have c0 : 0 < sk.size := by omega
        have c1 : 1 < sk.size := by omega
        obtain ⟨x0, hx0⟩ : ∃ x0 : Int, x0 = ((t.getD 0 0).toNat : Int) := ⟨_, rfl⟩
        obtain ⟨x1, hx1⟩ : ∃ x1 : Int, x1 = ((t.getD 1 0).toNat : Int) := ⟨_, rfl⟩
        have hix0 : ∀ W : World, (Instr.index 9 (.string sk) (.int .i64 0)).run Tryd.prog W = .ok (.int .u8 x0) W := fun W => by
          rw [run_index_string W 9 sk .i64 0 Tryd.underlying9, dif_pos (by omega), hx0]
          subst hsk
          rw [← piece_get t 0 c0]
          rfl
        have hix1 : ∀ W : World, (Instr.index 9 (.string sk) (.int .i64 1)).run Tryd.prog W = .ok (.int .u8 x1) W := fun W => by
          rw [run_index_string W 9 sk .i64 1 Tryd.underlying9, dif_pos (by omega), hx1]
          subst hsk
          rw [← piece_get t 1 c1]
          rfl
        have v0 : IntKind.i64.wrap x0 = x0 := by rw [hx0]; exact wrapb _
        have v1' : IntKind.i64.wrap x1 = x1 := by rw [hx1]; exact wrapb _
        have w0 : IntKind.i64.wrap (x0 - 48) = (cp t).1 := by rw [hx0, wrap48]; rfl
        have w1' : IntKind.i64.wrap (x1 - 48) = (cp t).2 := by rw [hx1, wrap48]; rfl
        obtain ⟨a, ha⟩ : ∃ a, a = (cp t).1 := ⟨_, rfl⟩
        obtain ⟨b, hb⟩ : ∃ b, b = (cp t).2 := ⟨_, rfl⟩
        rw [← ha] at w0
        rw [← hb] at w1'
        have Hcp : Hid (cp t = (a, b)) := by show cp t = (a, b); rw [ha, hb]
        have Hokp : Hid (okp t = calB 10 a b) := by show okp t = calB 10 a b; rw [okp, h2, ha, hb]; rfl
        clear ha hb hsk hskz h2 hx0 hx1 c0 c1
        have HB0 : Hid (∀ o, Below w1.heap.size w1 (wr.alloc o).drew) := fun o => (hbel.alloc hsz _).drew
        go_wp2_with fail
        go_region_held3 (fun w' => Below w1.heap.size w1 w')
          (first | exact hbel.drew | exact hbel | exact (HB0.out _) | assumption | go_keep)
          (first | fail)
        all_goals
          have hnew := heap_alloc_new wr (.cells #[.int .i64 a, .int .i64 b] 50)
          have y0 : (wr.alloc (.cells #[.int .i64 a, .int .i64 b] 50)).drew.cell? ⟨wr.heap.size, 0, none⟩ = some (.int .i64 a) := cell_of_row _ wr.heap.size 0 _ _ _ hnew
          have y1 : (wr.alloc (.cells #[.int .i64 a, .int .i64 b] 50)).drew.cell? ⟨wr.heap.size, 1, none⟩ = some (.int .i64 b) := cell_of_row _ wr.heap.size 1 _ _ _ hnew
          have HBq := HB0.out (.cells #[.int .i64 a, .int .i64 b] 50)
          have Horq := Lib.hid ((Hor.out.alloc (.cells #[.int .i64 a, .int .i64 b] 50)).drew)
          clear hnew
          go_wp2_with fail
          generalize hwq : (wr.alloc (.cells #[.int .i64 a, .int .i64 b] 50)).drew = wq at *
          have hblk : wr.heap.size < wq.heap.size := World.block_lt_of_cell? wq _ y0
          clear hwq
          refine (caCall_any 10 a b wq (by omega) (by omega)).mono ?_
          rintro e w5 ⟨rfl, hb5⟩
          have z0 := (hb5.cell (p := ⟨wr.heap.size, 0, none⟩) hblk).trans y0
          have z1 := (hb5.cell (p := ⟨wr.heap.size, 1, none⟩) hblk).trans y1
          have hbel5 : Below w1.heap.size w1 w5 := HBq.trans (hb5.mono HBq.size)
          have Hor5 := Lib.hid (own_later Horq.out hb5)
          have hsz5 := hbel5.size
          cases hcal : calB 10 a b
          · have hno := Hno.out (by rw [Hokp.out, hcal])
            have hR : pR l = [] := by rw [pR, hno]; rfl
            have Hnil := Lib.hid (World.ownsRow_nil w5 w.heap.size 50 2)
            have Hno2 := Lib.hid hno
            have HR := Lib.hid hR
            clear hno hR hb5 HBq y0 y1 z0 z1
            go_wp2_with fail
            go_ret2
            rw [Hno2.out, HR.out]
            exact ⟨_, rfl, Hnil.out, hb1.trans (hbel5.mono hs1)⟩
          · have hall2 : Hid ((q.take (k + 1)).all okp = true) := by
              show (q.take (k + 1)).all okp = true
              rw [htk.out, List.all_append, hall.out, Bool.true_and]
              simp [Hokp.out, hcal]
            have hcs : Hid (cs ((q.take (k + 1)).map cp) = cs ((q.take k).map cp) ++ [.int .i64 a, .int .i64 b]) := by
              show cs ((q.take (k + 1)).map cp) = _
              rw [htk.out, List.map_append, cs_append, List.map_cons, List.map_nil, Hcp.out]; rfl
            clear hb5 HBq y0 y1
            go_wp2_with (at_builtin; refine wpList_append_own _ rfl _ _ 38 rfl w1.heap.size 50 i0 (.agg #[.int .i64 0, .int .i64 0]) 2 16 Tryd.underlying38 hi hz0 hz1 hz2q rfl (by decide) _ _ _ rfl (Hor5.out.alloc _) ⟨w5.heap.size, 0, none⟩ 1 1 [.int .i64 a, .int .i64 b] rfl rfl ?c1 ?c2 ?c3 ?c4 ?c5 ?_)
            case c1 => exact World.news_of_block (cs := #[.int .i64 a, .int .i64 b]) (t := 50) (fr := (0, 0)) (heap_alloc_new _ _)
            case c2 => intro u hu; simp at hu; rcases hu with rfl | rfl <;> rfl
            case c3 => unfold maxLen; omega
            case c4 => omega
            case c5 => simp; omega
            intro v' w2 hown' hgr _
            have Hown := Lib.hid hown'
            have Hbel := Lib.hid ((hbel5.alloc hsz5 _).grown hgr (by simp; omega) (fun b hb => (Hor5.out.lt b hb).1))
            clear hown' hgr hbel5 z0 z1
            go_wp2_with fail
            go_roundw
            case rel => exact ⟨k + 1, by omega, by go_num, hall2, by rw [hcs.out, List.map_take]; exact Hown.out, Hbel.out⟩
            case measure => simp [intOf]; omega
      · have hno := Hno.out (by simp [okp, h2])
        have hR : pR l = [] := by rw [pR, hno]; rfl
        have Hnil := Lib.hid (World.ownsRow_nil wr w.heap.size 50 2)
        have Hno2 := Lib.hid hno
        have HR := Lib.hid hR
        have hz3 : ((sk.size : Int) != 2) = true := by rw [bne_iff_ne]; omega
        clear hno hR
        go_wp2_with fail
        go_ret2
        rw [Hno2.out, HR.out]
        exact ⟨_, rfl, Hnil.out, hb1.trans (hbel.mono hs1)⟩
    · obtain rfl : k = m := by omega
      have e : q.take k = q := List.take_of_length_le (by rw [Hm.out]; exact Nat.le_refl _)
      rw [e] at hall Hor
      obtain ⟨go1, co1, rfl, _⟩ := own_shape Hor.out (by rw [List.length_map, ← Hm.out])
      by_cases h60 : k ≤ 60
      · have hok : pOK l = true := by rw [Hok.out, hall.out]; simpa using h60
        have hR : pR l = q.map cp := by rw [pR, hok, Hq.out]; rfl
        have hlen : (q.map cp).length = k := by rw [List.length_map, ← Hm.out]
        have Hx := Lib.hid (own_weaken Hor.out hs1)
        have hkI : (k : Int) ≤ 60 := by omega
        have Hok2 := Lib.hid hok
        have HR := Lib.hid hR
        have Hlen := Lib.hid hlen
        clear hok hR hlen e hlt hk
        go_wp2_with fail
        go_ret2
        rw [Hok2.out, HR.out, Hlen.out]
        exact ⟨_, rfl, Hx.out, hb1.trans (hbel.mono hs1)⟩
      · have hok : pOK l = false := by rw [Hok.out, show decide (k ≤ 60) = false by simpa using h60, Bool.and_false]
        have hR : pR l = [] := by rw [pR, hok]; rfl
        have Hnil := Lib.hid (World.ownsRow_nil wr w.heap.size 50 2)
        have hkI : (60 : Int) < (k : Int) := by omega
        have Hok2 := Lib.hid hok
        have HR := Lib.hid hR
        clear hok hR e hlt hk
        go_wp2_with fail
        go_ret2
        rw [Hok2.out, HR.out]
        exact ⟨_, rfl, Hnil.out, hb1.trans (hbel.mono hs1)⟩


end Go.Proofs.YtjldfdaaoeomdaaDoor
