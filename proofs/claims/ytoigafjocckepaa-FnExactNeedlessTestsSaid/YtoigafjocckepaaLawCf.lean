/- The walk of the law FnExactCountFitting. -/
import Derived.Test.YtoigafjocckepaaCf
import Derived.Test.YtoigafjocckepaaMarkUp
import Derived.ChangeMaps5
namespace Go.Proofs.Ytoigafjocckepaa
open Go.ChangeShapes Go.WideShapes Go.ChangeAt Go.RowKit
set_option linter.unusedVariables false

theorem rows_own {w : World} {base : Nat} {ao : Option Addr} {n cap : Nat} {X : List Value} {L : List (List Int)} (h : OwnSS w base (.slice ao n cap) X L) : RowsAt w ao L := by
  obtain ⟨a, c, hv, r⟩ := h.rows
  cases hv
  exact r

set_option maxRecDepth 20000 in
theorem walkCfS (W : World) (a0 : Int) (_w0 : (Lit.int .i64 a0).wf = true) (o1 : Option Addr) (n1 c1 : Nat) (l1 : List (List Int)) (q1n : n1 = l1.length) (q1m : n1 ≤ 9223372036854775807) (q1L : ∀ i, (row l1 i).length ≤ 9223372036854775807) (q1c : RowsAt W o1 l1) (a2 : ByteArray) (_w2 : a2.size ≤ maxLen) (a3 : Int) (_w3 : (Lit.int .i64 a3).wf = true) (hs2 : a2.size ≤ 1048576) :
    Calls Try.prog 3 #[.int .i64 a0, .slice o1 n1 c1, .string a2, .int .i64 a3] W fun e w' => e = .returned (.bool true) ∧ Below W.heap.size W w' := by
  have Hn1 := Lib.hid q1n
  have Hc1 := Lib.hid q1c
  have HL1 := Lib.hid q1L
  clear q1n q1c q1L
  have hok : ((askB a0 l1 a2 a3) != (askB a0 l1 a2 a3)) = false := by simp
  have hre : ((cfR a0 l1 a2 a3) != (cfR a0 l1 a2 a3)) = false := by simp
  have hbg2 : decide ((a2.size : Int) > 1048576) = false := by simp; omega
  go_enter Try.func3, Try.ntmps3
  go_wp2_with fail
  refine (szIntSS_any o1 c1 l1 n1 (1048576) W (by omega) (by omega) Hn1.out q1m HL1.out Hc1.out).mono ?_
  rintro e w' ⟨r1, rfl, rfl, hr1⟩
  by_cases hr1n : r1 < 0
  · have hd : decide (r1 < 0) = true := by simpa using hr1n
    clear hr1
    go_wp2_with fail
    go_ret
    exact ⟨rfl, Below.refl _ _⟩
  have hq1 := hr1 (by omega)
  have hd1 : decide (r1 < 0) = false := by simpa using hr1n
  have hs1 : n1 ≤ 1048576 := by omega
  have hct1 : ctot l1 l1.length ≤ 1048576 := by rw [← Hn1.out]; omega
  have HS1 : Hid (∀ i, (row l1 i).length ≤ 1048576) := fun i => Nat.le_trans (row_le_ctot l1 i) hct1
  have hr10 : 0 ≤ r1 := by omega
  clear hr1 hr1n
  have hr11 : r1 ≤ 1048576 := by omega
  go_wp2_with fail
  refine (toIntSS_any o1 c1 l1 n1 W Hn1 hs1 HS1 Hc1).mono ?_
  rintro e w1 ⟨capy1, Xy1, rfl, owny1, bel1⟩
  have s1 := bel1.size
  have b1 : Below W.heap.size W w1 := bel1
  have Oy1 := Lib.hid owny1
  clear owny1 bel1
  go_wp2_with fail
  refine (specCF_any w1 a0 _ capy1 l1 n1 Hn1 hs1 HS1 (rows_own Oy1.out) a2 hs2 a3).mono ?_
  rintro e w2 ⟨rfl, bel2⟩
  have s2 := bel2.size
  have b2 : Below W.heap.size W w2 := b1.trans (bel2.mono b1.size)
  have Oy1 := Lib.hid (Oy1.out.later bel2)
  clear bel2
  clear Oy1
  have hW2 := b2.size
  go_wp2_with fail
  refine (toIntSS_any o1 c1 l1 n1 w2 Hn1 hs1 HS1 (Hc1.out.kept b2)).mono ?_
  rintro e w3 ⟨capx1, Xx1, rfl, ownx1, bel3⟩
  have s3 := bel3.size
  have d3 : Below w2.heap.size w2 w3 := bel3
  have Ox1 := Lib.hid ownx1
  clear ownx1 bel3
  have OX1 := Ox1
  go_wp2_with fail
  refine (implCF_any w3 a0 _ capx1 l1 n1 Hn1 hs1 HS1 (rows_own Ox1.out) a2 hs2 a3).mono ?_
  rintro e w4 ⟨rfl, bel4⟩
  have s4 := bel4.size
  have d4 : Below w2.heap.size w2 w4 := d3.trans (bel4.mono d3.size)
  have Ox1 := Lib.hid (Ox1.out.later bel4)
  clear bel4
  go_wp2_with fail
  refine (toIntSS_any o1 c1 l1 n1 w4 Hn1 hs1 HS1 (Hc1.out.kept (b2.trans (d4.mono hW2)))).mono ?_
  rintro e w5 ⟨capz1, Xz1, rfl, ownz1, bel5⟩
  have s5 := bel5.size
  have d5 : Below w2.heap.size w2 w5 := d4.trans (bel5.mono d4.size)
  have Ox1 := Lib.hid (Ox1.out.later bel5)
  have Oz1 := Lib.hid ownz1
  clear ownz1 bel5
  go_wp2_with fail
  refine (eqIntSS_own _ _ Xx1 Xz1 l1 w5 (by rw [← Hn1.out]; exact hs1) (fun i _ => HS1.out i) Ox1.out Oz1.out).mono ?_
  rintro e w6 ⟨rfl, bel6⟩
  have s6 := bel6.size
  have d6 : Below w2.heap.size w2 w6 := d5.trans (bel6.mono d5.size)
  have Ox1 := Lib.hid (Ox1.out.later bel6)
  clear bel6 Oz1
  go_wp2_with fail
  go_ret
  exact ⟨rfl, (b2.trans (d6.mono hW2))⟩

set_option maxRecDepth 20000 in
theorem walkCf (W : World) (a0 : Int) (_w0 : (Lit.int .i64 a0).wf = true) (o1 : Option Addr) (n1 c1 : Nat) (l1 : List (List Int)) (q1n : n1 = l1.length) (q1m : n1 ≤ 9223372036854775807) (q1L : ∀ i, (row l1 i).length ≤ 9223372036854775807) (q1c : RowsAt W o1 l1) (a2 : ByteArray) (_w2 : a2.size ≤ maxLen) (a3 : Int) (_w3 : (Lit.int .i64 a3).wf = true) :
    Calls Try.prog 3 #[.int .i64 a0, .slice o1 n1 c1, .string a2, .int .i64 a3] W fun e w' => e = .returned (.bool true) ∧ Below W.heap.size W w' := by
  by_cases hs2 : a2.size ≤ 1048576
  · exact walkCfS W a0 _w0 o1 n1 c1 l1 q1n q1m q1L q1c a2 _w2 a3 _w3 hs2
  · have hbg : decide ((a2.size : Int) > 1048576) = true := by simp; omega
    go_enter Try.func3, Try.ntmps3
    go_wp2_with fail
    go_ret
    exact ⟨rfl, Below.refl _ _⟩

end Go.Proofs.Ytoigafjocckepaa
