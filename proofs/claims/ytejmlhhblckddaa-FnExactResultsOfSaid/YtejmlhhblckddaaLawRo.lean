/- The walk of the law FnExactResultsOf. -/
import Derived.Test.YtejmlhhblckddaaRo
import Derived.Test.YtejmlhhblckddaaMarkUp
namespace Go.Proofs.Ytejmlhhblckddaa
open Go.ChangeShapes Go.WideShapes Go.ChangeAt Go.RowKit
set_option linter.unusedVariables false

theorem rows_own {w : World} {base : Nat} {ao : Option Addr} {n cap : Nat} {X : List Value} {L : List (List Int)} (h : OwnSS w base (.slice ao n cap) X L) : RowsAt w ao L := by
  obtain ⟨a, c, hv, r⟩ := h.rows
  cases hv
  exact r

set_option maxRecDepth 20000 in
theorem walkRoS (W : World) (a0 : Int) (_w0 : (Lit.int .i64 a0).wf = true) (o1 : Option Addr) (n1 c1 : Nat) (l1 : List (List Int)) (q1n : n1 = l1.length) (q1m : n1 ≤ 9223372036854775807) (q1L : ∀ i, (row l1 i).length ≤ 9223372036854775807) (q1c : RowsAt W o1 l1) (o2 : Option Addr) (n2 c2 : Nat) (l2 : List Int) (q2n : n2 = l2.length) (q2m : n2 ≤ 9223372036854775807) (q2c : NumsAt W o2 l2) (hs2 : n2 ≤ 1048576) :
    Calls Try.prog 4 #[.int .i64 a0, .slice o1 n1 c1, .slice o2 n2 c2] W fun e w' => e = .returned (.bool true) ∧ Below W.heap.size W w' := by
  have Hn1 := Lib.hid q1n
  have Hc1 := Lib.hid q1c
  have HL1 := Lib.hid q1L
  clear q1n q1c q1L
  have Hn2 := Lib.hid q2n
  have Hc2 := Lib.hid q2c
  clear q2n q2c
  have hok : ((roB a0 l1 l2) != (roB a0 l1 l2)) = false := by simp
  go_enter Try.func4, Try.ntmps4
  go_wp2_with fail
  refine (szIntSS_any o1 c1 l1 n1 (1048576) W (by omega) (by omega) Hn1.out q1m HL1.out Hc1.out).mono ?_
  rintro e w' ⟨r1, rfl, rfl, hr1⟩
  by_cases hr1n : r1 < 0
  · have hd : decide (r1 < 0) = true := by simpa using hr1n
    clear hr1
    go_wp2_with fail
    go_ret
    exact ⟨rfl, Below.refl _ _⟩
  have hq1 := hr1 (by omega)
  have hd1 : decide (r1 < 0) = false := by simpa using hr1n
  have hs1 : n1 ≤ 1048576 := by omega
  have hct1 : ctot l1 l1.length ≤ 1048576 := by rw [← Hn1.out]; omega
  have HS1 : Hid (∀ i, (row l1 i).length ≤ 1048576) := fun i => Nat.le_trans (row_le_ctot l1 i) hct1
  have hr10 : 0 ≤ r1 := by omega
  clear hr1 hr1n
  have hr11 : r1 ≤ 1048576 := by omega
  go_wp2_with fail
  refine (toIntSS_any o1 c1 l1 n1 W Hn1 hs1 HS1 Hc1).mono ?_
  rintro e w1 ⟨capy1, Xy1, rfl, owny1, bel1⟩
  have s1 := bel1.size
  have b1 : Below W.heap.size W w1 := bel1
  have Oy1 := Lib.hid owny1
  clear owny1 bel1
  go_wp2_with fail
  refine (toIntS_any o2 c2 l2 n2 w1 Hn2 hs2 (Hc2.out.kept b1)).mono ?_
  rintro e w2 ⟨capy2, rfl, owny2, bel2⟩
  have s2 := bel2.size
  have b2 : Below W.heap.size W w2 := b1.trans (bel2.mono b1.size)
  have Oy1 := Lib.hid (Oy1.out.later bel2)
  have Oy2 := Lib.hid owny2
  clear owny2 bel2
  go_wp2_with fail
  refine (specRO_any w2 a0 _ capy1 l1 n1 Hn1 hs1 HS1 (rows_own Oy1.out) _ capy2 l2 n2 Hn2 hs2 (nums_at Oy2.out Hn2.out)).mono ?_
  rintro e w3 ⟨rfl, bel3⟩
  have s3 := bel3.size
  have b3 : Below W.heap.size W w3 := b2.trans (bel3.mono b2.size)
  have Oy1 := Lib.hid (Oy1.out.later bel3)
  have Oy2 := Lib.hid (own_later Oy2.out bel3)
  clear bel3
  clear Oy1 Oy2
  have hW2 := b3.size
  go_wp2_with fail
  refine (toIntSS_any o1 c1 l1 n1 w3 Hn1 hs1 HS1 (Hc1.out.kept b3)).mono ?_
  rintro e w4 ⟨capx1, Xx1, rfl, ownx1, bel4⟩
  have s4 := bel4.size
  have d4 : Below w3.heap.size w3 w4 := bel4
  have Ox1 := Lib.hid ownx1
  clear ownx1 bel4
  have OX1 := Ox1
  go_wp2_with fail
  refine (toIntS_any o2 c2 l2 n2 w4 Hn2 hs2 (Hc2.out.kept (b3.trans (d4.mono hW2)))).mono ?_
  rintro e w5 ⟨capx2, rfl, ownx2, bel5⟩
  have s5 := bel5.size
  have d5 : Below w3.heap.size w3 w5 := d4.trans (bel5.mono d4.size)
  have Ox1 := Lib.hid (Ox1.out.later bel5)
  have Ox2 := Lib.hid ownx2
  clear ownx2 bel5
  have OX2 := Ox2
  go_wp2_with fail
  refine (implRO_any w5 a0 _ capx1 l1 n1 Hn1 hs1 HS1 (rows_own Ox1.out) _ capx2 l2 n2 Hn2 hs2 (nums_at Ox2.out Hn2.out)).mono ?_
  rintro e w6 ⟨rfl, bel6⟩
  have s6 := bel6.size
  have d6 : Below w3.heap.size w3 w6 := d5.trans (bel6.mono d5.size)
  have Ox1 := Lib.hid (Ox1.out.later bel6)
  have Ox2 := Lib.hid (own_later Ox2.out bel6)
  clear bel6
  go_wp2_with fail
  refine (toIntSS_any o1 c1 l1 n1 w6 Hn1 hs1 HS1 (Hc1.out.kept (b3.trans (d6.mono hW2)))).mono ?_
  rintro e w7 ⟨capz1, Xz1, rfl, ownz1, bel7⟩
  have s7 := bel7.size
  have d7 : Below w3.heap.size w3 w7 := d6.trans (bel7.mono d6.size)
  have Ox1 := Lib.hid (Ox1.out.later bel7)
  have Ox2 := Lib.hid (own_later Ox2.out bel7)
  have Oz1 := Lib.hid ownz1
  clear ownz1 bel7
  go_wp2_with fail
  refine (eqIntSS_own _ _ Xx1 Xz1 l1 w7 (by rw [← Hn1.out]; exact hs1) (fun i _ => HS1.out i) Ox1.out Oz1.out).mono ?_
  rintro e w8 ⟨rfl, bel8⟩
  have s8 := bel8.size
  have d8 : Below w3.heap.size w3 w8 := d7.trans (bel8.mono d7.size)
  have Ox1 := Lib.hid (Ox1.out.later bel8)
  have Ox2 := Lib.hid (own_later Ox2.out bel8)
  clear bel8 Oz1
  go_wp2_with fail
  refine (toIntS_any o2 c2 l2 n2 w8 Hn2 hs2 (Hc2.out.kept (b3.trans (d8.mono hW2)))).mono ?_
  rintro e w9 ⟨capz2, rfl, ownz2, bel9⟩
  have s9 := bel9.size
  have d9 : Below w3.heap.size w3 w9 := d8.trans (bel9.mono d8.size)
  have Ox1 := Lib.hid (Ox1.out.later bel9)
  have Ox2 := Lib.hid (own_later Ox2.out bel9)
  have Oz2 := Lib.hid ownz2
  clear ownz2 bel9
  go_wp2_with fail
  refine (eqIntS_own _ _ l2 n2 n2 w9 Hn2.out Hn2.out (by omega) Ox2.out Oz2.out).mono ?_
  rintro e w10 ⟨rfl, bel10⟩
  have s10 := bel10.size
  have d10 : Below w3.heap.size w3 w10 := d9.trans (bel10.mono d9.size)
  have Ox1 := Lib.hid (Ox1.out.later bel10)
  have Ox2 := Lib.hid (own_later Ox2.out bel10)
  clear bel10 Oz2
  go_wp2_with fail
  go_ret
  exact ⟨rfl, (b3.trans (d10.mono hW2))⟩

set_option maxRecDepth 20000 in
theorem walkRo (W : World) (a0 : Int) (_w0 : (Lit.int .i64 a0).wf = true) (o1 : Option Addr) (n1 c1 : Nat) (l1 : List (List Int)) (q1n : n1 = l1.length) (q1m : n1 ≤ 9223372036854775807) (q1L : ∀ i, (row l1 i).length ≤ 9223372036854775807) (q1c : RowsAt W o1 l1) (o2 : Option Addr) (n2 c2 : Nat) (l2 : List Int) (q2n : n2 = l2.length) (q2m : n2 ≤ 9223372036854775807) (q2c : NumsAt W o2 l2) :
    Calls Try.prog 4 #[.int .i64 a0, .slice o1 n1 c1, .slice o2 n2 c2] W fun e w' => e = .returned (.bool true) ∧ Below W.heap.size W w' := by
  by_cases hs2 : n2 ≤ 1048576
  · exact walkRoS W a0 _w0 o1 n1 c1 l1 q1n q1m q1L q1c o2 n2 c2 l2 q2n q2m q2c hs2
  · have hbg : decide ((n2 : Int) > 1048576) = true := by simp; omega
    go_enter Try.func4, Try.ntmps4
    go_wp2_with fail
    go_ret
    exact ⟨rfl, Below.refl _ _⟩

end Go.Proofs.Ytejmlhhblckddaa
