/- The walk of the law FnExactRoundsText. -/
import Derived.Test.YtjldfdaaoeomdaaDoorRtI
namespace Go.Proofs.YtjldfdaaoeomdaaDoor
open Go.ChangeShapes Go.WideShapes Go.ChangeAt Go.RowKit
set_option linter.unusedVariables false


set_option maxRecDepth 20000 in
theorem walkRT (W : World) (o1 : Option Addr) (n1 c1 : Nat) (L : List (List (Int × Int))) (q1n : n1 = L.length) (q1m : n1 ≤ 9223372036854775807) (q1L : ∀ i, (crow L i).length ≤ 9223372036854775807) (q1c : RowsAt W o1 L) :
    Calls Tryd.prog 3 #[.slice o1 n1 c1] W fun e w' => e = .returned (.bool true) ∧ Below W.heap.size W w' := by
  have Hn := Lib.hid q1n
  have HL := Lib.hid q1L
  have Hc := Lib.hid q1c
  clear q1n q1L q1c
  have hok : (rndsB 10 L != rndsB 10 L) = false := by simp
  go_enter Tryd.func3, Tryd.ntmps3
  go_wp2_with fail
  refine (szCallSS_any o1 c1 L n1 W Hn.out q1m HL.out Hc.out).mono ?_
  rintro e w' ⟨r, rfl, rfl, hr⟩
  by_cases hr0 : r < 0
  · have hd : decide (r < 0) = true := by simpa using hr0
    clear hr
    go_wp2_with fail
    go_ret
    exact ⟨rfl, Below.refl _ _⟩
  · obtain ⟨hs1, hs2⟩ := hr (by omega)
    have HS := Lib.hid hs2
    have hd : decide (r < 0) = false := by simpa using hr0
    clear hr hr0 hs2
    go_wp2_with fail
    refine (toCallSS_any o1 c1 L n1 W Hn hs1 HS Hc).mono ?_
    rintro e w1 ⟨capy, Xy, rfl, owny, bel1⟩
    have b1 : Below W.heap.size W w1 := bel1
    obtain ⟨aoy, cy, hvy, ry⟩ := owny.rows
    have HRy : Hid (RowsAt w1 (some ⟨W.heap.size, 0, none⟩) L) := by cases hvy; exact ry
    clear owny bel1 hvy ry
    go_wp2_with fail
    refine (specRT_any w1 _ capy L n1 Hn q1m HL HRy).mono ?_
    rintro e w2 ⟨rfl, bel2⟩
    have b2 : Below W.heap.size W w2 := b1.trans (bel2.mono b1.size)
    clear bel2 b1
    go_wp2_with fail
    refine (toCallSS_any o1 c1 L n1 w2 Hn hs1 HS (Hc.out.kept b2)).mono ?_
    rintro e w3 ⟨capx, Xx, rfl, ownx, bel3⟩
    have b3 : Below W.heap.size W w3 := b2.trans (bel3.mono b2.size)
    obtain ⟨aox, cx, hvx, rx⟩ := ownx.rows
    have HRx : Hid (RowsAt w3 (some ⟨w2.heap.size, 0, none⟩) L) := by cases hvx; exact rx
    have Ox := Lib.hid ownx
    clear ownx bel3 hvx rx b2
    go_wp2_with fail
    refine (implRT_any w3 _ capx L n1 Hn q1m HL HRx).mono ?_
    rintro e w4 ⟨rfl, bel4⟩
    have b4 : Below W.heap.size W w4 := b3.trans (bel4.mono b3.size)
    have Ox4 := Lib.hid (Ox.out.later bel4)
    clear bel4 b3
    go_wp2_with fail
    refine (toCallSS_any o1 c1 L n1 w4 Hn hs1 HS (Hc.out.kept b4)).mono ?_
    rintro e w5 ⟨capz, Xz, rfl, ownz, bel5⟩
    have b5 : Below W.heap.size W w5 := b4.trans (bel5.mono b4.size)
    have Ox5 := Lib.hid (Ox4.out.later bel5)
    have Oz := Lib.hid ownz
    clear bel5 b4 ownz
    go_wp2_with fail
    refine (eqCallSS_own _ _ Xx Xz L w5 (by rw [← Hn.out]; exact hs1) (fun i _ => HS.out i) Ox5.out Oz.out).mono ?_
    rintro e w6 ⟨rfl, bel6⟩
    have b6 : Below W.heap.size W w6 := b5.trans (bel6.mono b5.size)
    clear bel6 b5
    go_wp2_with fail
    go_ret
    exact ⟨rfl, b6⟩

end Go.Proofs.YtjldfdaaoeomdaaDoor
