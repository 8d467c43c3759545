/- The walk of the law FnExactAreLetters: it answers true and turns nothing that was there. -/
import Derived.Test.YtolkfgjgnpjpkaaGood
namespace Go.Proofs.Ytolkfgjgnpjpkaa
open Go.ChangeShapes Go.WideShapes Go.ChangeAt Go.RowKit

theorem walkAre (W : World) (a0 : Int) (_w0 : (Lit.int .i64 a0).wf = true) (o1 : Option Addr) (n1 c1 : Nat) (l1 : List (Int × Int)) (q1n : n1 = l1.length) (q1m : n1 ≤ 9223372036854775807) (q1c : CallsAt W o1 l1) :
    Calls Try.prog 3 #[.int .i64 a0, .slice o1 n1 c1] W fun e w' => e = .returned (.bool true) ∧ Below W.heap.size W w' := by
  have Hn := Lib.hid q1n
  have Hc := Lib.hid q1c
  clear q1n q1c
  by_cases hs : n1 ≤ 1048576
  · go_enter Try.func3, Try.ntmps3
    go_wp2_with fail
    refine (szLetterS_small o1 n1 c1 W hs).mono ?_
    rintro e w' ⟨rfl, rfl⟩
    go_wp2_with fail
    refine (toLetterS_any o1 c1 l1 n1 W Hn hs Hc).mono ?_
    rintro e w1 ⟨cap1, rfl, own1, bel1⟩
    have Hown1 := Lib.hid own1
    clear own1
    go_wp2_with fail
    refine (specAreLetters_any a0 _ cap1 l1 n1 w1 Hn q1m (own_at Hown1.out Hn.out)).mono ?_
    rintro e w2 ⟨rfl, bel2⟩
    have b2 : Below W.heap.size W w2 := bel1.trans (bel2.mono bel1.size)
    clear bel2
    go_wp2_with fail
    refine (toLetterS_any o1 c1 l1 n1 w2 Hn hs (Hc.out.kept b2)).mono ?_
    rintro e w3 ⟨cap3, rfl, own3, bel3⟩
    have Hown3 := Lib.hid own3
    have b3 : Below W.heap.size W w3 := b2.trans (bel3.mono b2.size)
    clear own3
    go_wp2_with fail
    refine (areLetters_any a0 _ cap3 l1 n1 w3 Hn.out q1m (own_at Hown3.out Hn.out)).mono ?_
    rintro e w4 ⟨rfl, bel4⟩
    have Hown4 := Lib.hid (own_later Hown3.out bel4)
    have b4 : Below W.heap.size W w4 := b3.trans (bel4.mono b3.size)
    clear bel4 bel3
    have hx : (gdL a0 l1 != gdL a0 l1) = false := by simp
    go_wp2_with fail
    refine (toLetterS_any o1 c1 l1 n1 w4 Hn hs (Hc.out.kept b4)).mono ?_
    rintro e w5 ⟨cap5, rfl, own5, bel5⟩
    have Hown5 := Lib.hid own5
    have Hown6 := Lib.hid (own_later Hown4.out bel5)
    have b5 : Below W.heap.size W w5 := b4.trans (bel5.mono b4.size)
    clear bel5 own5
    go_wp2_with fail
    refine (eqLetterS_any _ _ _ _ l1 n1 n1 w5 Hn.out Hn.out q1m (own_at Hown6.out Hn.out) (own_at Hown5.out Hn.out)).mono ?_
    rintro e w6 ⟨rfl, bel6⟩
    have b6 : Below W.heap.size W w6 := b5.trans (bel6.mono b5.size)
    clear bel6
    go_wp2_with fail
    go_ret
    exact ⟨rfl, b6⟩
  · go_enter Try.func3, Try.ntmps3
    go_wp2_with fail
    refine (szLetterS_great o1 n1 c1 W (by omega) q1m).mono ?_
    rintro e w' ⟨rfl, rfl⟩
    go_wp2_with fail
    go_ret
    exact ⟨rfl, Below.refl _ _⟩
end Go.Proofs.Ytolkfgjgnpjpkaa
