/- Sends put in order. -/
import Derived.Test.YtghfkgbmmkcjhaaSrt
import Derived.Test.YtghfkgbmmkcjhaaUp
namespace Go.Proofs.Ytghfkgbmmkcjhaa
open Go.ChangeShapes Go.WideShapes Go.ChangeAt Go.RowKit
set_option linter.unusedVariables false


theorem eql_nil (a : Option Addr) (n c : Nat) (w : World) : (binOp .eql 25 (.slice a n c) (.slice none 0 0)).run Try.prog w = .ok (.bool a.isNone) w := by
  have := run_equal_slice_nil (P := Try.prog) (w := w) 25 52 a n c Try.underlying25
  simp [binOp, this]

set_option maxRecDepth 20000 in
theorem cloneS_any (ao : Option Addr) (cap : Nat) (l : List Snd) (n : Nat) (w : World) (Hn : Hid (n = l.length)) (hl : n ≤ 1000) (Hc : Hid (SendsAt w ao l)) :
    Calls Try.prog 81 #[.slice ao n cap] w fun e w' => ∃ v', e = .returned v' ∧ w'.ownsRow w.heap.size 52 3 v' n (ss l) ∧ Below w.heap.size w w' := by
  obtain ⟨i0, hi, hz0, hz1, hz2⟩ := info_parts infoSE
  cases ao with
  | none =>
    have hl0 : l = [] := by rcases Hc.out with h | ⟨b, off, h, _⟩; exact h; cases h
    subst hl0
    obtain rfl : n = 0 := Hn.out
    have hnl := fun w => eql_nil none 0 cap w
    go_enter Try.func81, Try.ntmps81
    go_wp2_with fail
    go_ret
    exact ⟨_, rfl, World.ownsRow_nil _ _ _ _, Below.refl _ _⟩
  | some ad =>
    have hown0 : (w.alloc (.cells #[] 52)).ownsRow w.heap.size 52 3 (.slice (some ⟨w.heap.size, 0, none⟩) 0 0) 0 [] := World.ownsRow_lit w #[] 0 (Nat.le_refl _) (by unfold maxLen; omega) rfl
    have Hown0 := Lib.hid hown0
    have Hbw : Hid (∀ j u, (ss l)[j]? = some u → (w.alloc (.cells #[] 52)).cell? (ad.add j) = some u) := Lib.hid (fun j u hu => by
      rcases Hc.out with h | ⟨b, off, h, hcc⟩
      · subst h; simp [ss] at hu
      · cases h
        have hjl : j < l.length * 3 := by rw [← ss_length]; exact (List.getElem?_eq_some_iff.1 hu).1
        have hc := (hcc (j / 3) (by omega)).kept ((Below.refl w.heap.size w).alloc (Nat.le_refl _) (.cells #[] 52))
        have ha : (⟨b, off, none⟩ : Addr).add j = ⟨b, off + j, none⟩ := by unfold Addr.add; split <;> simp_all
        rw [ha]
        have h3 : j % 3 = 0 ∨ j % 3 = 1 ∨ j % 3 = 2 := by omega
        rcases h3 with h0 | h0 | h0
        · have h2 := ss_0 l (j / 3) (by omega)
          rw [show j / 3 * 3 = j by omega] at h2
          rw [h2] at hu
          have := hc.1
          rw [show off + j / 3 * 3 = off + j by omega] at this
          rw [this, hu]
        · have h2 := ss_1 l (j / 3) (by omega)
          rw [show j / 3 * 3 + 1 = j by omega] at h2
          rw [h2] at hu
          have := hc.2.1
          rw [show off + j / 3 * 3 + 1 = off + j by omega] at this
          rw [this, hu]
        · have h2 := ss_2 l (j / 3) (by omega)
          rw [show j / 3 * 3 + 2 = j by omega] at h2
          rw [h2] at hu
          have := hc.2.2
          rw [show off + j / 3 * 3 + 2 = off + j by omega] at this
          rw [this, hu])
    clear hown0
    have hnl := fun w => eql_nil (some ad) n cap w
    go_enter Try.func81, Try.ntmps81
    go_wp2_with (at_builtin; refine wpList_append_own _ rfl _ _ 25 rfl w.heap.size 52 i0 (.agg #[.int .i64 0, .int .i64 0, .int .i64 0]) 3 24 Try.underlying25 hi hz0 hz1 hz2 rfl (by decide) _ _ _ rfl Hown0.out ad n cap (ss l) rfl ?c0 ?c1 ?c2 ?c3 ?c4 ?c5 ?_)
    case c0 => rw [ss_length, ← Hn.out]
    case c1 => exact Hbw.out
    case c2 => exact ss_one _
    case c3 => unfold maxLen; omega
    case c4 => omega
    case c5 => simp
    intro v' w1 hown' hgr hnil
    have hown2 : w1.ownsRow w.heap.size 52 3 v' n (ss l) := by simpa using hown'
    have Hown := Lib.hid hown2
    have Hbel := Lib.hid (((Below.refl w.heap.size w).alloc (Nat.le_refl _) (.cells #[] 52)).grown hgr (by simp) (fun b hb => (Hown0.out.lt b hb).1))
    clear hown' hgr hnil hown2
    go_wp2_with fail
    go_ret
    exact ⟨_, rfl, Hown.out, Hbel.out⟩

theorem inOrder_any (w : World) (ao : Option Addr) (cap : Nat) (l : List Snd) (n : Nat) (P : Int) (hv : ok1B P l = true) (Hn : Hid (n = l.length)) (hl : n ≤ 1000) (Hc : Hid (SendsAt w ao l)) :
    Calls Try.prog 72 #[.slice ao n cap] w fun e w' => ∃ v', e = .returned v' ∧ w'.ownsRow w.heap.size 52 3 v' n (ss (ordS l)) ∧ Below w.heap.size w w' := by
  have Hv := Lib.hid hv
  clear hv
  go_enter Try.func72, Try.ntmps72
  go_wp2_with fail
  refine (cloneS_any ao cap l n w Hn hl Hc).mono ?_
  rintro e w1 ⟨v, rfl, own1, hb1⟩
  have Hs := Lib.hid (sort_any w.heap.size v l n P w1 Hv.out Hn.out (by omega) own1)
  have Hlow : Hid (∀ b, v.ownBlock = some b → w.heap.size ≤ b) := fun b hb => (own1.lt b hb).1
  have Hb1 := Lib.hid hb1
  clear own1 hb1
  go_wp2_with fail
  refine Hs.out.mono ?_
  rintro e w2 ⟨rfl, own2, gr2⟩
  have Hb2 := Lib.hid (Hb1.out.grown gr2 Hb1.out.size Hlow.out)
  have Hown2 := Lib.hid own2
  clear own2 gr2
  go_wp2_with fail
  go_ret
  exact ⟨v, rfl, Hown2.out, Hb2.out⟩

end Go.Proofs.Ytghfkgbmmkcjhaa
