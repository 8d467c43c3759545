/- Who can hear from whom: the model. -/
import Derived.Test.YtolkfgjgnpjpkaaReach
namespace Go.Proofs.Ytolkfgjgnpjpkaa
open Go.ChangeShapes Go.WideShapes Go.ChangeAt Go.RowKit
set_option linter.unusedVariables false


set_option maxHeartbeats 1600000 in
set_option maxRecDepth 20000 in
theorem leHeard_pos (b off cap : Nat) (F : Nat) (l : List (Int × Int)) (n : Nat) (w : World) (Hn : Hid (n = l.length)) (hl : n ≤ 60) (h1F : 1 ≤ F) (hF : F ≤ 10) (Hfit : Hid (Fit F n l))
    (Hc : Hid (∀ i, i < n → w.cell? ⟨b, off + i * 2, none⟩ = some (.int .i64 (ca l i)) ∧ w.cell? ⟨b, off + i * 2 + 1, none⟩ = some (.int .i64 (cb l i)))) :
    Calls Try.prog 94 #[.int .i64 F, .slice (some ⟨b, off, none⟩) n cap] w fun e w' => ∃ v s, e = .returned v ∧ w'.ownsRow w.heap.size 3 1 v F (ns (kl F s)) ∧ (∀ x, x < F → IsHr F l x (s x)) ∧ (∀ i, s i < 2 ^ F) ∧ Below w.heap.size w w' := by
  have Hfit2 : Hid (Fit F l.length l) := by rw [← Hn.out]; exact Hfit.out
  go_enter Try.func94, Try.ntmps94
  go_wp2_with fail
  refine (caStart_any F w (by omega)).mono ?_
  rintro e w1 ⟨v1, rfl, own1, bel1⟩
  have Hown1 := Lib.hid own1
  have Hbel1 := Lib.hid bel1
  obtain ⟨g, cap', hv⟩ := own_apos' own1 (by omega)
  rw [hv] at Hown1 ⊢
  have hgl : w.heap.size ≤ g := (Hown1.out.lt g rfl).1
  clear own1 bel1 hv
  go_wp2_with fail
  go_loopg [6] (2 * (100 - cntTo (own0 F) F) + 1) (fun m t wr => ∃ (s : Nat → Nat) (ag : Bool), t = .bool ag ∧ m = 2 * (100 - cntTo s F) + ag.toNat ∧ wr.ownsRow w.heap.size 3 1 (.slice (some ⟨g, 0, none⟩) F cap') F (ns (kl F s)) ∧ Hid (Hd0 F l s) ∧ Hid (ag = false → Shut l s n) ∧ Below w.heap.size w wr)
  case atStart => exact ⟨own0 F, true, rfl, rfl, Hown1.out, Hd0.start F l, (fun h => by cases h), Hbel1.out⟩
  case round =>
    obtain ⟨s, ag, rfl, hm, hor, hhd, hsh, hbel⟩ := hrel
    cases ag
    · have Hor := Lib.hid hor
      have hdone := hhd.out.done Hfit2.out (by rw [← Hn.out]; exact hsh.out rfl)
      have Hdone := Lib.hid hdone
      have Hlt := Lib.hid hhd.out.1
      clear hor hdone hm
      go_wp2_with fail
      go_ret
      exact ⟨_, rfl, s, Hor.out, Hdone.out, Hlt.out, hbel⟩
    · have Hor0 := Lib.hid hor
      have Hm := Lib.hid hm
      clear hor hm
      go_wp2_with fail
      go_loopw [6, 15] (fun t i wr2 => ∃ (k : Nat) (s2 : Nat → Nat) (ag : Bool), k ≤ n ∧ i = .int .i64 k ∧ t = .bool ag ∧ wr2.ownsRow w.heap.size 3 1 (.slice (some ⟨g, 0, none⟩) F cap') F (ns (kl F s2)) ∧ Hid (Hd0 F l s2) ∧ Hid (ag = false → s2 = s ∧ Shut l s2 k) ∧ Hid (ag = true → cntTo s F < cntTo s2 F) ∧ Below w.heap.size w wr2) (fun _ i _ => n - (intOf i).toNat)
      case atStart => exact ⟨0, s, false, Nat.zero_le _, rfl, rfl, Hor0.out, hhd, (fun _ => ⟨rfl, fun i hi => absurd hi (by omega)⟩), (fun h => by cases h), hbel⟩
      case round =>
        obtain ⟨k, s2, ag, hk, rfl, rfl, hor, hhd2, hsh2, hcn2, hbel2⟩ := hrel
        by_cases hlt : k < n
        · have h0 := hbel2.cell (p := ⟨b, off + k * 2, none⟩) (World.block_lt_of_cell? w _ (Hc.out k hlt).1)
          have h1 := hbel2.cell (p := ⟨b, off + k * 2 + 1, none⟩) (World.block_lt_of_cell? w _ (Hc.out k hlt).2)
          have hgc := Hfit.out k hlt
          obtain ⟨x, hx⟩ : ∃ x : Nat, ca l k = (x : Int) := ⟨(ca l k).toNat, by omega⟩
          obtain ⟨y, hy⟩ : ∃ y : Nat, cb l k = (y : Int) := ⟨(cb l k).toNat, by omega⟩
          rw [(Hc.out k hlt).1, hx] at h0
          rw [(Hc.out k hlt).2, hy] at h1
          rw [hx, hy] at hgc
          have Hx := Lib.hid hx
          have Hy := Lib.hid hy
          have hkl : k < l.length := by rw [← Hn.out]; exact hlt
          have hsm : ∀ i, s2 i < 1024 := fun i => pow_small (f := F) hF (hhd2.out.1 i)
          have hor1 := hor.alloc (.cells #[.int .i64 x, .int .i64 y] 62)
          have kx := kl_cells hor1 x (by omega)
          have ky := kl_cells hor1 y (by omega)
          rw [Nat.zero_add] at kx ky
          have e0 : (wr.alloc (.cells #[.int .i64 x, .int .i64 y] 62)).cell? ⟨wr.heap.size, 0, none⟩ = some (.int .i64 x) := by simp
          have e1 : (wr.alloc (.cells #[.int .i64 x, .int .i64 y] 62)).cell? ⟨wr.heap.size, 1, none⟩ = some (.int .i64 y) := by simp
          have hb1 : Below w.heap.size w (wr.alloc (.cells #[.int .i64 x, .int .i64 y] 62)) := hbel2.alloc hbel2.size _
          have hor2 := (hor1.stored x (.int .i64 ((s2 x ||| s2 y : Nat) : Int))).1
          rw [ns_set, kl_set] at hor2
          have zf := hor1.frozenAt x
          have Hor1 := Lib.hid hor1
          have Hor2 := Lib.hid hor2
          have hbits := bits_or_int (s2 x) (s2 y) (hsm x) (hsm y)
          have hx0 : (0 : Int) ≤ (x : Int) := by omega
          have hx1 : (x : Int) < (F : Int) := by omega
          have hy0 : (0 : Int) ≤ (y : Int) := by omega
          have hy1 : (y : Int) < (F : Int) := by omega
          have hxF : x < F := by omega
          have hyF : y < F := by omega
          have Hnext := Lib.hid (hhd2.out.next hkl hx hy hxF hyF)
          clear hor hor1 hor2 hgc hx hy hbel2
          by_cases hsame : s2 x ||| s2 y = s2 x
          · have htest : (((s2 x ||| s2 y : Nat) : Int) != (s2 x : Int)) = false := by rw [hsame]; simp
            have hsh3 : Hid (ag = false → s2 = s ∧ Shut l s2 (k + 1)) := fun h => ⟨(hsh2.out h).1, (hsh2.out h).2.succ Hx.out Hy.out hsame⟩
            have Hsame := Lib.hid hsame
            clear hsame
            go_wp2_with fail
            generalize wr.alloc (.cells #[.int .i64 x, .int .i64 y] 62) = w2 at kx ky e0 e1 hb1 Hor1 Hor2 zf ⊢
            go_still_tail 11, (by kernel_rfl)
            change wpList _ _ _ _ _ w2.drew
            have kx' : w2.drew.cell? ⟨g, x, none⟩ = some (.int .i64 (s2 x)) := kx
            have e0' : w2.drew.cell? ⟨wr.heap.size, 0, none⟩ = some (.int .i64 x) := e0
            go_wp2_with fail
            go_roundw
            case rel => exact ⟨k + 1, s2, ag, by omega, by go_num, rfl, Hor1.out.drew, hhd2, hsh3, hcn2, hb1.drew⟩
            case measure => simp [intOf]; omega
          · have htest : (((s2 x ||| s2 y : Nat) : Int) != (s2 x : Int)) = true := by simp; omega
            have hcn3 : Hid (true = true → cntTo s F < cntTo (upd s2 x (s2 x ||| s2 y)) F) := by
              intro _
              have h9 := cnt_more hxF hsm (hsm y) hsame
              cases ag
              · have := (hsh2.out rfl).1
                rw [this] at h9 ⊢; exact h9
              · exact Nat.lt_trans (hcn2.out rfl) h9
            have Hsame := Lib.hid hsame
            clear hsame
            go_wp2_with fail
            generalize wr.alloc (.cells #[.int .i64 x, .int .i64 y] 62) = w2 at kx ky e0 e1 hb1 Hor1 Hor2 zf ⊢
            go_still_tail 11, (by kernel_rfl)
            change wpList _ _ _ _ _ w2.drew
            have kx' : w2.drew.cell? ⟨g, x, none⟩ = some (.int .i64 (s2 x)) := kx
            have e0' : w2.drew.cell? ⟨wr.heap.size, 0, none⟩ = some (.int .i64 x) := e0
            have zf' : w2.drew.frozen? ⟨g, x, none⟩ = false := zf
            go_wp2_with fail
            go_roundw
            case rel => exact ⟨k + 1, _, true, by omega, by go_num, rfl, Hor2.out.drew, Hnext.out, (fun h => by cases h), (fun _ => hcn3.out (by trivial)), hb1.drew.setCell (p := ⟨g, x, none⟩) hgl _⟩
            case measure => simp [intOf]; omega
        · obtain rfl : k = n := by omega
          have Hor := Lib.hid hor
          have hc1 := cntTo_le s (fun i => pow_small (f := F) hF (hhd.out.1 i)) F
          have hc2 := cntTo_le s2 (fun i => pow_small (f := F) hF (hhd2.out.1 i)) F
          clear hor
          go_wp2_with fail
          go_roundg (2 * (100 - cntTo s2 F) + ag.toNat)
          case rel => exact ⟨s2, ag, rfl, rfl, Hor.out, hhd2, (fun h => (hsh2.out h).2), hbel2⟩
          case measure =>
            rw [Hm.out]
            cases ag
            · rw [(hsh2.out rfl).1]; simp
            · have := hcn2.out rfl; simp; omega

end Go.Proofs.Ytolkfgjgnpjpkaa
