/- NeedlessClues by the program. -/
import Derived.Test.YtmgmkgjefplfdaaDrp
import Derived.Test.YtmgmkgjefplfdaaWo
import Derived.Test.YtmgmkgjefplfdaaSlc
namespace Go.Proofs.Ytmgmkgjefplfdaa
open Go.ChangeShapes Go.WideShapes Go.ChangeAt Go.RowKit
set_option linter.unusedVariables false

/-- One number more. -/
theorem push_num {P : Program} (w : World) {ops : Array Oper} {rest : List Oper} {o : Oper} {a : Act} {Q : Exit → Act → World → Prop} (hgd : o.guard = none) (s x : Operand) (t : TypeId)
    (ho : o.op = .call { callee := .builtin .append, args := #[s, x], argTypes := #[t, t] })
    (base : Nat) (i : TypeInfo) (ht : P.underlying t = some (.slice 3)) (hi : P.info? 3 = some i) (hz : i.zero = some (.int .i64 0))
    (hsize : i.size = 1) (hby : i.bytes = 8)
    (v : Value) (l : List Int) (k : Nat) (hs : a.eval s = v) (hown : w.ownsRow base 3 1 v k (ns l)) (hsml : k ≤ 1000000)
    (r : Int) (c : Nat) (ad : Nat) (hx : a.eval x = .slice (some ⟨ad, 0, none⟩) 1 c) (had : w.cell? ⟨ad, 0, none⟩ = some (.int .i64 r)) (hbase : base ≤ w.heap.size)
    (h : ∀ g cap w', w'.ownsRow base 3 1 (.slice (some ⟨g, 0, none⟩) (k + 1) cap) (k + 1) (ns (l ++ [r])) → w.grownBy w' v.ownBlock → (v.ownBlock = some g ∨ g = w.heap.size) → wpList P ops Q rest (a.put o.dst (.slice (some ⟨g, 0, none⟩) (k + 1) cap)) w') : wpList P ops Q (o :: rest) a w := by
  refine wpList_append_lies w hgd s x t ho base 3 i (.int .i64 0) 1 8 ht hi hz hsize hby rfl (by decide) v k (ns l) hs hown ⟨ad, 0, none⟩ 1 c [.int .i64 r] hx rfl ?_ ?_ (by omega) (by unfold maxLen; omega) (by omega) hbase w.heap.size rfl ?_
  · intro j u hu
    cases j with
    | zero => simp at hu; subst hu; exact had
    | succ j => simp at hu
  · intro u hu
    simp at hu
    subst hu
    rfl
  · intro g cap w' hown' hgr hat _
    exact h g cap w' (by rw [ns_append]; exact hown') hgr hat

/-- The clues without each of which, one alone, there are as many solutions, of the first ones. -/
def ndP (F M : Nat) (l : List Clu) : Nat → List Int
  | 0 => []
  | k + 1 => if (sol F M (less l k)).length = (sol F M l).length then ndP F M l k ++ [(k : Int)] else ndP F M l k
theorem ndP_len (F M : Nat) (l : List Clu) : ∀ k, (ndP F M l k).length ≤ k
  | 0 => Nat.le_refl _
  | k + 1 => by have := ndP_len F M l k; unfold ndP; split <;> simp <;> omega
def ndL (f n : Int) (l : List Clu) : List Int := if goodB f n l then ndP f.toNat n.toNat l l.length else []
theorem ndL_len (f n : Int) (l : List Clu) : (ndL f n l).length ≤ 1048576 := by
  unfold ndL
  split
  · rename_i hg
    obtain ⟨F, M, rfl, rfl, hF, hM, h6, _⟩ := good_parts hg
    have := ndP_len (F : Int).toNat (M : Int).toNat l l.length
    omega
  · simp
set_option maxHeartbeats 1600000 in
set_option maxRecDepth 20000 in
theorem implNd_any (w : World) (f n : Int) (gb : Nat) (cap : Nat) (l : List Clu) (N : Nat) (HN : Hid (N = l.length)) (hN : N ≤ 1048576) (hc : N ≤ cap) (Hc : CluesAt w (some ⟨gb, 0, none⟩) l) :
    Calls Try.prog 48 #[.agg #[.int .i64 f, .int .i64 n, .slice (some ⟨gb, 0, none⟩) N cap]] w fun e w' => ∃ v, e = .returned (.tuple #[v, .bool (goodB f n l)]) ∧ w'.ownsRow w.heap.size 3 1 v (ndL f n l).length (ns (ndL f n l)) ∧ Below w.heap.size w w' := by
  obtain ⟨W0, hW, hbW, hsW, rX⟩ := box1 w #[.int .i64 f, .int .i64 n, .slice (some ⟨gb, 0, none⟩) N cap] 35
  have HW := Lib.hid hW
  have HX := Lib.hid rX
  have HbW := Lib.hid hbW
  have Hc0 := Lib.hid (Hc.kept hbW)
  have c0 : W0.cell? ⟨w.heap.size, 0, none⟩ = some (.int .i64 f) := cell_of_row _ _ _ _ _ _ rX
  have c1 : W0.cell? ⟨w.heap.size, 1, none⟩ = some (.int .i64 n) := cell_of_row _ _ _ _ _ _ rX
  have c2 : W0.cell? ⟨w.heap.size, 2, none⟩ = some (.slice (some ⟨gb, 0, none⟩) N cap) := cell_of_row _ _ _ _ _ _ rX
  clear hW rX hbW Hc
  have HI := Lib.hid (implCnt_any W0 f n (some ⟨gb, 0, none⟩) cap l N HN hN hc Hc0.out)
  cases hg : goodB f n l
  · rw [show ndL f n l = [] by simp [ndL, hg]]
    rw [hg] at HI
    clear hg
    go_enter Try.func48, Try.ntmps48
    go_wp2_with fail
    rw [HW.out]
    refine HI.out.mono ?_
    rintro e w1 ⟨rfl, hb1⟩
    have HB := Lib.hid (HbW.out.trans (hb1.mono HbW.out.size))
    clear hb1 c0 c1 c2
    go_wp2_with fail
    go_ret2
    exact ⟨_, rfl, World.ownsRow_nil _ _ _ _, HB.out⟩
  · rw [hg] at HI
    have hr : ndL f n l = ndP f.toNat n.toNat l N := by unfold ndL; rw [if_pos hg, ← HN.out]
    rw [hr]
    have HG := Lib.hid hg
    obtain ⟨F, M, rfl, rfl, hF, hM, h6, hm⟩ := good_parts hg
    have hN6 : N ≤ 6 := by rw [HN.out]; exact h6
    rw [Int.toNat_natCast, Int.toNat_natCast]
    obtain ⟨i3, hi3, hz30, hz31, hz32⟩ := info_parts info3
    obtain ⟨Q, hQ⟩ : ∃ Q, (sol F M l).length = Q := ⟨_, rfl⟩
    have HQ := Lib.hid hQ
    obtain ⟨R, hR⟩ : ∃ R, ndP F M l = R := ⟨_, rfl⟩
    have HR0 : Hid (R 0 = []) := Lib.hid (by rw [← hR]; rfl)
    have HRs : Hid (∀ k, R (k + 1) = if (sol F M (less l k)).length = Q then R k ++ [(k : Int)] else R k) := Lib.hid (fun k => by rw [← hR, ← hQ]; rfl)
    have HRl : Hid (∀ k, (R k).length ≤ k) := Lib.hid (fun k => by rw [← hR]; exact ndP_len F M l k)
    have Hcs : Hid (cntSol (F : Int) (M : Int) l = (Q : Int)) := Lib.hid (by unfold cntSol; rw [show solL (F : Int) (M : Int) l = sol F M l by simp [solL, hg], hQ])
    rw [hR]
    have Hm := Lib.hid hm
    clear hg hr hR hQ hm h6
    rw [Hcs.out] at HI
    go_enter Try.func48, Try.ntmps48
    go_wp2_with fail
    rw [HW.out]
    refine HI.out.mono ?_
    rintro e w1 ⟨rfl, hb1⟩
    have HB1 := Lib.hid (HbW.out.trans (hb1.mono HbW.out.size))
    have Hc1 := Lib.hid (Hc0.out.kept hb1)
    have HX1 := Lib.hid (row_later HX.out hb1)
    have c0 := cell_old hb1 c0
    have c1 := cell_old hb1 c1
    have c2 := cell_old hb1 c2
    have hs1 : w.heap.size ≤ w1.heap.size := HB1.out.size
    clear hb1
    have hw1lt : w.heap.size < w1.heap.size := World.block_lt_of_cell? _ _ c0
    go_wp2_with fail
    go_loopw [6, 18] (fun v i wr => ∃ k K : Nat, k ≤ N ∧ i = .int .i64 k ∧ Hid (K = (R k).length) ∧ wr.ownsRow w1.heap.size 3 1 v K (ns (R k)) ∧ Below w1.heap.size w1 wr) (fun _ i _ => N - (intOf i).toNat)
    case atStart => exact ⟨0, 0, Nat.zero_le _, rfl, Lib.hid (by rw [HR0.out]; rfl), by rw [HR0.out]; exact World.ownsRow_nil _ _ _ _, Below.refl _ _⟩
    case round =>
      clear c0 c1 c2
      obtain ⟨k, K, hk, rfl, HK, hor, hbel⟩ := hrel
      have hKk : K ≤ k := by rw [HK.out]; exact HRl.out k
      have hsz := hbel.size
      have rXr := row_later HX1.out hbel
      have x0 : wr.cell? ⟨w.heap.size, 0, none⟩ = some (.int .i64 (F : Int)) := cell_of_row _ _ _ _ _ _ rXr
      have x1 : wr.cell? ⟨w.heap.size, 1, none⟩ = some (.int .i64 (M : Int)) := cell_of_row _ _ _ _ _ _ rXr
      have x2 : wr.cell? ⟨w.heap.size, 2, none⟩ = some (.slice (some ⟨gb, 0, none⟩) N cap) := cell_of_row _ _ _ _ _ _ rXr
      by_cases hlt : k < N
      · have hkl : k < l.length := by rw [← HN.out]; exact hlt
        have Hcr := Lib.hid (Hc1.out.kept hbel)
        have Hor := Lib.hid hor
        have Hbel := Lib.hid hbel
        have HRk := Lib.hid (HRs.out k)
        have Hlen : Hid (N - 1 = (less l k).length) := Lib.hid (by rw [less_len hkl, ← HN.out])
        obtain ⟨V, hV⟩ : ∃ V, (sol F M (less l k)).length = V := ⟨_, rfl⟩
        rw [hV] at HRk
        have HV := Lib.hid hV
        clear hor hbel rXr hV
        go_wp2_with fail
        refine (drop_any (F : Int) (M : Int) gb 0 l N cap k wr HN hlt hN6 hc (Lib.hid (clues_sat Hcr.out HN.out))).mono ?_
        rintro e w3 ⟨v3, rfl, own3, hb3⟩
        obtain ⟨a3, c3, rfl, hat3, _⟩ := kown_shape own3 Hlen.out
        have hc3 := own_cap4 own3
        have Hat3 := Lib.hid hat3
        have s3 := hb3.size
        have Ho3 := Lib.hid (own_later Hor.out hb3)
        have Hb3 := Lib.hid (Hbel.out.trans (hb3.mono hsz))
        clear hb3 own3 hat3
        go_wp2_with fail
        refine (solOf_any w3 F M a3 c3 (N - 1) (less l k) hF hM Hlen (by omega) Hat3 (less_all Hm.out k)).mono ?_
        rintro e w5 ⟨v5, X5, rfl, hO5, hb5⟩
        obtain ⟨a5, c5, hv5, _⟩ := hO5.reads
        rw [HV.out] at hv5
        subst hv5
        have Ho5 := Lib.hid (own_later Ho3.out hb5)
        have Hb5 := Lib.hid (Hb3.out.trans (hb5.mono Hb3.out.size))
        have hs5 : w1.heap.size ≤ w5.heap.size := Hb5.out.size
        clear hb5 hO5 x0 x1 x2
        by_cases he : V = Q
        · have hMM : ((V : Int) == (Q : Int)) = true := by simp; omega
          have hR := HRk.out
          rw [if_pos he] at hR
          have HR1 := Lib.hid hR
          have Ho6 := Lib.hid (Ho5.out.alloc (.cells #[.int .i64 (k : Int)] 3))
          have Hb6 := Lib.hid (Hb5.out.alloc hs5 (.cells #[.int .i64 (k : Int)] 3))
          have hszW : (w5.alloc (.cells #[.int .i64 (k : Int)] 3)).heap.size = w5.heap.size + 1 := by simp
          have Hck : Hid ((w5.alloc (.cells #[.int .i64 (k : Int)] 3)).cell? ⟨w5.heap.size, 0, none⟩ = some (.int .i64 (k : Int))) := Lib.hid (by rw [cell_of_row _ _ _ _ _ _ (heap_alloc_new w5 _)]; rfl)
          clear he hR
          go_wp2_with (at_builtin; refine push_num _ rfl _ _ 61 rfl w1.heap.size i3 Try.underlying61 hi3 hz30 hz31 hz32 _ (R k) K rfl Ho6.out (by omega) (k : Int) 1 w5.heap.size rfl Hck.out (by rw [hszW]; omega) ?_)
          intro g9 c9 w9 own9 hgr9 _
          have Ho9 : Hid (w9.ownsRow w1.heap.size 3 1 (.slice (some ⟨g9, 0, none⟩) (K + 1) c9) (K + 1) (ns (R (k + 1)))) := Lib.hid (by rw [HR1.out]; exact own9)
          have Hb9 := Lib.hid (Hb6.out.grown hgr9 (by rw [hszW]; omega) (fun bb hb => (Ho6.out.lt bb hb).1))
          clear own9 hgr9
          go_wp2_with fail
          go_roundw
          case rel => exact ⟨k + 1, K + 1, by omega, by go_num, Lib.hid (by rw [HR1.out, List.length_append, ← HK.out]; rfl), Ho9.out, Hb9.out⟩
          case measure => simp [intOf]; omega
        · have hMM : ((V : Int) == (Q : Int)) = false := by simp; omega
          have hR := HRk.out
          rw [if_neg he] at hR
          have HR1 := Lib.hid hR
          clear he hR
          go_wp2_with fail
          go_roundw
          case rel => exact ⟨k + 1, K, by omega, by go_num, Lib.hid (by rw [HR1.out, ← HK.out]), by rw [HR1.out]; exact Ho5.out, Hb5.out⟩
          case measure => simp [intOf]; omega
      · obtain rfl : k = N := by omega
        have Hor : Hid (wr.ownsRow w.heap.size 3 1 u6 (R k).length (ns (R k))) := Lib.hid (by have h := own_base hs1 hor; rw [HK.out] at h; exact h)
        have HB := Lib.hid (HB1.out.trans (hbel.mono hs1))
        clear hor hbel
        have hnk : ¬ k < k := Nat.lt_irrefl k
        go_wp2_with fail
        go_ret2
        exact ⟨_, rfl, Hor.out, HB.out⟩

end Go.Proofs.Ytmgmkgjefplfdaa
