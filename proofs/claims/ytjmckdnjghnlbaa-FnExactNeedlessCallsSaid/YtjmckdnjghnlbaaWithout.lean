/- What is known behind the calls without one of them, in the program. -/
import Derived.Test.YtjmckdnjghnlbaaSpecNeedless
namespace Go.Proofs.Ytjmckdnjghnlbaa
open Go.ChangeShapes Go.WideShapes Go.ChangeAt Go.RowKit

theorem gd_drop {f : Int} {l : List (Int × Int)} (h : gdB f l = true) (k : Nat) : gdB f (l.drop k) = true := by
  simp only [gdB, Bool.and_eq_true, decide_eq_true_eq, List.all_eq_true] at h ⊢
  refine ⟨⟨h.1.1, ?_⟩, fun c hc => h.2 c (List.mem_of_mem_drop hc)⟩
  have := h.1.2
  simp only [List.length_drop]; omega
theorem play_more (f : Nat) (p d : List (Int × Int)) (j : Nat) (h : j < d.length) : play f (p ++ d.take (j + 1)) = stp (play f (p ++ d.take j)) (ca d j, cb d j) := by
  rw [List.take_succ_eq_append_getElem h, ca_cb d j h, ← List.append_assoc]
  simp [play, List.foldl_append]

set_option maxRecDepth 20000 in
theorem without_at (b off off2 cap : Nat) (f : Nat) (l p d : List (Int × Int)) (n k m : Nat) (w : World) (hp : p = l.take k) (hd : d = l.drop (k + 1)) (Hm : Hid (m = n - (k + 1) ∧ m = d.length)) (Hn : Hid (n = l.length)) (hl : n ≤ 60) (hcap : n ≤ cap) (hk : k < n) (hg : gdB (f : Int) l = true)
    (hif : (if cap = k + 1 then (some ⟨b, off, none⟩ : Option Addr) else some ⟨b, off + (k + 1) * 2, none⟩) = some ⟨b, off2, none⟩)
    (HP : Hid (CallsAt w (some ⟨b, off, none⟩) p))
    (Hc : Hid (∀ i, i < m → w.cell? ⟨b, off2 + i * 2, none⟩ = some (.int .i64 (ca d i)) ∧ w.cell? ⟨b, off2 + i * 2 + 1, none⟩ = some (.int .i64 (cb d i)))) :
    Calls Try.prog 86 #[.int .i64 f, .slice (some ⟨b, off, none⟩) n cap, .int .i64 k] w fun e w' => e = .returned (.agg (KA f (play f (p ++ d)))) ∧ Below w.heap.size w w' := by
  have hff := gd_fr hg
  have Hgp : Hid (gdB (f : Int) p = true) := by rw [hp]; exact gd_take hg k
  have Hgd : Hid (gdB (f : Int) d = true) := by rw [hd]; exact gd_drop hg (k + 1)
  have Hk0 : Hid (k = p.length) := by show _ = _; rw [hp, List.length_take, ← Hn.out]; omega
  have hml : (n : Int) - ((k : Int) + 1) = (m : Int) := by have := Hm.out.1; omega
  have hml2 : n - (k + 1) = m := Hm.out.1.symm
  clear hg hp hd
  have hk0 : (0 : Int) ≤ (k : Int) := by omega
  have hk1 : (k : Int) ≤ (n : Int) := by omega
  have hk2 : (k : Int) ≤ (cap : Int) := by omega
  have hk3 : (0 : Int) ≤ (k : Int) + 1 := by omega
  have hk4 : (k : Int) + 1 ≤ (n : Int) := by omega
  have hk5 : (n : Int) ≤ (cap : Int) := by omega
  have hw1 : IntKind.i64.wrap ((k : Int) + 1) = (k : Int) + 1 := IntWalk.i64_in _ (by omega)
  have hw2 : ((k : Int) + 1).toNat = k + 1 := by omega
  go_enter Try.func86, Try.ntmps86
  go_wp2_with fail
  refine (knowledgeBehind_any f _ cap p k _ Hk0 Hgp.out (HP.out.kept ((Below.refl _ _).alloc (Nat.le_refl _) _))).mono ?_
  rintro e w1 ⟨rfl, hb1⟩
  have hZ1 : w1.heap[w.heap.size]? = some (.cells ZA 67 (0, 0)) := (hb1.block _ (by simp)).trans (heap_alloc_new w _)
  have hbel1 : Below w.heap.size w w1 := ((Below.refl _ _).alloc (Nat.le_refl _) _).trans (hb1.mono (by simp))
  have hs1 := hbel1.size
  have hlt1 : w.heap.size < w1.heap.size := (Array.getElem?_eq_some_iff.1 hZ1).1
  have HZ1 := Lib.hid hZ1
  have Hb1 := Lib.hid hbel1
  clear hb1 hZ1 hbel1
  go_wp2_with (with_reducible refine wpList_store_row rfl 67 (.tmp 7) (.tmp 14) rfl w1.heap.size (KA f (play f p)) ?r1 ?r2 67 _ (heap_alloc_new w1 _) ?r3 ?r4 ?r5 ?_)
  case r1 => rfl
  case r2 => rfl
  case r3 => rw [info67, KA_size]
  case r4 => rw [KA_size]; rfl
  case r5 => exact KA_one _ _
  have hB0 : ((w1.alloc (.cells ZA 67)).setRow w1.heap.size (KA f (play f p))).heap[w1.heap.size]? = some (.cells (KA f (play f p)) 67 (0, 0)) := setRow_heap _ _ _ _ _ _ (heap_alloc_new w1 _)
  have hZ0 : ((w1.alloc (.cells ZA 67)).setRow w1.heap.size (KA f (play f p))).heap[w.heap.size]? = some (.cells ZA 67 (0, 0)) := by
    rw [setRow_other _ _ _ _ (by omega), Below.heap_alloc _ _ _ hlt1]; exact HZ1.out
  have hb0 : Below w.heap.size w ((w1.alloc (.cells ZA 67)).setRow w1.heap.size (KA f (play f p))) := below_setRow (Hb1.out.alloc hs1 _) hs1 _
  have HB0 := Lib.hid hB0
  have HZ0 := Lib.hid hZ0
  have HH0 := Lib.hid hb0
  clear hB0 hZ0 hb0
  go_wp2_with fail
  go_loopw [20] (fun i wr => ∃ j : Nat, j ≤ m ∧ i = .int .i64 j ∧ wr.heap[w1.heap.size]? = some (.cells (KA f (play f (p ++ d.take j))) 67 (0, 0)) ∧ wr.heap[w.heap.size]? = some (.cells ZA 67 (0, 0)) ∧ Below w.heap.size w wr) (fun i _ => m - (intOf i).toNat)
  case atStart => exact ⟨0, Nat.zero_le _, rfl, by rw [List.take_zero, List.append_nil]; exact HB0.out, HZ0.out, HH0.out⟩
  case round =>
    obtain ⟨j, hj, rfl, hB, hZ, hbel⟩ := hrel
    have HBk := Lib.hid hB
    have HZk := Lib.hid hZ
    have hsz := hbel.size
    have hB1 : w1.heap.size < wr.heap.size := (Array.getElem?_eq_some_iff.1 hB).1
    clear hB hZ
    by_cases hlt : j < m
    · have h0 := hbel.cell (p := ⟨b, off2 + j * 2, none⟩) (World.block_lt_of_cell? w _ (Hc.out j hlt).1)
      have h1 := hbel.cell (p := ⟨b, off2 + j * 2 + 1, none⟩) (World.block_lt_of_cell? w _ (Hc.out j hlt).2)
      rw [(Hc.out j hlt).1] at h0
      rw [(Hc.out j hlt).2] at h1
      have hgc := gd_call Hgd.out (by rw [← Hm.out.2]; exact hlt)
      have HB2 := Lib.hid ((Below.heap_alloc wr (.cells #[.int .i64 (ca d j), .int .i64 (cb d j)] 56) _ hB1).trans HBk.out)
      go_wp2_with (with_reducible refine wpList_load_row rfl 67 (.tmp 7) rfl w1.heap.size ?q1 67 _ (0, 0) _ HB2.out Try.underlying67 rfl ?q3 ?_)
      case q1 => rfl
      case q3 => rw [info67, KA_size]
      go_wp2_with fail
      refine (behind_st f (play f (p ++ d.take j)) _ _ _ (play_small f (by omega) _) hgc.1 hgc.2.1 (by omega)).mono ?_
      rintro e w3 ⟨rfl, hb3⟩
      have hB3 : w3.heap[w1.heap.size]? = some (.cells (KA f (play f (p ++ d.take j))) 67 (0, 0)) := (hb3.block _ (by simp; omega)).trans HB2.out
      have hZ3 : w3.heap[w.heap.size]? = some (.cells ZA 67 (0, 0)) := (hb3.block _ (by simp; omega)).trans ((Below.heap_alloc wr _ _ (by omega)).trans HZk.out)
      have hbel3 : Below w.heap.size w w3 := (hbel.alloc hsz _).trans (hb3.mono (by simp; omega))
      have HB3 := Lib.hid hB3
      have HZ3 := Lib.hid hZ3
      have HH3 := Lib.hid hbel3
      clear hB3 hZ3 hbel3 hb3 hbel h0 h1
      go_wp2_with (with_reducible refine wpList_store_row rfl 67 (.tmp 7) (.tmp 26) rfl w1.heap.size (KA f (stp (play f (p ++ d.take j)) (ca d j, cb d j))) ?s1 ?s2 67 _ HB3.out ?s3 ?s4 ?s5 ?_)
      case s1 => rfl
      case s2 => rfl
      case s3 => rw [info67, KA_size]
      case s4 => rw [KA_size, KA_size]
      case s5 => exact KA_one _ _
      go_roundw
      case rel =>
        refine ⟨j + 1, by omega, by go_num, ?_, ?_, below_setRow HH3.out hs1 _⟩
        · rw [play_more f p d j (by rw [← Hm.out.2]; exact hlt)]
          exact setRow_heap _ _ _ _ _ _ HB3.out
        · rw [setRow_other _ _ _ _ (by omega)]
          exact HZ3.out
      case measure => simp [intOf]; omega
    · obtain rfl : j = m := by omega
      have hp : d.take j = d := List.take_of_length_le (by rw [← Hm.out.2]; exact Nat.le_refl _)
      rw [hp] at HBk
      have Hbel := Lib.hid hbel
      clear hlt hj hp hbel
      go_wp2_with (first
        | (with_reducible refine wpList_load_row rfl 67 (.tmp 7) rfl w1.heap.size ?u1 67 _ (0, 0) _ HBk.out Try.underlying67 rfl ?u3 ?_)
        | (with_reducible refine wpList_store_row rfl 67 (.tmp 6) (.tmp 28) rfl w.heap.size (KA f (play f (p ++ d))) ?v1 ?v2 67 _ HZk.out ?v3 ?v4 ?v5 ?_))
      any_goals first | rfl | (rw [info67, KA_size]; done) | (rw [KA_size]; rfl) | exact KA_one _ _
      refine bodyPost_ret (results_cell_row rfl _ _ w.heap.size 67 _ (0, 0) _ rfl (setRow_heap _ _ _ _ _ _ HZk.out) Try.underlying67 rfl ?_) rfl ⟨rfl, below_setRow Hbel.out (Nat.le_refl _) _⟩
      rw [info67, KA_size]

theorem without_any (ao : Option Addr) (cap : Nat) (f : Nat) (l : List (Int × Int)) (n k : Nat) (w : World) (Hn : Hid (n = l.length)) (hl : n ≤ 60) (hcap : n ≤ cap) (hk : k < n) (hg : gdB (f : Int) l = true) (hc : CallsAt w ao l) :
    Calls Try.prog 86 #[.int .i64 f, .slice ao n cap, .int .i64 k] w fun e w' => e = .returned (.agg (KA f (play f (less l k)))) ∧ Below w.heap.size w w' := by
  have hct := calls_take hc k
  rcases hc with h | ⟨b, off, rfl, hc⟩
  · subst h; have := Hn.out; simp at this; omega
  · by_cases hcc : cap = k + 1
    · refine without_at b off off cap f l (l.take k) (l.drop (k + 1)) n k (n - (k + 1)) w rfl rfl ⟨rfl, by rw [List.length_drop, ← Hn.out]⟩ Hn hl hcap hk hg (by rw [if_pos hcc]) hct ?_
      intro i hi; omega
    · refine without_at b off (off + (k + 1) * 2) cap f l (l.take k) (l.drop (k + 1)) n k (n - (k + 1)) w rfl rfl ⟨rfl, by rw [List.length_drop, ← Hn.out]⟩ Hn hl hcap hk hg (by rw [if_neg hcc]) hct ?_
      intro i hi
      exact calls_drop Hn.out (by rw [Hn.out]; exact hc) (k + 1) i (by rw [List.length_drop, ← Hn.out]; exact hi)
end Go.Proofs.Ytjmckdnjghnlbaa
