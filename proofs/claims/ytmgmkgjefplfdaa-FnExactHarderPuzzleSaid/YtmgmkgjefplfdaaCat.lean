/- slices.Grow and Concat at clues. -/
import Derived.Test.YtmgmkgjefplfdaaLc
namespace Go.Proofs.Ytmgmkgjefplfdaa
open Go.ChangeShapes Go.WideShapes Go.ChangeAt Go.RowKit
set_option linter.unusedVariables false


set_option maxRecDepth 20000 in
theorem grow_any (n : Nat) (w : World) (hn : n ≤ 100000) :
    Calls Try.prog 108 #[.slice none 0 0, .int .i64 n] w fun e w' => ∃ v, e = .returned v ∧ w'.ownsRow w.heap.size 25 4 v 0 (ks []) ∧ Below w.heap.size w w' := by
  obtain ⟨i0, hi, hz0, hz1, hz2⟩ := info_parts infoCL
  have h1 : ¬ ((n : Int) < 0) := by omega
  by_cases h0 : n = 0
  · subst h0
    clear h1
    go_enter Try.func108, Try.ntmps108
    go_wp2
    go_ret
    exact ⟨_, rfl, World.ownsRow_nil _ _ _ _, Below.refl _ _⟩
  · have hbt : Try.t25.bytes = 32 := by kernel_rfl
    have f1 : ¬ 281474976710656 < Builtin.nextslicecap n 0 * Try.t25.bytes := by
      have := growslice_fits (need := n) (old := 0) (bytes := Try.t25.bytes) (by omega) (by rw [hbt]; omega)
      omega
    have f2 : (n : Int) * (Try.t25.bytes : Int) ≤ 281474976710656 := by rw [hbt]; omega
    have f3 : ¬ n * 4 = 0 := by omega
    have f4 : 0 < n := by omega
    have f5 : (n : Int) ≤ 9223372036854775807 := by omega
    have f6 : (0 : Int) ≤ (n : Int) := by omega
    have hGn : n ≤ grownCap w n 0 25 := grownCap_ge w _ _ _
    have hGm : grownCap w n 0 25 ≤ maxLen := grownCap_le_maxLen w n 0 _ (by unfold maxLen; omega)
    have HG : Hid (∃ G, (Question.appendCap n 0 25).cut (w.tape w.drawn (Question.appendCap n 0 25)) = G ∧ n ≤ G ∧ G ≤ maxLen) := Lib.hid ⟨_, rfl, hGn, hGm⟩
    clear hGn hGm hbt
    go_enter Try.func108, Try.ntmps108
    go_wp2_with fail
    obtain ⟨G, hG, hGn, hGm⟩ := HG.out
    rw [hG]
    go_ret
    refine ⟨_, rfl, ⟨by simp [ks], .inr ⟨w.heap.size, G, _, rfl, Nat.le_refl _, heap_alloc_new w _, Nat.zero_le _, hGm, ?_, by simp [ks]⟩⟩, ?_⟩
    · simp [Builtin.zeroCells]; omega
    · exact ((Below.refl _ _).alloc (Nat.le_refl _) _).drew
/-- Two lists, the first k of them. -/
def cat2 (A B : List Clu) : Nat → List Clu
  | 0 => []
  | 1 => A
  | _ + 2 => A ++ B
def pc2 (A B : List Clu) : Nat → List Clu
  | 0 => A
  | _ + 1 => B
theorem cat2_succ (A B : List Clu) (k : Nat) (h : k < 2) : cat2 A B (k + 1) = cat2 A B k ++ pc2 A B k := by
  obtain rfl | rfl : k = 0 ∨ k = 1 := by omega
  · rfl
  · rfl
theorem cat2_len (A B : List Clu) (k : Nat) : (cat2 A B k).length ≤ A.length + B.length := by
  match k with
  | 0 => simp [cat2]
  | 1 => simp [cat2]
  | k + 2 => simp [cat2]
set_option maxHeartbeats 1600000 in
set_option maxRecDepth 20000 in
theorem concat_any (w : World) (a b cap : Nat) (A B : List Clu) (O N C : Nat → Nat) (hcap : 2 ≤ cap)
    (HN : Hid (∀ k, k < 2 → N k = (pc2 A B k).length ∧ N k ≤ 20))
    (HS : Hid (∀ k, k < 2 → w.cell? ⟨a, k, none⟩ = some (.slice (some ⟨b, O k, none⟩) (N k) (C k))))
    (HA : Hid (∀ k, k < 2 → ∀ i, i < (pc2 A B k).length → Sat4 w b (O k) (pc2 A B k) i)) :
    Calls Try.prog 95 #[.slice (some ⟨a, 0, none⟩) 2 cap] w fun e w' => ∃ v, e = .returned v ∧ w'.ownsRow w.heap.size 25 4 v (A ++ B).length (ks (A ++ B)) ∧ Below w.heap.size w w' := by
  obtain ⟨i0, hi, hz0, hz1, hz2⟩ := info_parts infoCL
  have Hlen : Hid (∀ k, (cat2 A B k).length ≤ 40) := Lib.hid (fun k => by
    have h0 := HN.out 0 (by omega)
    have h1 := HN.out 1 (by omega)
    have h2 := cat2_len A B k
    have e0 : (pc2 A B 0).length = A.length := rfl
    have e1 : (pc2 A B 1).length = B.length := rfl
    omega)
  have hcap2 : (2 : Int) ≤ (cap : Int) := by omega
  go_enter Try.func95, Try.ntmps95
  go_wp2_with fail
  go_loopw [3, 11] (fun v i wr => ∃ k m : Nat, k ≤ 2 ∧ i = .int .i64 k ∧ v = .int .i64 (m : Int) ∧ Hid (m = (cat2 A B k).length) ∧ Below w.heap.size w wr) (fun _ i _ => 2 - (intOf i).toNat)
  case atStart => exact ⟨0, 0, by omega, rfl, rfl, Lib.hid rfl, Below.refl _ _⟩
  case round =>
    obtain ⟨k, m, hk, rfl, rfl, HM, hbel⟩ := hrel
    have hm40 : m ≤ 40 := by rw [HM.out]; exact Hlen.out k
    by_cases hlt : k < 2
    · have h0 := (hbel.cell (p := ⟨a, k, none⟩) (World.block_lt_of_cell? w _ (HS.out k hlt))).trans (HS.out k hlt)
      have hk0 : (0 : Int) ≤ k := by omega
      have hk2 : (k : Int) < 2 := by omega
      obtain ⟨q, hq⟩ : ∃ q, N k = q := ⟨_, rfl⟩
      have hNk := HN.out k hlt
      rw [hq] at h0 hNk
      have Hsucc : Hid (m + q = (cat2 A B (k + 1)).length) := Lib.hid (by rw [cat2_succ A B k hlt, List.length_append, ← HM.out, hNk.1])
      have hq20 := hNk.2
      have hd : decide ((m : Int) + (q : Int) < 0) = false := by simp only [decide_eq_false_iff_not]; omega
      clear hNk hq HM
      go_wp2_with fail
      go_roundw
      case rel => exact ⟨k + 1, m + q, by omega, by go_num, by go_num, Hsucc, hbel⟩
      case measure => simp [intOf]; omega
    · have hs := hbel.size
      clear HM
      go_wp2_with fail
      refine (grow_any _ wr (by omega)).mono ?_
      rintro e w1 ⟨v0, rfl, own0, hb1⟩
      have Hown0 := Lib.hid (own_base hs own0)
      have hbel1 : Below w.heap.size w w1 := hbel.trans (hb1.mono hs)
      clear own0 hb1 hbel hk
      go_wp2_with fail
      go_loopw [6, 27] (fun v i wr => ∃ k m : Nat, k ≤ 2 ∧ i = .int .i64 k ∧ Hid (m = (cat2 A B k).length) ∧ wr.ownsRow w.heap.size 25 4 v m (ks (cat2 A B k)) ∧ Below w.heap.size w wr) (fun _ i _ => 2 - (intOf i).toNat)
      case atStart => exact ⟨0, 0, by omega, rfl, Lib.hid rfl, Hown0.out, hbel1⟩
      case round =>
        obtain ⟨k, m, hk, rfl, HM, hor, hbel⟩ := hrel
        have hm40 : m ≤ 40 := by rw [HM.out]; exact Hlen.out k
        by_cases hlt : k < 2
        · have h0 := (hbel.cell (p := ⟨a, k, none⟩) (World.block_lt_of_cell? w _ (HS.out k hlt))).trans (HS.out k hlt)
          have hs := hbel.size
          have hk0 : (0 : Int) ≤ k := by omega
          have hk2 : (k : Int) < 2 := by omega
          have hNk := HN.out k hlt
          have HAk := Lib.hid (clues_news (fun i hi => (HA.out k hlt i hi).kept hbel))
          have Hcs := Lib.hid (cat2_succ A B k hlt)
          have HLn : Hid ((ks (pc2 A B k)).length = N k * 4) := Lib.hid (by rw [ks_length, hNk.1])
          obtain ⟨q, hq⟩ : ∃ q, N k = q := ⟨_, rfl⟩
          rw [hq] at h0 hNk HLn
          have hq20 := hNk.2
          have Hq := Lib.hid hNk.1
          obtain ⟨p, hp⟩ : ∃ p, pc2 A B k = p := ⟨_, rfl⟩
          rw [hp] at HAk Hcs HLn Hq
          obtain ⟨c, hc⟩ : ∃ c, C k = c := ⟨_, rfl⟩
          obtain ⟨o, ho⟩ : ∃ o, O k = o := ⟨_, rfl⟩
          rw [hc, ho] at h0
          rw [ho] at HAk
          have Hor := Lib.hid hor
          have Hbel := Lib.hid hbel
          clear hor hbel hNk hq hp hc ho
          go_wp2_with (at_builtin; refine wpList_append_own _ rfl _ _ 33 rfl w.heap.size 25 i0 (.agg #[.int .i64 0, .int .i64 0, .int .i64 0, .int .i64 0]) 4 32 Try.underlying33 hi hz0 hz1 hz2 rfl (by omega) _ m (ks (cat2 A B k)) rfl Hor.out ⟨b, o, none⟩ q c (ks p) rfl HLn.out HAk.out (ks_one _) (by unfold maxLen; omega) (by omega) hs ?_)
          intro v1 w2 own1 gr1 _
          have Hown : Hid (w2.ownsRow w.heap.size 25 4 v1 (m + q) (ks (cat2 A B (k + 1)))) := Lib.hid (by rw [Hcs.out, ks_append]; exact own1)
          have Hb2 := Lib.hid (Hbel.out.grown gr1 hs (fun b hb => (Hor.out.lt b hb).1))
          have HM2 : Hid (m + q = (cat2 A B (k + 1)).length) := Lib.hid (by rw [Hcs.out, List.length_append, ← HM.out, ← Hq.out])
          clear own1 gr1 h0
          go_wp2_with fail
          go_roundw
          case rel => exact ⟨k + 1, m + q, by omega, by go_num, HM2, Hown.out, Hb2.out⟩
          case measure => simp [intOf]; omega
        · have hk2 : k = 2 := by omega
          subst hk2
          have Hor : Hid (wr.ownsRow w.heap.size 25 4 u6 (A ++ B).length (ks (A ++ B))) := Lib.hid (by have h := hor; rw [HM.out] at h; exact h)
          clear hor
          go_wp2_with fail
          go_ret
          exact ⟨_, rfl, Hor.out, hbel⟩
def two (a b : Nat) : Nat → Nat
  | 0 => a
  | _ + 1 => b
theorem concat_less (w : World) (a b off off2 c1 c2 n k : Nat) (l : List Clu) (Hn : Hid (n = l.length)) (hk : k < n) (hn : n ≤ 20)
    (h0 : w.cell? ⟨a, 0, none⟩ = some (.slice (some ⟨b, off, none⟩) k c1)) (h1 : w.cell? ⟨a, 1, none⟩ = some (.slice (some ⟨b, off2, none⟩) (n - (k + 1)) c2))
    (hc : ∀ i, i < n → Sat4 w b off l i) (hoff : n - (k + 1) = 0 ∨ off2 = off + (k + 1) * 4) :
    Calls Try.prog 95 #[.slice (some ⟨a, 0, none⟩) 2 2] w fun e w' => ∃ v, e = .returned v ∧ w'.ownsRow w.heap.size 25 4 v (n - 1) (ks (less l k)) ∧ Below w.heap.size w w' := by
  have hn2 := Hn.out
  refine (concat_any w a b 2 (l.take k) (l.drop (k + 1)) (two off off2) (two k (n - (k + 1))) (two c1 c2) (Nat.le_refl _) ?_ ?_ ?_).mono ?_
  · intro q hq
    obtain rfl | rfl : q = 0 ∨ q = 1 := by omega
    · exact ⟨by show k = (l.take k).length; rw [List.length_take]; omega, by show k ≤ 20; omega⟩
    · exact ⟨by show n - (k + 1) = (l.drop (k + 1)).length; rw [List.length_drop]; omega, by show n - (k + 1) ≤ 20; omega⟩
  · intro q hq
    obtain rfl | rfl : q = 0 ∨ q = 1 := by omega
    · exact h0
    · exact h1
  · intro q hq
    obtain rfl | rfl : q = 0 ∨ q = 1 := by omega
    · intro i hi
      have hi2 : i < (l.take k).length := hi
      rw [List.length_take] at hi2
      exact (hc i (by omega)).take (by omega)
    · exact tail_cells hn2 hoff hc
  · rintro e w' ⟨v, rfl, own, hb⟩
    have hl : (l.take k ++ l.drop (k + 1)).length = n - 1 := by rw [show l.take k ++ l.drop (k + 1) = less l k from rfl, less_len (by omega)]; omega
    rw [hl] at own
    exact ⟨v, rfl, own, hb⟩

end Go.Proofs.Ytmgmkgjefplfdaa
