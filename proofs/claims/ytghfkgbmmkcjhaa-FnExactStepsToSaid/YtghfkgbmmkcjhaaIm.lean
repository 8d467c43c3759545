/- IdleMinutes, both sides. -/
import Derived.Test.YtghfkgbmmkcjhaaLb
namespace Go.Proofs.Ytghfkgbmmkcjhaa
open Go.ChangeShapes Go.WideShapes Go.ChangeAt Go.RowKit
set_option linter.unusedVariables false


/-- The sum of what is left up to L. -/
def smF (L : Int) (F : Int → Int) : Nat → Int
  | 0 => 0
  | k + 1 => smF L F k + (L - F (k : Int))
theorem smF_bd {L : Int} {F : Int → Int} {n : Nat} (hL : 0 ≤ L ∧ L ≤ 70) (hF : ∀ i : Nat, i < n → 0 ≤ F i ∧ F i ≤ 70) (k : Nat) (hk : k ≤ n) : -(70 * (k : Int)) ≤ smF L F k ∧ smF L F k ≤ 70 * (k : Int) := by
  induction k with
  | zero => exact ⟨by show -(70 * ((0 : Nat) : Int)) ≤ (0 : Int); omega, by show (0 : Int) ≤ 70 * ((0 : Nat) : Int); omega⟩
  | succ k ih =>
    have := ih (by omega)
    have := hF k (by omega)
    show _ ≤ smF L F k + (L - F k) ∧ smF L F k + (L - F k) ≤ _
    omega
theorem smF_congr {L : Int} {F G : Int → Int} {n : Nat} (h : ∀ i : Nat, i < n → F i = G i) : smF L F n = smF L G n := by
  induction n with
  | zero => rfl
  | succ k ih => show smF L F k + (L - F k) = smF L G k + (L - G k); rw [ih fun i hi => h i (by omega), h k (by omega)]
theorem la_av {d : Int} {Q : Nat} {l : List Snd} (h : laB d Q l = true) : ∀ i : Nat, i < Q → fillA d befA l i = av d l i ∧ 0 ≤ av d l i ∧ av d l i ≤ 70 := by
  obtain ⟨⟨D, rfl, hD1, hD10⟩, _, _, hv, _, _, _, _⟩ := la_in h
  intro i hi
  simp only [laB, Bool.and_eq_true, List.all_eq_true, List.mem_range, Int.toNat_natCast, bne_iff_ne, ne_eq] at h
  have := h.2 i hi
  rcases fill_av (d := (D : Int)) (by omega) (by omega) hv (i : Int) with ⟨_, e⟩ | ⟨e, h0, h3⟩
  · exact absurd e this
  · exact ⟨e, h0, h3⟩
def imR (d P : Int) (l : List Snd) : Int := if laB d P l then smF (laR d P l) (fun x => av d l x) P.toNat - (l.length : Int) else 0

theorem idle1 (p : Nat) (L x : Int) (w : World) (hL : 0 ≤ L ∧ L ≤ 70) (hx : 0 ≤ x ∧ x ≤ 70) (hc : w.cell? ⟨p, 0, none⟩ = some (.int .i64 L)) :
    Calls Try.prog 74 #[.int .i64 x, .pointer (some ⟨p, 0, none⟩)] w fun e w' => e = .returned (.int .i64 (L - x)) ∧ w = w' := by
  have hwr : IntKind.i64.wrap (L - x) = L - x := IntWalk.i64_in _ (by omega)
  go_enter Try.func74, Try.ntmps74
  go_wp2_with fail
  go_ret
  exact ⟨rfl, rfl⟩

set_option maxRecDepth 20000 in
theorem sumI_pos (g cap p : Nat) (F : Int → Int) (L : Int) (n : Nat) (w : World) (hn : n ≤ 40) (hL : 0 ≤ L ∧ L ≤ 70) (HF : Hid (∀ i : Nat, i < n → 0 ≤ F i ∧ F i ≤ 70)) (hp : w.cell? ⟨p, 0, none⟩ = some (.int .i64 L)) (Hc : Hid (∀ i : Nat, i < n → w.cell? ⟨g, i, none⟩ = some (.int .i64 (F i)))) :
    Calls Try.prog 73 #[.slice (some ⟨g, 0, none⟩) n cap, .func (.func 74) #[] #[.pointer (some ⟨p, 0, none⟩)]] w fun e w' => e = .returned (.int .i64 (smF L F n)) ∧ w = w' := by
  have HI := Lib.hid (fun x hx => idle1 p L x w hL hx hp)
  clear hp
  go_enter Try.func73, Try.ntmps73
  go_wp2_with fail
  go_loop [5, 10] (fun m i => ∃ k : Nat, k ≤ n ∧ i = .int .i64 k ∧ m = .int .i64 (smF L F k)) (fun _ i => n - (intOf i).toNat)
  case atStart => exact ⟨0, Nat.zero_le _, rfl, rfl⟩
  case round =>
    obtain ⟨k, hk, rfl, rfl⟩ := hrel
    by_cases h : k < n
    · have hcc := Hc.out k h
      have hp0 : (0 : Int) ≤ (k : Int) := by omega
      have hp1 : (k : Int) < (n : Int) := by omega
      have hfb := HF.out k h
      have hsb := smF_bd hL HF.out k (by omega)
      obtain ⟨x, hx⟩ : ∃ x, F k = x := ⟨_, rfl⟩
      obtain ⟨y, hy⟩ : ∃ y, smF L F k = y := ⟨_, rfl⟩
      have Hm : Hid (smF L F (k + 1) = y + (L - x)) := Lib.hid (by rw [← hx, ← hy]; rfl)
      rw [hx] at hcc hfb
      rw [hy] at hsb ⊢
      have hI := HI.out x hfb
      have HI1 := Lib.hid hI
      obtain ⟨z, hz⟩ : ∃ z, L - x = z := ⟨_, rfl⟩
      rw [hz] at HI1 Hm
      have hzb : IntKind.i64.wrap (y + z) = y + z := IntWalk.i64_in _ (by omega)
      clear hI hx hy hsb hfb hz
      go_wp2_with fail
      refine HI1.out.mono ?_
      rintro e w' ⟨rfl, rfl⟩
      go_wp2_with fail
      rw [← Hm.out]
      go_round
      case rel => exact ⟨k + 1, by omega, by go_num, rfl⟩
      case measure => simp [intOf]; omega
    · obtain rfl : k = n := by omega
      go_wp2_with fail
      go_ret
      exact ⟨rfl, rfl⟩

set_option maxHeartbeats 1600000 in
set_option maxRecDepth 20000 in
theorem implIM_any (w : World) (d P : Int) (ao : Option Addr) (cap : Nat) (l : List Snd) (n : Nat) (Hn : Hid (n = l.length)) (hn : n ≤ 1048576) (hcap : n ≤ cap) (hc : SendsAt w ao l) :
    Calls Try.prog 47 #[.int .i64 d, .int .i64 P, .slice ao n cap] w fun e w' => e = .returned (.tuple #[.int .i64 (imR d P l), .bool (laB d P l)]) ∧ Below w.heap.size w w' := by
  have HX := Lib.hid (implLA_any w d P ao cap l n Hn hn hcap hc)
  have HC := Lib.hid hc
  clear hc
  cases hA : laB d P l
  · have hR : imR d P l = 0 := by unfold imR; rw [hA]; rfl
    rw [hR]
    rw [hA] at HX
    clear hA hR
    go_enter Try.func47, Try.ntmps47
    go_wp2_with fail
    refine HX.out.mono ?_
    rintro e w1 ⟨rfl, hb1⟩
    have Hb := Lib.hid (hb1.alloc hb1.size (.cells #[.int .i64 (laR d P l)] 3))
    clear hb1
    go_wp2_with fail
    go_ret2
    exact ⟨rfl, Hb.out⟩
  · obtain ⟨_, ⟨Q, rfl, hQ1, hQ2⟩, h40, _, hars, g0, g1, _⟩ := la_in hA
    have hav := Lib.hid (la_av hA)
    have hR : imR d Q l = smF (laR d Q l) (fun x => av d l x) Q - (n : Int) := by
      unfold imR
      rw [hA, if_pos rfl, Int.toNat_natCast, ← Hn.out]
    rw [hR]
    rw [hA] at HX
    have HB := Lib.hid (fun u hu => aof_any u d Q ao cap l n Hn hn hcap (HC.out.kept hu))
    rw [hars] at HB
    obtain ⟨L, hL⟩ : ∃ x, laR d Q l = x := ⟨_, rfl⟩
    rw [hL] at HX g0 g1 ⊢
    have hn40 : n ≤ 40 := by rw [Hn.out]; exact h40
    obtain ⟨G, hG⟩ : ∃ G : Int → Int, (fun x => av d l x) = G := ⟨_, rfl⟩
    have HG : Hid (∀ i : Nat, i < Q → fillA d befA l i = G i ∧ 0 ≤ G i ∧ G i ≤ 70) := Lib.hid (fun i hi => by rw [← hG]; exact hav.out i hi)
    rw [hG]
    clear hA hR hars hL hav h40 hG
    go_enter Try.func47, Try.ntmps47
    go_wp2_with fail
    refine HX.out.mono ?_
    rintro e w1 ⟨rfl, hb1⟩
    have Hb1 := Lib.hid (hb1.alloc hb1.size (.cells #[.int .i64 L] 3))
    have hcl : (w1.alloc (.cells #[.int .i64 L] 3)).heap[w1.heap.size]? = some (.cells #[.int .i64 L] 3 (0, 0)) := heap_alloc_new _ _
    have HCl := Lib.hid hcl
    clear hb1 hcl
    go_wp2_with fail
    refine (HB.out _ Hb1.out).mono ?_
    rintro e w2 ⟨F, rfl, hF, hb2⟩
    have hs2 : w1.heap.size < w2.heap.size := by have := hb2.size; simp at this; omega
    have hrow : ((w2.alloc (.cells ZA 57)).setRow w2.heap.size (AA F)).heap[w2.heap.size]? = some (.cells (AA F) 57 (0, 0)) := setRow_heap _ _ _ _ _ _ (heap_alloc_new w2 _)
    have hcl : ((w2.alloc (.cells ZA 57)).setRow w2.heap.size (AA F)).heap[w1.heap.size]? = some (.cells #[.int .i64 L] 3 (0, 0)) :=
      (setRow_other _ _ _ _ (by omega)).trans ((Below.heap_alloc w2 _ _ hs2).trans ((hb2.block _ (Array.getElem?_eq_some_iff.1 HCl.out).1).trans HCl.out))
    rw [ZA_eq] at hrow hcl
    have hF2 : ∀ i : Nat, i < Q → F i = G i := fun i hi => by rw [hF trivial, (HG.out i hi).1]
    have hsum := sumI_pos w2.heap.size 40 w1.heap.size F L Q _ hQ2 ⟨g0, g1⟩ (Lib.hid (fun i hi => by rw [hF2 i hi]; exact (HG.out i hi).2)) (cell_of_row _ _ 0 _ _ _ hcl) (Lib.hid (fun i hi => by rw [cell_of_row _ _ _ _ _ _ hrow, AA_get F i (by omega)]))
    rw [smF_congr hF2] at hsum
    have HSM := Lib.hid hsum
    have hsb := smF_bd ⟨g0, g1⟩ (fun i hi => (HG.out i hi).2) Q (Nat.le_refl _)
    have Hb2 := Lib.hid (below_setRow ((Hb1.out.trans (hb2.mono Hb1.out.size)).alloc (Nat.le_trans Hb1.out.size hb2.size) (.cells (AA fun _ => 0) 57)) (Nat.le_trans Hb1.out.size hb2.size) (AA F))
    have hq0 : (0 : Int) ≤ (Q : Int) := by omega
    have hq1 : (Q : Int) ≤ 40 := by omega
    have hmf : ∀ (fn : Fn) (first cap : Array Value) (w : World), (Instr.makeFunc fn first cap).run Try.prog w = .ok (.func fn first cap) w := fun _ _ _ _ => rfl
    obtain ⟨y, hy⟩ : ∃ y, smF L G Q = y := ⟨_, rfl⟩
    have HY := Lib.hid hy
    rw [hy] at hsb HSM
    have hwr : IntKind.i64.wrap (y - (n : Int)) = y - (n : Int) := IntWalk.i64_in _ (by omega)
    clear hF hF2 hrow hcl hb2 hsum hy hs2
    go_wp2_with (refine wpList_store_row rfl 57 (.tmp 10) (.tmp 26) rfl w2.heap.size (AA F) ?_ ?_ 57 _ (heap_alloc_new w2 _) ?_ ?_ ?_ ?_)
    try any_goals first | exact AA_one _ | exact infoA2 | (rw [infoA, AA_size]; done) | (rw [AA_size]; rfl) | rfl
    refine HSM.out.mono ?_
    rintro e w' ⟨rfl, rfl⟩
    go_wp2_with fail
    go_ret2
    exact ⟨by rw [HY.out]; rfl, Hb2.out⟩

end Go.Proofs.Ytghfkgbmmkcjhaa
