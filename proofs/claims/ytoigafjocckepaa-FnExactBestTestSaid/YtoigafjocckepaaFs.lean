/- The lists that fit: the model. -/
import Derived.Test.YtoigafjocckepaaCf
namespace Go.Proofs.Ytoigafjocckepaa
open Go.ChangeShapes Go.WideShapes Go.ChangeAt Go.RowKit
set_option linter.unusedVariables false


theorem bw_bit {f : Int} {l : List Int} (h : risB f l = true) (x : Nat) : (bw l).testBit x = true ↔ ∃ j, j < l.length ∧ na l j = (x : Int) := by
  unfold bw
  rw [bm_has, List.any_eq_true]
  constructor
  · rintro ⟨j, hj, e⟩
    have hj2 := List.mem_range.1 hj
    have := (up_parts (ris_at h hj2)).1
    simp only [beq_iff_eq] at e
    exact ⟨j, hj2, by omega⟩
  · rintro ⟨j, hj, e⟩
    refine ⟨j, List.mem_range.2 hj, ?_⟩
    simp only [beq_iff_eq]; omega
theorem ris_lt {f : Int} {l : List Int} (h : risB f l = true) {i : Nat} : ∀ d, i + d + 1 < l.length → na l i < na l (i + d + 1)
  | 0, hd => by have := (up_parts (ris_at h (j := i + 1) hd)).2.2 (by omega); simpa using this
  | d + 1, hd => by
    have h1 := ris_lt h d (by omega : i + d + 1 < l.length)
    have h2 := (up_parts (ris_at h (j := i + d + 2) hd)).2.2 (by omega)
    have e : i + d + 2 - 1 = i + d + 1 := by omega
    rw [e] at h2
    have e2 : i + (d + 1) + 1 = i + d + 2 := by omega
    rw [e2]; omega
theorem ls_take {f : Int} {l : List Int} (h : risB f l = true) : ∀ k, ∃ c, c ≤ l.length ∧ lsT (bw l) k = l.take c ∧ (∀ j, j < c → na l j < (k : Int)) ∧ (∀ j, c ≤ j → j < l.length → (k : Int) ≤ na l j)
  | 0 => ⟨0, Nat.zero_le _, by simp [lsT], fun j hj => absurd hj (by omega), fun j _ hj => (up_parts (ris_at h hj)).1⟩
  | k + 1 => by
    obtain ⟨c, hc, e, h1, h2⟩ := ls_take h k
    by_cases hk : c < l.length ∧ na l c = (k : Int)
    · have hb : (bw l).testBit k = true := (bw_bit h k).2 ⟨c, hk.1, hk.2⟩
      refine ⟨c + 1, hk.1, ?_, fun j hj => ?_, fun j hj hjl => ?_⟩
      · rw [lsT_yes hb, e, List.take_succ_eq_append_getElem hk.1, na_get l c hk.1, hk.2]
      · by_cases hjc : j = c
        · subst hjc; omega
        · have := h1 j (by omega); omega
      · obtain ⟨d, rfl⟩ : ∃ d, j = c + d + 1 := ⟨j - c - 1, by omega⟩
        have := ris_lt h d hjl
        omega
    · have hb : (bw l).testBit k = false := by
        cases hbb : (bw l).testBit k
        · rfl
        · obtain ⟨j, hj, ej⟩ := (bw_bit h k).1 hbb
          exfalso
          by_cases hjc : j < c
          · have := h1 j hjc; omega
          · have h3 := h2 j (by omega) hj
            by_cases hje : j = c
            · exact hk ⟨by omega, by rw [← hje]; exact ej⟩
            · obtain ⟨d, rfl⟩ : ∃ d, j = c + d + 1 := ⟨j - c - 1, by omega⟩
              have h4 := ris_lt h d hj
              have h5 := h2 c (Nat.le_refl _) (by omega)
              omega
      refine ⟨c, hc, by rw [lsT_no hb, e], fun j hj => by have := h1 j hj; omega, fun j hj hjl => ?_⟩
      have h3 := h2 j hj hjl
      by_cases he : na l j = (k : Int)
      · exfalso
        have : (bw l).testBit k = true := (bw_bit h k).2 ⟨j, hjl, he⟩
        rw [hb] at this; cases this
      · omega
theorem ls_bw {f : Int} (hf : f ≤ 10) {l : List Int} (h : risB f l = true) : lsT (bw l) 10 = l := by
  obtain ⟨c, hc, e, h1, h2⟩ := ls_take h 10
  have : c = l.length := by
    by_cases hcl : c < l.length
    · have h3 := h2 c (Nat.le_refl _) hcl
      have h4 := (up_parts (ris_at h hcl)).2.1
      omega
    · omega
  rw [e, this, List.take_length]
def fsB (f : Int) (L : List (List Int)) (s : ByteArray) (m : Int) : Bool := askB f L s m && decide ((ftR f L s m).length ≤ 200)
def fsR (f : Int) (L : List (List Int)) (s : ByteArray) (m : Int) : List (List Int) := if fsB f L s m then fitL L s f.toNat m.toNat else []
theorem fitL_ris {f : Nat} (L : List (List Int)) (s : ByteArray) (m : Nat) (hf : f ≤ 10) : ∀ x, x ∈ fitL L s f m → risB (f : Int) x = true := by
  intro x hx
  unfold fitL at hx
  rw [List.mem_map] at hx
  obtain ⟨k, hk, rfl⟩ := hx
  have h := idx_lt hk
  rw [la_lenw hf] at h
  exact wL_row m h
theorem fitL_len {f : Nat} (hf : f ≤ 10) (L : List (List Int)) (s : ByteArray) (m : Nat) : (fitL L s f m).length = (fitM L s f m).length := by
  rw [fitM_fitL hf, List.length_map]
theorem fsR_length (f : Int) (L : List (List Int)) (s : ByteArray) (m : Int) : (fsR f L s m).length ≤ 1000 := by
  unfold fsR; split
  · rename_i h
    simp only [fsB, Bool.and_eq_true, decide_eq_true_eq] at h
    have h2 := h.2
    rw [ftR_fitL h.1, List.length_map] at h2
    omega
  · simp
theorem row_mem {L : List (List Int)} {i : Nat} (h : i < L.length) : row L i ∈ L := by rw [← row_get h]; exact List.getElem_mem h
theorem fsR_row (f : Int) (L : List (List Int)) (s : ByteArray) (m : Int) (i : Nat) : (row (fsR f L s m) i).length ≤ 1000 := by
  by_cases hi : i < (fsR f L s m).length
  · have hm := row_mem hi
    obtain ⟨r, hr⟩ : ∃ r, row (fsR f L s m) i = r := ⟨_, rfl⟩
    rw [hr] at hm ⊢
    unfold fsR at hm
    split at hm
    · rename_i h
      simp only [fsB, Bool.and_eq_true] at h
      have h1 := ask_parts h.1
      have h2 := wi_parts h1.1
      have h3 := ris_len (by omega) (fitL_ris L s m.toNat (by omega) r hm)
      omega
    · simp at hm
  · rw [row_none (by omega)]; simp

set_option maxHeartbeats 800000 in
set_option maxRecDepth 20000 in
theorem specFS_any (w : World) (f : Int) (ao : Option Addr) (cap : Nat) (L : List (List Int)) (n : Nat) (Hn : Hid (n = L.length)) (hn : n ≤ 1048576) (hL : Hid (∀ i, (row L i).length ≤ 1048576)) (Hc : RowsAt w ao L) (s : ByteArray) (hs : s.size ≤ 1048576) (m : Int) :
    Calls Try.prog 15 #[.int .i64 f, .slice ao n cap, .string s, .int .i64 m] w fun e w' => ∃ v X, e = .returned (.tuple #[v, .bool (fsB f L s m)]) ∧ OwnSS w' w.heap.size v X (fsR f L s m) ∧ Below w.heap.size w w' := by
  have HC := Lib.hid Hc
  have Hask := Lib.hid (wiAsked_any f ao cap L n s m w Hn hn hL HC hs)
  clear Hc
  cases hg : askB f L s m
  · have hB : fsB f L s m = false := by simp [fsB, hg]
    have hR : fsR f L s m = [] := by simp [fsR, hB]
    rw [hR, hB]
    rw [hg] at Hask
    clear hg hR hB
    go_enter Try.func15, Try.ntmps15
    go_wp2_with fail
    refine Hask.out.mono ?_
    rintro e w1 ⟨rfl, hb1⟩
    go_wp2_with fail
    go_ret2
    exact ⟨_, [], rfl, OwnSS.nil _ _, hb1⟩
  · have hp := ask_parts hg
    have hw := wi_parts hp.1
    rw [hg] at Hask
    have hft := ftR_fitL hg
    obtain ⟨F, rfl⟩ := Int.eq_ofNat_of_zero_le (a := f) (by omega)
    obtain ⟨M, rfl⟩ := Int.eq_ofNat_of_zero_le (a := m) hp.2.2.1.1
    have Hg := Lib.hid hp.1
    have hF : F ≤ 10 := by omega
    have hM : M ≤ 10 := by omega
    simp only [Int.toNat_natCast] at hft
    have hWF := fun W h => wiFit_any W ao cap L n s F M Hn Hg h hF hM
    have hRF : fsB (F : Int) L s (M : Int) = true → fsR (F : Int) L s (M : Int) = fitL L s F M := fun h => by simp [fsR, h]
    have hlb : (fitL L s F M).length ≤ 11264 := by rw [fitL_len hF]; exact fitM_len hF L s M hM
    obtain ⟨R, hR0⟩ : ∃ q, fitL L s F M = q := ⟨_, rfl⟩
    rw [hR0] at hft hRF hlb
    simp only [hR0] at hWF
    have HWF := Lib.hid hWF
    by_cases h200 : R.length ≤ 200
    · have hB : fsB (F : Int) L s (M : Int) = true := by simp only [fsB, hg, hft, List.length_map, h200, decide_true, Bool.and_self]
      rw [hB, hRF hB]
      have hgt : ¬ ((R.length : Nat) : Int) > 200 := by omega
      clear hg hp hw hft hR0 hB hRF hWF
      go_enter Try.func15, Try.ntmps15
      go_wp2_with fail
      refine Hask.out.mono ?_
      rintro e w1 ⟨rfl, hb1⟩
      have Hb1 := Lib.hid hb1
      clear hb1
      go_wp2_with fail
      refine (HWF.out w1 (HC.out.kept Hb1.out)).mono ?_
      rintro e w2 ⟨v, X, rfl, hO, hb2⟩
      have hs1 := Hb1.out.size
      have Hb2 := Lib.hid (Hb1.out.trans (hb2.mono hs1))
      have HO := Lib.hid (hO.weaken hs1)
      obtain ⟨a2, c2, rfl, _⟩ := hO.reads
      clear hb2 hO
      go_wp2_with fail
      go_ret2
      exact ⟨_, X, rfl, HO.out, Hb2.out⟩
    · have hB : fsB (F : Int) L s (M : Int) = false := by simp only [fsB, hft, List.length_map, h200, decide_false, Bool.and_false]
      have hR : fsR (F : Int) L s (M : Int) = [] := by simp [fsR, hB]
      rw [hB, hR]
      have hgt : ((R.length : Nat) : Int) > 200 := by omega
      clear hg hp hw hft hR0 hB hRF hWF hR
      go_enter Try.func15, Try.ntmps15
      go_wp2_with fail
      refine Hask.out.mono ?_
      rintro e w1 ⟨rfl, hb1⟩
      have Hb1 := Lib.hid hb1
      clear hb1
      go_wp2_with fail
      refine (HWF.out w1 (HC.out.kept Hb1.out)).mono ?_
      rintro e w2 ⟨v, X, rfl, hO, hb2⟩
      have hs1 := Hb1.out.size
      have Hb2 := Lib.hid (Hb1.out.trans (hb2.mono hs1))
      obtain ⟨a2, c2, rfl, _⟩ := hO.reads
      clear hb2 hO
      go_wp2_with fail
      go_ret2
      exact ⟨_, [], rfl, OwnSS.nil _ _, Hb2.out⟩

end Go.Proofs.Ytoigafjocckepaa
