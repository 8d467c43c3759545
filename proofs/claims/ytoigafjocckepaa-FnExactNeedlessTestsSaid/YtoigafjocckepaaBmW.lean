/- Lists of wires as bits: the model and the program. -/
import Derived.Test.YtoigafjocckepaaBm
import Derived.Shelf.Abstract
import Derived.Laws.StructEq
namespace Go.Proofs.Ytoigafjocckepaa
open Go.ChangeShapes Go.WideShapes Go.ChangeAt Go.RowKit
set_option linter.unusedVariables false


/-- A list of wires in the program. -/
abbrev wv (n : Nat) : Value := .agg #[.int .u16 (n : Int)]

theorem heap_new {w : World} {o : Obj} {n : Nat} (h : w.heap.size = n) : (w.alloc o).heap[n]? = some o := by subst h; exact heap_alloc_new w o

theorem bitOf_any (x : Nat) (hx : x < 10) (w : World) : Calls Try.prog 69 #[.int .i64 (x : Int)] w fun e w' => e = .returned (.int .u16 ((2 ^ x : Nat) : Int)) ∧ w = w' := by
  have hw := wrap_pow16 x hx
  go_enter Try.func69, Try.ntmps69
  go_wp2
  go_ret
  exact ⟨by first | rfl | (rw [hw]), rfl⟩

theorem sumOf_zero (ao : Option Addr) (cap : Nat) (w : World) :
    Calls Try.prog 75 #[.slice ao 0 cap, .func (.func 69) #[] #[]] w fun e w' => e = .returned (.int .u16 0) ∧ w = w' := by
  go_enter Try.func75, Try.ntmps75
  go_wp2_with fail
  go_rounds 1
  go_ret
  exact ⟨rfl, rfl⟩

set_option maxRecDepth 20000 in
theorem sumOf_pos (b off cap : Nat) (f : Int) (hf : f ≤ 10) (l : List Int) (n : Nat) (w : World) (Hn : Hid (n = l.length)) (Hr : Hid (risB f l = true))
    (Hc : Hid (∀ i, i < n → w.cell? ⟨b, off + i, none⟩ = some (.int .i64 (na l i)))) :
    Calls Try.prog 75 #[.slice (some ⟨b, off, none⟩) n cap, .func (.func 69) #[] #[]] w fun e w' => e = .returned (.int .u16 ((bw l : Nat) : Int)) ∧ w = w' := by
  have hlen := ris_len hf Hr.out
  have hn10 : n ≤ 10 := by have := Hn.out; omega
  have eg : ∀ args w, (callFunc 69 args).run Try.prog w = .ok (.enter 69 args) w := enters_of Try.func69 (by kernel_rfl) rfl
  clear hlen
  go_enter Try.func75, Try.ntmps75
  go_wp2_with fail
  go_loopw [5, 10] (fun v i wr => ∃ k : Nat, k ≤ n ∧ i = .int .i64 k ∧ v = .int .u16 ((bm l k : Nat) : Int) ∧ w = wr) (fun _ i _ => n - (intOf i).toNat)
  case atStart => exact ⟨0, Nat.zero_le _, rfl, rfl, rfl⟩
  case round =>
    obtain ⟨k, hk, rfl, rfl, rfl⟩ := hrel
    by_cases hlt : k < n
    · have h0 := Hc.out k hlt
      have hkl : k < l.length := by rw [← Hn.out]; exact hlt
      have hp := up_parts (ris_at Hr.out hkl)
      obtain ⟨x, hx⟩ := Int.eq_ofNat_of_zero_le hp.1
      have hx10 : x < 10 := by omega
      rw [hx] at h0
      have hlt1 := (bm_lt hf Hr.out k (by omega)).2
      have hlt2 := (bm_lt hf Hr.out (k + 1) (by omega)).2
      have hadd := bm_add hf Hr.out hkl
      rw [hx] at hadd
      simp only [Int.toNat_natCast] at hadd
      have Hadd : Hid (((bm l (k + 1) : Nat) : Int) = ((bm l k : Nat) : Int) + ((2 ^ x : Nat) : Int)) := by show _ = _; rw [hadd]; omega
      have hwr : IntKind.u16.wrap (((bm l k : Nat) : Int) + ((2 ^ x : Nat) : Int)) = ((bm l k : Nat) : Int) + ((2 ^ x : Nat) : Int) := by rw [IntKind.wrap_u16]; omega
      obtain ⟨P, hP⟩ : ∃ P : Int, ((2 ^ x : Nat) : Int) = P := ⟨_, rfl⟩
      have hB := fun W => bitOf_any x hx10 W
      rw [hP] at Hadd hwr
      obtain ⟨B, hB2⟩ : ∃ B : Int, ((bm l k : Nat) : Int) = B := ⟨_, rfl⟩
      rw [hB2] at Hadd hwr
      rw [hB2]
      simp only [hP] at hB
      clear hp hx hadd hlt1 hlt2 hP hB2
      go_wp2_with fail
      go_at_fn 69
      refine (hB _).mono ?_
      rintro e w' ⟨rfl, rfl⟩
      go_wp2_with fail
      go_roundw
      case rel => exact ⟨k + 1, by omega, by go_num, by rw [Hadd.out], by trivial⟩
      case measure => simp [intOf]; omega
    · obtain rfl : k = n := by omega
      have hb : bm l k = bw l := by unfold bw; rw [← Hn.out]
      rw [hb]
      go_wp2_with fail
      go_ret
      exact ⟨rfl, rfl⟩

theorem sumOf_any (ao : Option Addr) (cap : Nat) (f : Int) (hf : f ≤ 10) (l : List Int) (n : Nat) (w : World) (hn : n = l.length) (hr : risB f l = true) (hc : NumsAt w ao l) :
    Calls Try.prog 75 #[.slice ao n cap, .func (.func 69) #[] #[]] w fun e w' => e = .returned (.int .u16 ((bw l : Nat) : Int)) ∧ w = w' := by
  by_cases h0 : n = 0
  · subst h0
    obtain rfl : l = [] := List.eq_nil_of_length_eq_zero hn.symm
    exact sumOf_zero ao cap w
  · rcases hc with h | ⟨b, off, rfl, hc⟩
    · subst h; exact absurd hn h0
    · exact sumOf_pos b off cap f hf l n w hn hr (by rw [hn]; exact hc)

theorem wireListOf_any (ao : Option Addr) (cap : Nat) (f : Int) (hf : f ≤ 10) (l : List Int) (n : Nat) (w : World) (Hn : Hid (n = l.length)) (Hr : Hid (risB f l = true)) (hc : NumsAt w ao l) :
    Calls Try.prog 64 #[.slice ao n cap] w fun e w' => e = .returned (wv (bw l)) ∧ Below w.heap.size w w' := by
  go_enter Try.func64, Try.ntmps64
  go_wp2_with fail
  have hk : NumsAt (w.alloc (.cells #[.int .u16 0] 52)) ao l := hc.kept ((Below.refl w.heap.size w).alloc (Nat.le_refl _) _)
  have Hk := Lib.hid hk
  clear hk hc
  refine (sumOf_any ao cap f hf l n _ Hn.out Hr.out Hk.out).mono ?_
  rintro e w' ⟨rfl, rfl⟩
  go_wp2_with fail
  refine bodyPost_ret (results_cell_row rfl _ _ (w.heap.size) 52 _ (0, 0) _ rfl (heap_new (by simp)) Try.underlying52 rfl (by kernel_rfl)) rfl ⟨rfl, by go_grown⟩

theorem wiBits_zero (ao : Option Addr) (cap : Nat) (w : World) :
    Calls Try.prog 50 #[.slice ao 0 cap] w fun e w' => e = .returned (.int .i64 0) ∧ w = w' := by
  go_enter Try.func50, Try.ntmps50
  go_wp2_with fail
  go_rounds 1
  go_ret
  exact ⟨rfl, rfl⟩

set_option maxRecDepth 20000 in
theorem wiBits_pos (b off cap : Nat) (f : Int) (hf : f ≤ 10) (l : List Int) (n : Nat) (w : World) (Hn : Hid (n = l.length)) (Hr : Hid (risB f l = true))
    (Hc : Hid (∀ i, i < n → w.cell? ⟨b, off + i, none⟩ = some (.int .i64 (na l i)))) :
    Calls Try.prog 50 #[.slice (some ⟨b, off, none⟩) n cap] w fun e w' => e = .returned (.int .i64 ((bw l : Nat) : Int)) ∧ w = w' := by
  have hlen := ris_len hf Hr.out
  have hn10 : n ≤ 10 := by have := Hn.out; omega
  clear hlen
  go_enter Try.func50, Try.ntmps50
  go_wp2_with fail
  go_loopw [3, 8] (fun v i wr => ∃ k : Nat, k ≤ n ∧ i = .int .i64 k ∧ v = .int .i64 ((bm l k : Nat) : Int) ∧ w = wr) (fun _ i _ => n - (intOf i).toNat)
  case atStart => exact ⟨0, Nat.zero_le _, rfl, rfl, rfl⟩
  case round =>
    obtain ⟨k, hk, rfl, rfl, rfl⟩ := hrel
    by_cases hlt : k < n
    · have h0 := Hc.out k hlt
      have hkl : k < l.length := by rw [← Hn.out]; exact hlt
      have hp := up_parts (ris_at Hr.out hkl)
      obtain ⟨x, hx⟩ := Int.eq_ofNat_of_zero_le hp.1
      have hx10 : x < 10 := by omega
      rw [hx] at h0
      have hlt1 := (bm_lt hf Hr.out k (by omega)).2
      have hw1 := wrap_pow64 x (by omega)
      have hor := bits_or_int (bm l k) (2 ^ x) hlt1 (pow_small x hx10)
      have Hs : Hid (((bm l (k + 1) : Nat) : Int) = bits BinOp.or IntKind.i64 ((bm l k : Nat) : Int) (wrap64 ((2 : Int) ^ x))) := by
        show _ = _
        rw [hw1, hor]
        simp only [bm, hx, Int.toNat_natCast]
      clear hp hx hlt1 hw1 hor
      go_wp2_with fail
      go_roundw
      case rel => exact ⟨k + 1, by omega, by go_num, by rw [Hs.out]; try rfl, by trivial⟩
      case measure => simp [intOf]; omega
    · obtain rfl : k = n := by omega
      have hb : bm l k = bw l := by unfold bw; rw [← Hn.out]
      rw [hb]
      go_wp2_with fail
      go_ret
      exact ⟨rfl, rfl⟩

theorem wiBits_any (ao : Option Addr) (cap : Nat) (f : Int) (hf : f ≤ 10) (l : List Int) (n : Nat) (w : World) (hn : n = l.length) (hr : risB f l = true) (hc : NumsAt w ao l) :
    Calls Try.prog 50 #[.slice ao n cap] w fun e w' => e = .returned (.int .i64 ((bw l : Nat) : Int)) ∧ w = w' := by
  by_cases h0 : n = 0
  · subst h0
    obtain rfl : l = [] := List.eq_nil_of_length_eq_zero hn.symm
    exact wiBits_zero ao cap w
  · rcases hc with h | ⟨b, off, rfl, hc⟩
    · subst h; exact absurd hn h0
    · exact wiBits_pos b off cap f hf l n w hn hr (by rw [hn]; exact hc)

theorem without_any (a b : Nat) (ha : a < 1024) (hb : b < 1024) (w : World) :
    Calls Try.prog 76 #[wv a, wv b] w fun e w' => e = .returned (wv (clr a b)) ∧ Below w.heap.size w w' := by
  have hc := bits_clr a b ha hb
  go_enter Try.func76, Try.ntmps76
  go_wp2_with fail
  refine bodyPost_ret (results_cell_row rfl _ _ (w.heap.size + 1 + 1) 52 _ (0, 0) _ rfl (heap_new (by simp)) Try.underlying52 rfl (by kernel_rfl)) rfl ⟨rfl, by go_grown⟩

end Go.Proofs.Ytoigafjocckepaa
