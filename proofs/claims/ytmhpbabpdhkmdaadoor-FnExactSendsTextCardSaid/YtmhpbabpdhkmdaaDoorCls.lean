/- Sends that can be told: the model. -/
import Derived.Test.YtmhpbabpdhkmdaaDoorSndM
namespace Go.Proofs.YtmhpbabpdhkmdaaDoor
open Go.ChangeShapes Go.WideShapes Go.ChangeAt Go.RowKit
set_option linter.unusedVariables false


def miB (x : Int) : Bool := decide (0 ≤ x ∧ x ≤ 60)
theorem mi_at {x : Int} (h : miB x = true) : 0 ≤ x ∧ x ≤ 60 := by simpa [miB] using h
/-- A send with numbers that can be told. -/
def ok1 (q : Snd) : Bool := miB q.1 && (miB q.2.1 && miB q.2.2)
def smB (l : List Snd) : Bool := decide (l.length ≤ 40) && l.all ok1
def sq (l : List Snd) (k : Nat) : Snd := (sf l k, st l k, sm l k)
theorem okl_no {l : List Snd} {k : Nat} (h : k < l.length) (hk : ok1 (sq l k) = false) : smB l = false := by
  have : l.all ok1 = false := by
    rw [List.all_eq_false]
    exact ⟨l[k], List.getElem_mem h, by rw [s_get l k h]; simpa [sq] using hk⟩
  rw [smB, this, Bool.and_false]
theorem okl_yes {l : List Snd} (h0 : l.length ≤ 40) (h : ∀ k, k < l.length → ok1 (sq l k) = true) : smB l = true := by
  have : l.all ok1 = true := by
    rw [List.all_eq_true]
    intro q hq
    obtain ⟨k, hk, rfl⟩ := List.getElem_of_mem hq
    rw [s_get l k hk]
    exact h k hk
  rw [smB, this]; simpa using h0
theorem okl_long {l : List Snd} (h0 : 40 < l.length) : smB l = false := by
  rw [smB, decide_eq_false (by omega), Bool.false_and]
theorem okl_at {l : List Snd} (h : smB l = true) : l.length ≤ 40 ∧ ∀ k, k < l.length → ok1 (sq l k) = true := by
  simp only [smB, Bool.and_eq_true, decide_eq_true_eq] at h
  refine ⟨h.1, fun k hk => ?_⟩
  have := List.all_eq_true.1 h.2 _ (List.getElem_mem hk)
  rw [s_get l k hk] at this
  exact this
theorem ok1_at {q : Snd} (h : ok1 q = true) : (0 ≤ q.1 ∧ q.1 ≤ 60) ∧ (0 ≤ q.2.1 ∧ q.2.1 ≤ 60) ∧ (0 ≤ q.2.2 ∧ q.2.2 ≤ 60) := by
  simp only [ok1, Bool.and_eq_true] at h
  exact ⟨mi_at h.1, mi_at h.2.1, mi_at h.2.2⟩
set_option maxRecDepth 20000 in
theorem l1In_any (x lo hi : Int) (w : World) : Calls Tryd.prog 35 #[.int .i64 x, .int .i64 lo, .int .i64 hi] w fun e w' => e = .returned (.bool (decide (lo ≤ x ∧ x ≤ hi))) ∧ w = w' := by
  by_cases h1 : lo ≤ x
  · by_cases h2 : x ≤ hi
    · rw [show decide (lo ≤ x ∧ x ≤ hi) = true by simp [h1, h2]]
      go_enter Tryd.func35, Tryd.ntmps35
      go_wp2
      go_ret
      exact ⟨by first | rfl | (simp; done) | (simp; omega), rfl⟩
    · rw [show decide (lo ≤ x ∧ x ≤ hi) = false by simp [h2]]
      have hd : decide (x ≤ hi) = false := by simpa using h2
      go_enter Tryd.func35, Tryd.ntmps35
      go_wp2
      go_ret
      exact ⟨by first | rfl | (simp; done) | (simp; omega), rfl⟩
  · rw [show decide (lo ≤ x ∧ x ≤ hi) = false by simp [h1]]
    have hd : decide (lo ≤ x) = false := by simpa using h1
    go_enter Tryd.func35, Tryd.ntmps35
    go_wp2
    go_ret
    exact ⟨rfl, rfl⟩

set_option maxRecDepth 20000 in
theorem isMinute_any (x : Int) (w : World) : Calls Tryd.prog 17 #[.int .i64 x] w fun e w' => e = .returned (.bool (miB x)) ∧ w = w' := by
  unfold miB
  by_cases h1 : 0 ≤ x
  · by_cases h2 : x ≤ 60
    · rw [show decide (0 ≤ x ∧ x ≤ 60) = true by simp [h1, h2]]
      go_enter Tryd.func17, Tryd.ntmps17
      go_wp2
      go_ret
      exact ⟨by first | rfl | (simp; done) | (simp; omega), rfl⟩
    · rw [show decide (0 ≤ x ∧ x ≤ 60) = false by simp [h2]]
      have hd : decide (x ≤ 60) = false := by simpa using h2
      go_enter Tryd.func17, Tryd.ntmps17
      go_wp2
      go_ret
      exact ⟨by first | rfl | (simp; done) | (simp; omega), rfl⟩
  · rw [show decide (0 ≤ x ∧ x ≤ 60) = false by simp [h1]]
    have hd : decide (0 ≤ x) = false := by simpa using h1
    go_enter Tryd.func17, Tryd.ntmps17
    go_wp2
    go_ret
    exact ⟨by first | rfl | (simp; done) | (simp; omega), rfl⟩

def inV (lo hi : Int) (v : Nat → Int) (k : Nat) : Bool := (List.range k).all fun i => decide (lo ≤ v i ∧ v i ≤ hi)
set_option maxRecDepth 20000 in
theorem l1All_pos (b off cap : Nat) (v : Nat → Int) (n : Nat) (lo hi : Int) (w : World) (hn : n ≤ 1048576)
    (Hc : Hid (∀ i, i < n → w.cell? ⟨b, off + i, none⟩ = some (.int .i64 (v i)))) :
    Calls Tryd.prog 24 #[.slice (some ⟨b, off, none⟩) n cap, .int .i64 lo, .int .i64 hi] w fun e w' => e = .returned (.bool (inV lo hi v n)) ∧ w = w' := by
  go_enter Tryd.func24, Tryd.ntmps24
  go_wp2_with fail
  go_loop [11] (fun i => ∃ k : Nat, k ≤ n ∧ i = .int .i64 k ∧ Hid (∀ j, j < k → decide (lo ≤ v j ∧ v j ≤ hi) = true)) (fun i => n - (intOf i).toNat)
  case atStart => exact ⟨0, Nat.zero_le _, rfl, fun j hj => absurd hj (by omega)⟩
  case round =>
    obtain ⟨k, hk, rfl, hall⟩ := hrel
    by_cases hlt : k < n
    · have h0 := Hc.out k hlt
      go_wp2_with fail
      refine (l1In_any (v k) lo hi w).mono ?_
      rintro e w' ⟨rfl, rfl⟩
      cases ht : decide (lo ≤ v k ∧ v k ≤ hi)
      · have hno : inV lo hi v n = false := by
          unfold inV
          rw [List.all_eq_false]
          exact ⟨k, List.mem_range.2 hlt, by simp [ht]⟩
        have Hno := Lib.hid hno
        clear hno ht
        go_wp2_with fail
        go_ret
        exact ⟨ret_bool Hno.out.symm, rfl⟩
      · have hall2 : Hid (∀ j, j < k + 1 → decide (lo ≤ v j ∧ v j ≤ hi) = true) := by
          intro j hj
          by_cases hjk : j = k
          · subst hjk; exact ht
          · exact hall.out j (by omega)
        clear ht
        go_wp2_with fail
        go_round
        case rel => exact ⟨k + 1, by omega, by go_num, hall2⟩
        case measure => simp [intOf]; omega
    · obtain rfl : k = n := by omega
      have hyes : inV lo hi v k = true := by
        unfold inV
        rw [List.all_eq_true]
        exact fun j hj => hall.out j (List.mem_range.1 hj)
      have Hyes := Lib.hid hyes
      clear hyes
      go_wp2_with fail
      go_ret
      exact ⟨ret_bool Hyes.out.symm, rfl⟩
theorem l1All3 (w : World) (g cap : Nat) (x y z : Int) (hc : w.heap[g]? = some (.cells #[.int .i64 x, .int .i64 y, .int .i64 z] 3 (0, 0))) :
    Calls Tryd.prog 24 #[.slice (some ⟨g, 0, none⟩) 3 cap, .int .i64 0, .int .i64 60] w fun e w' => e = .returned (.bool (ok1 (x, y, z))) ∧ w = w' := by
  have h := l1All_pos g 0 cap (fun i => if i = 0 then x else if i = 1 then y else z) 3 0 60 w (by omega) (Lib.hid fun i hi => by
    rcases (show i = 0 ∨ i = 1 ∨ i = 2 by omega) with rfl | rfl | rfl
    · exact cell_of_row _ g 0 _ _ _ hc
    · exact cell_of_row _ g 1 _ _ _ hc
    · exact cell_of_row _ g 2 _ _ _ hc)
  have e : inV 0 60 (fun i => if i = 0 then x else if i = 1 then y else z) 3 = ok1 (x, y, z) := by
    simp [inV, ok1, miB, List.range_succ, Bool.and_assoc]
  rw [e] at h
  exact h
set_option maxRecDepth 20000 in
theorem deSome_pos (b off cap : Nat) (l : List Snd) (n : Nat) (w : World) (Hn : Hid (n = l.length)) (hn : n ≤ 40)
    (Hc : Hid (∀ i, i < n → Sat3 w b off l i)) :
    Calls Tryd.prog 14 #[.slice (some ⟨b, off, none⟩) n cap] w fun e w' => e = .returned (.bool (smB l)) ∧ Below w.heap.size w w' := by
  go_enter Tryd.func14, Tryd.ntmps14
  go_wp2_with fail
  go_loopw [10] (fun i wr => ∃ k : Nat, k ≤ n ∧ i = .int .i64 k ∧ Hid (∀ j, j < k → ok1 (sq l j) = true) ∧ Below w.heap.size w wr) (fun i _ => n - (intOf i).toNat)
  case atStart => exact ⟨0, Nat.zero_le _, rfl, fun j hj => absurd hj (by omega), Below.refl _ _⟩
  case round =>
    obtain ⟨k, hk, rfl, hall, hbel⟩ := hrel
    have hsz := hbel.size
    by_cases hlt : k < n
    · obtain ⟨hz0', hz1', hz2'⟩ := (Hc.out k hlt).kept hbel
      have HY : Hid (ok1 (sq l k) = true → Hid (∀ j, j < k + 1 → ok1 (sq l j) = true)) := Lib.hid fun ht => Lib.hid fun j hj => by
          by_cases hjk : j = k
          · subst hjk; exact ht
          · exact hall.out j (by omega)
      have HN : Hid (ok1 (sq l k) = false → smB l = false) := Lib.hid fun ht => okl_no (by rw [← Hn.out]; exact hlt) ht
      unfold sq at HY HN
      obtain ⟨x, hx⟩ : ∃ x, sf l k = x := ⟨_, rfl⟩
      obtain ⟨y, hy⟩ : ∃ y, st l k = y := ⟨_, rfl⟩
      obtain ⟨z, hz⟩ : ∃ z, sm l k = z := ⟨_, rfl⟩
      rw [hx] at HY HN hz0'
      rw [hy] at HY HN hz1'
      rw [hz] at HY HN hz2'
      clear hx hy hz
      have hb0 : (0 : Int) ≤ k := by omega
      have hb1 : (k : Int) < n := by omega
      have hnw := heap_alloc_new (wr.alloc (.cells #[.int .i64 x, .int .i64 y, .int .i64 z] 37)) (.cells #[.int .i64 x, .int .i64 y, .int .i64 z] 3)
      rw [show (wr.alloc (.cells #[.int .i64 x, .int .i64 y, .int .i64 z] 37)).heap.size = wr.heap.size + 1 by simp] at hnw
      have HL := Lib.hid (l1All3 _ (wr.heap.size + 1) 3 x y z hnw)
      clear hnw
      go_wp2_with fail
      refine HL.out.mono ?_
      rintro e w' ⟨rfl, rfl⟩
      have Hb := Lib.hid (((hbel.alloc hsz (.cells #[.int .i64 x, .int .i64 y, .int .i64 z] 37)).alloc (by simp; omega) (.cells #[.int .i64 x, .int .i64 y, .int .i64 z] 3)))
      cases ht : ok1 (x, y, z)
      · have Hno := Lib.hid (HN.out ht)
        clear ht
        go_wp2_with fail
        go_ret
        exact ⟨ret_bool Hno.out.symm, Hb.out⟩
      · have hall2 := HY.out ht
        clear ht
        go_wp2_with fail
        go_roundw
        case rel => exact ⟨k + 1, by omega, by go_num, hall2, Hb.out⟩
        case measure => simp [intOf]; omega
    · obtain rfl : k = n := by omega
      have hR : smB l = true := okl_yes (by rw [← Hn.out]; exact hn) (fun j hj => hall.out j (by rw [Hn.out]; exact hj))
      have HR := Lib.hid hR
      clear hR
      go_wp2_with fail
      go_ret
      exact ⟨ret_bool HR.out.symm, hbel⟩
theorem deSome_any (ao : Option Addr) (cap : Nat) (l : List Snd) (n : Nat) (w : World) (Hn : Hid (n = l.length)) (hm : n ≤ 1048576) (hc : SendsAt w ao l) :
    Calls Tryd.prog 14 #[.slice ao n cap] w fun e w' => e = .returned (.bool (smB l)) ∧ Below w.heap.size w w' := by
  by_cases h40 : n ≤ 40
  · rcases hc with rfl | ⟨b, off, rfl, hc⟩
    · obtain rfl : n = 0 := Hn.out
      have e : smB [] = true := rfl
      rw [e]
      go_enter Tryd.func14, Tryd.ntmps14
      go_wp2_with fail
      go_rounds 1
      go_ret
      exact ⟨rfl, Below.refl _ _⟩
    · exact deSome_pos b off cap l n w Hn h40 (by rw [Hn.out]; exact hc)
  · have e := okl_long (l := l) (by rw [← Hn.out]; omega)
    rw [e]
    have hbig : (40 : Int) < (n : Int) := by omega
    clear e
    go_enter Tryd.func14, Tryd.ntmps14
    go_wp2_with fail
    go_ret
    exact ⟨rfl, Below.refl _ _⟩

end Go.Proofs.YtmhpbabpdhkmdaaDoor
