/- Groups told anew: names in order, and where a number is. -/
import Derived.Test.YtoaobdeigangfaaGr
namespace Go.Proofs.Ytoaobdeigangfaa
open Go.ChangeShapes Go.WideShapes Go.ChangeAt Go.RowKit
set_option linter.unusedVariables false


/-- The two values have no block in common. -/
def Ap (u v : Value) : Prop := ∀ b, u.ownBlock = some b → v.ownBlock ≠ some b

theorem Ap.symm {u v : Value} (h : Ap u v) : Ap v u := fun b hb e => h b e hb

theorem Ap.kept {u v : Value} (ap : Ap u v) {w w' : World} {base : Nat} {e : TypeId} {size n : Nat} {xs : List Value} (h : w.ownsRow base e size v n xs) (gr : w.grownBy w' u.ownBlock) : w'.ownsRow base e size v n xs := by
  refine h.kept gr ?_
  cases hv : v.ownBlock with
  | none => exact .inl rfl
  | some b => exact .inr (fun e => ap b e.symm hv)

theorem Ap.grow {u v : Value} (ap : Ap u v) {w : World} {base : Nat} {e : TypeId} {size n : Nat} {xs : List Value} (h : w.ownsRow base e size v n xs) {g H m c : Nat} (hat : u.ownBlock = some g ∨ g = H) (hH : w.heap.size ≤ H) : Ap (.slice (some ⟨g, 0, none⟩) m c) v := by
  intro b hb hv
  obtain rfl : g = b := by simpa [Value.ownBlock] using hb
  rcases hat with h1 | h1
  · exact ap g h1 hv
  · have := (h.lt g hv).2; omega

theorem Ap.nil (v : Value) : Ap (.slice none 0 0) v := fun b hb => by cases hb

/-- Names in the order in which they first come, among the first k. -/
def ord (l : List Int) : Nat → List Int | 0 => [] | k + 1 => if na l k ∈ ord l k then ord l k else ord l k ++ [na l k]

theorem ord_nodup (l : List Int) : ∀ k, (ord l k).Nodup
  | 0 => List.nodup_nil
  | k + 1 => by
    have h := ord_nodup l k
    simp only [ord]
    split
    · exact h
    · rename_i hm
      exact List.nodup_append.2 ⟨h, by simp, fun a ha c hc => by simp at hc; subst hc; intro e; subst e; exact hm ha⟩

theorem ord_len (l : List Int) : ∀ k, (ord l k).length ≤ k
  | 0 => by simp [ord]
  | k + 1 => by
    have h := ord_len l k
    simp only [ord]
    split
    · omega
    · simp; omega

theorem ord_mem (l : List Int) (k : Nat) : na l k ∈ ord l (k + 1) := by
  simp only [ord]
  split
  · assumption
  · simp

/-- The groups told anew. -/
def anL (l : List Int) : List Int := (List.range l.length).map fun i => (((ord l (i + 1)).idxOf (na l i) : Nat) : Int)

theorem anL_length (l : List Int) : (anL l).length = l.length := by simp [anL]

theorem anL_at (l : List Int) (k : Nat) (h : k < l.length) : na (anL l) k = (((ord l (k + 1)).idxOf (na l k) : Nat) : Int) := by
  simp [anL, na, List.getD_eq_getElem?_getD, h]

/-- Where a number first comes, or -1. -/
def fi (l : List Int) (x : Int) : Int := if x ∈ l then ((l.idxOf x : Nat) : Int) else -1

theorem na_mem {l : List Int} {k : Nat} (h : k < l.length) : na l k ∈ l := by rw [← na_get l k h]; exact List.getElem_mem h

theorem idx_first {l : List Int} {k : Nat} {x : Int} (hk : k < l.length) (h : ∀ j, j < k → ¬ na l j = x) (hx : na l k = x) : l.idxOf x = k := by
  have hm : x ∈ l := by rw [← hx]; exact na_mem hk
  have hlt := List.idxOf_lt_length_of_mem hm
  have hat : na l (l.idxOf x) = x := by rw [← na_get l _ hlt]; exact List.getElem_idxOf hlt
  rcases Nat.lt_trichotomy (l.idxOf x) k with h1 | h1 | h1
  · exact absurd hat (h _ h1)
  · exact h1
  · have h2 := List.not_of_lt_findIdx (p := fun y => y == x) h1
    rw [na_get l k hk, hx] at h2
    simp at h2

theorem fi_found {l : List Int} {k : Nat} {x : Int} (hk : k < l.length) (h : ∀ j, j < k → ¬ na l j = x) (hx : na l k = x) : fi l x = k := by
  have hm : x ∈ l := by rw [← hx]; exact na_mem hk
  rw [fi, if_pos hm, idx_first hk h hx]

theorem fi_none {l : List Int} {x : Int} (h : ∀ j, j < l.length → ¬ na l j = x) : fi l x = -1 := by
  rw [fi, if_neg]
  intro hm
  obtain ⟨i, hi, e⟩ := List.getElem_of_mem hm
  exact h i hi (by rw [← na_get l i hi]; exact e)

theorem fi_mem {l : List Int} {x : Int} (h : x ∈ l) : fi l x = ((l.idxOf x : Nat) : Int) := by rw [fi, if_pos h]

set_option maxRecDepth 20000 in
theorem index_pos (b off cap : Nat) (l : List Int) (n : Nat) (x : Int) (w : World) (Hn : Hid (n = l.length)) (hn : n ≤ 1048576)
    (Hc : Hid (∀ i, i < n → w.cell? ⟨b, off + i, none⟩ = some (.int .i64 (na l i)))) :
    Calls Try.prog 70 #[.slice (some ⟨b, off, none⟩) n cap, .int .i64 x] w fun e w' => e = .returned (.int .i64 (fi l x)) ∧ w = w' := by
  go_enter Try.func70, Try.ntmps70
  go_wp2_with fail
  go_loop [8] (fun i => ∃ k : Nat, k ≤ n ∧ i = .int .i64 k ∧ Hid (∀ j, j < k → ¬ na l j = x)) (fun i => n - (intOf i).toNat)
  case atStart => exact ⟨0, Nat.zero_le _, rfl, fun j hj => absurd hj (by omega)⟩
  case round =>
    obtain ⟨k, hk, rfl, hno⟩ := hrel
    by_cases hlt : k < n
    · have h0 := Hc.out k hlt
      by_cases ht : na l k = x
      · have hy := Lib.hid (fi_found (by rw [← Hn.out]; exact hlt) hno.out ht)
        have hte : (x == na l k) = true := by rw [ht]; simp
        clear ht
        go_wp2_with fail
        go_ret
        exact ⟨ret_int hy.out.symm, rfl⟩
      · have hno2 : Hid (∀ j, j < k + 1 → ¬ na l j = x) := by
          intro j hj
          by_cases hjk : j = k
          · subst hjk; exact ht
          · exact hno.out j (by omega)
        have hte : (x == na l k) = false := by simp; exact fun e => ht e.symm
        clear ht
        go_wp2_with fail
        go_round
        case rel => exact ⟨k + 1, by omega, by go_num, hno2⟩
        case measure => simp [intOf]; omega
    · obtain rfl : k = n := by omega
      have hy := Lib.hid (fi_none (l := l) (x := x) (by rw [← Hn.out]; exact hno.out))
      go_wp2_with fail
      go_ret
      exact ⟨ret_int hy.out.symm, rfl⟩

theorem index_zero (ao : Option Addr) (cap : Nat) (x : Int) (w : World) :
    Calls Try.prog 70 #[.slice ao 0 cap, .int .i64 x] w fun e w' => e = .returned (.int .i64 (-1)) ∧ w = w' := by
  go_enter Try.func70, Try.ntmps70
  go_wp2_with fail
  go_rounds 1
  go_ret
  exact ⟨rfl, rfl⟩

theorem index_any (ao : Option Addr) (cap : Nat) (l : List Int) (n : Nat) (x : Int) (w : World) (Hn : Hid (n = l.length)) (hn : n ≤ 1048576) (hc : NumsAt w ao l) :
    Calls Try.prog 70 #[.slice ao n cap, .int .i64 x] w fun e w' => e = .returned (.int .i64 (fi l x)) ∧ w = w' := by
  rcases hc with h | ⟨b, off, rfl, hc⟩
  · subst h
    obtain rfl : n = 0 := Hn.out
    exact index_zero ao cap x w
  · exact index_pos b off cap l n x w Hn hn (by rw [Hn.out]; exact hc)

theorem contains_any (ao : Option Addr) (cap : Nat) (l : List Int) (n : Nat) (x : Int) (w : World) (Hn : Hid (n = l.length)) (hn : n ≤ 1048576) (hc : NumsAt w ao l) :
    Calls Try.prog 69 #[.slice ao n cap, .int .i64 x] w fun e w' => e = .returned (.bool (decide (x ∈ l))) ∧ w = w' := by
  by_cases hm : x ∈ l
  · obtain ⟨q, hq⟩ : ∃ q, q = l.idxOf x := ⟨_, rfl⟩
    have hf := fi_mem hm
    rw [← hq] at hf
    have hR : decide (x ∈ l) = true := by simpa using hm
    rw [hR]
    have Hf := Lib.hid hf
    clear hR hf hm hq
    go_enter Try.func69, Try.ntmps69
    go_wp2_with fail
    refine (index_any ao cap l n x w Hn hn hc).mono ?_
    rintro e w' ⟨rfl, rfl⟩
    rw [Hf.out]
    go_wp2_with fail
    go_ret
    exact ⟨by simp, rfl⟩
  · have hf : fi l x = -1 := by rw [fi, if_neg hm]
    have hR : decide (x ∈ l) = false := by simpa using hm
    rw [hR]
    have Hf := Lib.hid hf
    clear hR hf hm
    go_enter Try.func69, Try.ntmps69
    go_wp2_with fail
    refine (index_any ao cap l n x w Hn hn hc).mono ?_
    rintro e w' ⟨rfl, rfl⟩
    rw [Hf.out]
    go_wp2_with fail
    go_ret
    exact ⟨by simp, rfl⟩

/-- Among the first k names is this one. -/
def seen (ns' : List Int) (k : Nat) (x : Int) : Bool := (List.range k).any fun i => na ns' i == x

set_option maxRecDepth 20000 in
theorem l1Has_pos (b off cap : Nat) (l : List Int) (n : Nat) (x : Int) (w : World) (hn : n ≤ 1048576)
    (Hc : Hid (∀ i, i < n → w.cell? ⟨b, off + i, none⟩ = some (.int .i64 (na l i)))) :
    Calls Try.prog 68 #[.slice (some ⟨b, off, none⟩) n cap, .int .i64 x] w fun e w' => e = .returned (.bool (seen l n x)) ∧ w = w' := by
  go_enter Try.func68, Try.ntmps68
  go_wp2_with fail
  go_loop [9] (fun i => ∃ k : Nat, k ≤ n ∧ i = .int .i64 k ∧ Hid (∀ j, j < k → (na l j == x) = false)) (fun i => n - (intOf i).toNat)
  case atStart => exact ⟨0, Nat.zero_le _, rfl, fun j hj => absurd hj (by omega)⟩
  case round =>
    obtain ⟨k, hk, rfl, hno⟩ := hrel
    by_cases hlt : k < n
    · have h0 := Hc.out k hlt
      cases ht : (na l k == x)
      · have hno2 : Hid (∀ j, j < k + 1 → (na l j == x) = false) := by
          intro j hj
          by_cases hjk : j = k
          · subst hjk; exact ht
          · exact hno.out j (by omega)
        go_wp2_with fail
        go_round
        case rel => exact ⟨k + 1, by omega, by go_num, hno2⟩
        case measure => simp [intOf]; omega
      · have hyes : seen l n x = true := by
          unfold seen
          rw [List.any_eq_true]
          exact ⟨k, List.mem_range.2 hlt, ht⟩
        have Hyes := Lib.hid hyes
        clear hyes
        go_wp2_with fail
        go_ret
        exact ⟨ret_bool Hyes.out.symm, rfl⟩
    · obtain rfl : k = n := by omega
      have hnn : seen l k x = false := by
        unfold seen
        rw [List.any_eq_false]
        intro j hj
        simpa using hno.out j (List.mem_range.1 hj)
      have Hnn := Lib.hid hnn
      clear hnn
      go_wp2_with fail
      go_ret
      exact ⟨ret_bool Hnn.out.symm, rfl⟩

set_option maxRecDepth 20000 in
theorem l1Has_zero (ao : Option Addr) (cap : Nat) (x : Int) (w : World) :
    Calls Try.prog 68 #[.slice ao 0 cap, .int .i64 x] w fun e w' => e = .returned (.bool false) ∧ w = w' := by
  go_enter Try.func68, Try.ntmps68
  go_wp2_with fail
  go_rounds 1
  go_ret
  exact ⟨rfl, rfl⟩

end Go.Proofs.Ytoaobdeigangfaa
