/- The text of calls: the model. -/
import Derived.Test.YtjldfdaaoeomdaaDoorNum
import Derived.Test.YtjldfdaaoeomdaaDoorCGood
import Derived.Lib.Join
namespace Go.Proofs.YtjldfdaaoeomdaaDoor
open Go.ChangeShapes Go.WideShapes Go.ChangeAt Go.RowKit
set_option linter.unusedVariables false


/-- The text of the first k. -/
def tx (q : Int × Int → List UInt8) (l : List (Int × Int)) : Nat → List UInt8
  | 0 => []
  | k + 1 => (if k = 0 then [] else tx q l k ++ [45]) ++ q (ca l k, cb l k)

theorem tx_join (q : Int × Int → List UInt8) (l : List (Int × Int)) : ∀ k, k ≤ l.length → tx q l k = Lib.join ((l.take k).map q) [45]
  | 0, _ => by simp [tx, Lib.join_nil]
  | k + 1, h => by
    have ih := tx_join q l k (by omega)
    have hk : l.take (k + 1) = l.take k ++ [(ca l k, cb l k)] := by rw [List.take_succ_eq_append_getElem (by omega), ca_cb]
    rw [hk, List.map_append, List.map_cons, List.map_nil]
    by_cases h0 : k = 0
    · subst h0
      simp [tx, Lib.join_one]
    · have hne : (l.take k).map q ≠ [] := by
        intro e
        have := congrArg List.length e
        rw [List.length_map, List.length_take, List.length_nil] at this
        omega
      obtain ⟨x, r, hx⟩ : ∃ x r, (l.take k).map q = x :: r := by
        cases hh : (l.take k).map q with
        | nil => exact absurd hh hne
        | cons x r => exact ⟨x, r, rfl⟩
      rw [hx] at ih ⊢
      rw [tx, if_neg h0, ih, List.cons_append, Lib.join_cons, Lib.join_cons]
      simp [Lib.joinTail]

theorem tx_le (q : Int × Int → List UInt8) (hq : ∀ p, (q p).length ≤ 3) (l : List (Int × Int)) : ∀ k, (tx q l k).length ≤ 4 * k
  | 0 => by simp [tx]
  | k + 1 => by
    have ih := tx_le q hq l k
    have h2 := hq (ca l k, cb l k)
    rw [tx]
    split <;> simp <;> omega

theorem ts_kept {w : World} {g : Nat} {a b : Value} {X Y : World} (h : X.cell? ⟨g, 0, none⟩ = some a ∧ X.cell? ⟨g, 1, none⟩ = some b ∧ Below w.heap.size w X) (hb : Below X.heap.size X Y) :
    Y.cell? ⟨g, 0, none⟩ = some a ∧ Y.cell? ⟨g, 1, none⟩ = some b ∧ Below w.heap.size w Y :=
  ⟨(hb.cell (World.block_lt_of_cell? _ _ h.1)).trans h.1, (hb.cell (World.block_lt_of_cell? _ _ h.2.1)).trans h.2.1, h.2.2.trans (hb.mono h.2.2.size)⟩

def qC (p : Int × Int) : List UInt8 := [dgt p.1, dgt p.2]
def qL (p : Int × Int) : List UInt8 := [dgt p.1, 62, dgt p.2]

theorem ba_app (s t : ByteArray) : (s ++ t).data.toList = s.data.toList ++ t.data.toList := by rw [ByteArray.data_append]; simp

theorem stepC_pos (l : List (Int × Int)) (k : Nat) (s : ByteArray) (h : s.data.toList = tx qC l k) (h0 : 0 < k) : (s ++ ⟨#[45]⟩ ++ (⟨#[dgt (ca l k)]⟩ ++ ⟨#[dgt (cb l k)]⟩)).data.toList = tx qC l (k + 1) := by
  rw [ba_app, ba_app, ba_app, h, tx, if_neg (by omega)]; rfl
theorem stepC_zero (l : List (Int × Int)) (k : Nat) (s : ByteArray) (h : s.data.toList = tx qC l k) (h0 : ¬ 0 < k) : (s ++ (⟨#[dgt (ca l k)]⟩ ++ ⟨#[dgt (cb l k)]⟩)).data.toList = tx qC l (k + 1) := by
  obtain rfl : k = 0 := by omega
  rw [ba_app, ba_app, h]; rfl
set_option maxRecDepth 20000 in
theorem caText_pos (w : World) (b off : Nat) (cap : Nat) (l : List (Int × Int)) (n : Nat) (Hn : Hid (n = l.length)) (hs : n ≤ 60)
    (Hc : Hid (∀ i, i < n → w.cell? ⟨b, off + i * 2, none⟩ = some (.int .i64 (ca l i)) ∧ w.cell? ⟨b, off + i * 2 + 1, none⟩ = some (.int .i64 (cb l i))))
    (Hq : Hid (∀ k, k < n → (0 ≤ ca l k ∧ ca l k < 10) ∧ (0 ≤ cb l k ∧ cb l k < 10))) :
    Calls Tryd.prog 30 #[.slice (some ⟨b, off, none⟩) n cap] w fun e w' => ∃ s : ByteArray, e = .returned (.string s) ∧ s.data.toList = tx qC l n ∧ Below w.heap.size w w' := by
  go_enter Tryd.func30, Tryd.ntmps30
  go_wp2_with fail
  go_loopw [3, 8] (fun v i wr => ∃ (k : Nat) (s : ByteArray), k ≤ n ∧ i = .int .i64 k ∧ v = .string s ∧ s.data.toList = tx qC l k ∧ Below w.heap.size w wr) (fun _ i _ => n - (intOf i).toNat)
  case atStart => exact ⟨0, _, Nat.zero_le _, rfl, rfl, rfl, Below.refl _ _⟩
  case round =>
    obtain ⟨k, s, hk, rfl, rfl, hst, hbel⟩ := hrel
    by_cases hlt : k < n
    · have hsz := hbel.size
      have Hst := Lib.hid hst
      have HQ := Lib.hid (Hq.out k hlt)
      have hz0' := hbel.cell (p := ⟨b, off + k * 2, none⟩) (World.block_lt_of_cell? w _ (Hc.out k hlt).1)
      have hz1' := hbel.cell (p := ⟨b, off + k * 2 + 1, none⟩) (World.block_lt_of_cell? w _ (Hc.out k hlt).2)
      rw [(Hc.out k hlt).1] at hz0'
      rw [(Hc.out k hlt).2] at hz1'
      have hb0 : (0 : Int) ≤ k := by omega
      have hb1 : (k : Int) < n := by omega
      have hst0 := hst
      clear hst
      have hnew := heap_alloc_new wr (.cells #[.int .i64 (ca l k), .int .i64 (cb l k)] 50)
      have HI : Hid ((wr.alloc (.cells #[.int .i64 (ca l k), .int .i64 (cb l k)] 50)).drew.cell? ⟨wr.heap.size, 0, none⟩ = some (.int .i64 (ca l k)) ∧ (wr.alloc (.cells #[.int .i64 (ca l k), .int .i64 (cb l k)] 50)).drew.cell? ⟨wr.heap.size, 1, none⟩ = some (.int .i64 (cb l k)) ∧ Below w.heap.size w (wr.alloc (.cells #[.int .i64 (ca l k), .int .i64 (cb l k)] 50)).drew) :=
        ⟨cell_of_row _ wr.heap.size 0 _ _ _ hnew, cell_of_row _ wr.heap.size 1 _ _ _ hnew, (hbel.alloc hsz _).drew⟩
      have hss : s.size ≤ 4 * k := by
        have h1 : s.size = s.data.toList.length := by simp
        rw [h1, hst0]; exact tx_le _ (fun _ => by simp [qC]) l k
      have q1 : ¬ 9223372036854775807 < s.size + 1 := by omega
      have q2 : ¬ 9223372036854775807 < s.size + 2 := by omega
      have q3 : ¬ 9223372036854775807 < s.size + 1 + 2 := by omega
      clear hst0 hnew
      go_wp2_with fail
      all_goals
        go_region_held3 (fun w' => w'.cell? ⟨wr.heap.size, 0, none⟩ = some (.int .i64 (ca l k)) ∧ w'.cell? ⟨wr.heap.size, 1, none⟩ = some (.int .i64 (cb l k)) ∧ Below w.heap.size w w')
          (first | exact HI.out | exact ts_kept (by assumption) hb2 | (go_split_ands; exact ts_kept ⟨by assumption, by assumption, by assumption⟩ hb2) | go_keep)
          (first
            | (go_at_call 44; first | (go_at_call_of 44 (Value.int .i64 (ca l k)); refine (l1Num_any (ca l k) _ HQ.out.1.1 HQ.out.1.2).mono ?_; rintro e w2 ⟨rfl, hb2⟩) | (refine (l1Num_any (cb l k) _ HQ.out.2.1 HQ.out.2.2).mono ?_; rintro e w2 ⟨rfl, hb2⟩))
            | fail)
      all_goals have hbb : Below w.heap.size w w2 := (show w2.cell? ⟨wr.heap.size, 0, none⟩ = some (.int .i64 (ca l k)) ∧ w2.cell? ⟨wr.heap.size, 1, none⟩ = some (.int .i64 (cb l k)) ∧ Below w.heap.size w w2 by assumption).2.2
      · have Hnx := Lib.hid (stepC_pos l k s Hst.out (by assumption))
        go_wp2_with fail
        go_roundw
        case rel => exact ⟨k + 1, _, by omega, by go_num, rfl, Hnx.out, hbb⟩
        case measure => simp [intOf]; omega
      · have Hnx := Lib.hid (stepC_zero l k s Hst.out (by assumption))
        go_wp2_with fail
        go_roundw
        case rel => exact ⟨k + 1, _, by omega, by go_num, rfl, Hnx.out, hbb⟩
        case measure => simp [intOf]; omega
    · obtain rfl : k = n := by omega
      have Hst := Lib.hid hst
      clear hst hlt hk
      go_wp2_with fail
      go_ret
      exact ⟨_, rfl, Hst.out, hbel⟩

theorem caText_any (w : World) (ao : Option Addr) (cap : Nat) (l : List (Int × Int)) (n : Nat) (Hn : Hid (n = l.length)) (hs : n ≤ 60) (hc : CallsAt w ao l)
    (Hq : Hid (∀ k, k < n → (0 ≤ ca l k ∧ ca l k < 10) ∧ (0 ≤ cb l k ∧ cb l k < 10))) :
    Calls Tryd.prog 30 #[.slice ao n cap] w fun e w' => ∃ s : ByteArray, e = .returned (.string s) ∧ s.data.toList = tx qC l n ∧ Below w.heap.size w w' := by
  rcases hc with rfl | ⟨b, off, rfl, hc⟩
  · obtain rfl : n = 0 := Hn.out
    go_enter Tryd.func30, Tryd.ntmps30
    go_wp2_with fail
    go_rounds 1
    go_ret
    exact ⟨_, rfl, rfl, Below.refl _ _⟩
  · exact caText_pos w b off cap l n Hn hs (by rw [Hn.out]; exact hc) Hq


/-- The text of calls. -/
def cTxt (l : List (Int × Int)) : ByteArray := ⟨(Lib.join (l.map qC) [45]).toArray⟩
theorem caText_said (w : World) (ao : Option Addr) (cap : Nat) (l : List (Int × Int)) (n : Nat) (Hn : Hid (n = l.length)) (hs : n ≤ 60) (hc : CallsAt w ao l)
    (Hq : Hid (∀ k, k < n → (0 ≤ ca l k ∧ ca l k < 10) ∧ (0 ≤ cb l k ∧ cb l k < 10))) :
    Calls Tryd.prog 30 #[.slice ao n cap] w fun e w' => e = .returned (.string (cTxt l)) ∧ Below w.heap.size w w' :=
  (caText_any w ao cap l n Hn hs hc Hq).mono fun e w' ⟨s, he, hs, hb⟩ => by
    refine ⟨?_, hb⟩
    rw [he]
    congr 2
    rw [tx_join qC l n (by rw [Hn.out]; exact Nat.le_refl _), List.take_of_length_le (by rw [Hn.out]; exact Nat.le_refl _)] at hs
    apply ByteArray.ext
    apply Array.toList_inj.1
    rw [hs]
    rfl

end Go.Proofs.YtjldfdaaoeomdaaDoor
