/- The text of claims: the model. -/
import Derived.Test.YtphnpphkiiedfaaDoorNum
import Derived.Test.YtphnpphkiiedfaaDoorCls
import Derived.Lib.Join
namespace Go.Proofs.YtphnpphkiiedfaaDoor
open Go.ChangeShapes Go.WideShapes Go.ChangeAt Go.RowKit
set_option linter.unusedVariables false


def sg (b : Bool) : UInt8 := if b then 61 else 35
/-- A claim as a text. -/
def cw (q : Snd) : List UInt8 := [dgt q.1, sg q.2.2, dgt q.2.1]
/-- The text of the first k. -/
def tx (l : List Snd) : Nat → List UInt8
  | 0 => []
  | k + 1 => (if k = 0 then [] else tx l k ++ [44]) ++ cw (sf l k, st l k, sm l k)
theorem tx_join (l : List Snd) : ∀ k, k ≤ l.length → tx l k = Lib.join ((l.take k).map cw) [44]
  | 0, _ => by simp [tx, Lib.join_nil]
  | k + 1, h => by
    have ih := tx_join l k (by omega)
    have hk : l.take (k + 1) = l.take k ++ [(sf l k, st l k, sm l k)] := by rw [List.take_succ_eq_append_getElem (by omega), s_get]
    rw [hk, List.map_append, List.map_cons, List.map_nil]
    by_cases h0 : k = 0
    · subst h0
      simp [tx, Lib.join_one]
    · have hne : (l.take k).map cw ≠ [] := by
        intro e
        have := congrArg List.length e
        rw [List.length_map, List.length_take, List.length_nil] at this
        omega
      obtain ⟨x, r, hx⟩ : ∃ x r, (l.take k).map cw = x :: r := by
        cases hh : (l.take k).map cw with
        | nil => exact absurd hh hne
        | cons x r => exact ⟨x, r, rfl⟩
      rw [hx] at ih ⊢
      rw [tx, if_neg h0, ih, List.cons_append, Lib.join_cons, Lib.join_cons]
      simp [Lib.joinTail]
theorem tx_le (l : List Snd) : ∀ k, (tx l k).length ≤ 4 * k
  | 0 => by simp [tx]
  | k + 1 => by
    have ih := tx_le l k
    rw [tx]
    split <;> simp [cw] <;> omega
theorem ts_kept {w : World} {g : Nat} {a b : Value} {X Y : World} (h : X.cell? ⟨g, 0, none⟩ = some a ∧ X.cell? ⟨g, 1, none⟩ = some b ∧ Below w.heap.size w X) (hb : Below X.heap.size X Y) :
    Y.cell? ⟨g, 0, none⟩ = some a ∧ Y.cell? ⟨g, 1, none⟩ = some b ∧ Below w.heap.size w Y :=
  ⟨(hb.cell (World.block_lt_of_cell? _ _ h.1)).trans h.1, (hb.cell (World.block_lt_of_cell? _ _ h.2.1)).trans h.2.1, h.2.2.trans (hb.mono h.2.2.size)⟩
theorem ba_app (s t : ByteArray) : (s ++ t).data.toList = s.data.toList ++ t.data.toList := by rw [ByteArray.data_append]; simp
theorem stepC_pos (l : List Snd) (k : Nat) (s : ByteArray) (c : UInt8) (hc : sg (sm l k) = c) (h : s.data.toList = tx l k) (h0 : 0 < k) : (s ++ ⟨#[44]⟩ ++ (⟨#[dgt (sf l k)]⟩ ++ ⟨#[c]⟩ ++ ⟨#[dgt (st l k)]⟩)).data.toList = tx l (k + 1) := by
  rw [ba_app, ba_app, ba_app, ba_app, h, tx, if_neg (by omega), cw, ← hc]; rfl
theorem stepC_zero (l : List Snd) (k : Nat) (s : ByteArray) (c : UInt8) (hc : sg (sm l k) = c) (h : s.data.toList = tx l k) (h0 : ¬ 0 < k) : (s ++ (⟨#[dgt (sf l k)]⟩ ++ ⟨#[c]⟩ ++ ⟨#[dgt (st l k)]⟩)).data.toList = tx l (k + 1) := by
  obtain rfl : k = 0 := by omega
  rw [ba_app, ba_app, ba_app, h, ← hc]; rfl
set_option maxHeartbeats 400000 in
set_option maxRecDepth 20000 in
theorem liText_pos (w : World) (b off : Nat) (cap : Nat) (l : List Snd) (n : Nat) (Hn : Hid (n = l.length)) (hs : n ≤ 60)
    (Hc : Hid (∀ i, i < n → Sat3 w b off l i))
    (Hq : Hid (∀ k, k < n → (0 ≤ sf l k ∧ sf l k < 8) ∧ (0 ≤ st l k ∧ st l k < 8))) :
    Calls Tryd.prog 15 #[.slice (some ⟨b, off, none⟩) n cap] w fun e w' => ∃ s : ByteArray, e = .returned (.string s) ∧ s.data.toList = tx l n ∧ Below w.heap.size w w' := by
  go_enter Tryd.func15, Tryd.ntmps15
  go_wp2_with fail
  go_loopw [3, 9] (fun v i wr => ∃ (k : Nat) (s : ByteArray), k ≤ n ∧ i = .int .i64 k ∧ v = .string s ∧ s.data.toList = tx l k ∧ Below w.heap.size w wr) (fun _ i _ => n - (intOf i).toNat)
  case atStart => exact ⟨0, _, Nat.zero_le _, rfl, rfl, rfl, Below.refl _ _⟩
  case round =>
    obtain ⟨k, s, hk, rfl, rfl, hst, hbel⟩ := hrel
    by_cases hlt : k < n
    · have hsz := hbel.size
      have HQ := Lib.hid (Hq.out k hlt)
      obtain ⟨hz0', hz1', hz2'⟩ := (Hc.out k hlt).kept hbel
      have hb0 : (0 : Int) ≤ k := by omega
      have hb1 : (k : Int) < n := by omega
      have hst0 := hst
      have hss : s.size ≤ 4 * k := by
        have h1 : s.size = s.data.toList.length := by simp
        rw [h1, hst0]; exact tx_le l k
      have q1 : ¬ 9223372036854775807 < s.size + 1 := by omega
      have q2 : ¬ 9223372036854775807 < s.size + 3 := by omega
      have q3 : ¬ 9223372036854775807 < s.size + 1 + 3 := by omega
      have Hst := Lib.hid hst
      have HP := Lib.hid (fun c hc h0 => stepC_pos l k s c hc hst h0)
      have HZ := Lib.hid (fun c hc h0 => stepC_zero l k s c hc hst h0)
      obtain ⟨x, hx⟩ : ∃ x, sf l k = x := ⟨_, rfl⟩
      obtain ⟨y, hy⟩ : ∃ y, st l k = y := ⟨_, rfl⟩
      obtain ⟨z, hz⟩ : ∃ z, sm l k = z := ⟨_, rfl⟩
      rw [hx] at HQ hz0' HP HZ
      rw [hy] at HQ hz1' HP HZ
      rw [hz] at hz2' HP HZ
      clear hst hst0 hx hy hz
      cases z
      · have hnew := heap_alloc_new wr (.cells #[.int .i64 x, .int .i64 y, .bool false] 37)
        have HI : Hid ((wr.alloc (.cells #[.int .i64 x, .int .i64 y, .bool false] 37)).drew.cell? ⟨wr.heap.size, 0, none⟩ = some (.int .i64 x) ∧ (wr.alloc (.cells #[.int .i64 x, .int .i64 y, .bool false] 37)).drew.cell? ⟨wr.heap.size, 1, none⟩ = some (.int .i64 y) ∧ Below w.heap.size w (wr.alloc (.cells #[.int .i64 x, .int .i64 y, .bool false] 37)).drew) :=
          ⟨cell_of_row _ wr.heap.size 0 _ _ _ hnew, cell_of_row _ wr.heap.size 1 _ _ _ hnew, (hbel.alloc hsz _).drew⟩
        clear hnew
        go_wp2_with fail
        all_goals
          go_region_held3 (fun w' => w'.cell? ⟨wr.heap.size, 0, none⟩ = some (.int .i64 x) ∧ w'.cell? ⟨wr.heap.size, 1, none⟩ = some (.int .i64 y) ∧ Below w.heap.size w w')
            (first | exact HI.out | exact ts_kept (by assumption) hb2 | (go_split_ands; exact ts_kept ⟨by assumption, by assumption, by assumption⟩ hb2) | go_keep)
            (first
              | (go_at_call 25; first | (go_at_call_of 25 (Value.int .i64 x); refine (l1Num_any x _ HQ.out.1.1 (by have := HQ.out.1.2; omega)).mono ?_; rintro e w2 ⟨rfl, hb2⟩) | (refine (l1Num_any y _ HQ.out.2.1 (by have := HQ.out.2.2; omega)).mono ?_; rintro e w2 ⟨rfl, hb2⟩))
              | fail)
        all_goals have hbb : Below w.heap.size w w2 := (show w2.cell? ⟨wr.heap.size, 0, none⟩ = some (.int .i64 x) ∧ w2.cell? ⟨wr.heap.size, 1, none⟩ = some (.int .i64 y) ∧ Below w.heap.size w w2 by assumption).2.2
        · have Hnx := Lib.hid (HP.out 35 rfl (by assumption))
          go_wp2_with fail
          go_roundw
          case rel => exact ⟨k + 1, _, by omega, by go_num, rfl, Hnx.out, hbb⟩
          case measure => simp [intOf]; omega
        · have Hnx := Lib.hid (HZ.out 35 rfl (by assumption))
          go_wp2_with fail
          go_roundw
          case rel => exact ⟨k + 1, _, by omega, by go_num, rfl, Hnx.out, hbb⟩
          case measure => simp [intOf]; omega
      · have hnew := heap_alloc_new wr (.cells #[.int .i64 x, .int .i64 y, .bool true] 37)
        have HI : Hid ((wr.alloc (.cells #[.int .i64 x, .int .i64 y, .bool true] 37)).drew.cell? ⟨wr.heap.size, 0, none⟩ = some (.int .i64 x) ∧ (wr.alloc (.cells #[.int .i64 x, .int .i64 y, .bool true] 37)).drew.cell? ⟨wr.heap.size, 1, none⟩ = some (.int .i64 y) ∧ Below w.heap.size w (wr.alloc (.cells #[.int .i64 x, .int .i64 y, .bool true] 37)).drew) :=
          ⟨cell_of_row _ wr.heap.size 0 _ _ _ hnew, cell_of_row _ wr.heap.size 1 _ _ _ hnew, (hbel.alloc hsz _).drew⟩
        clear hnew
        go_wp2_with fail
        all_goals
          go_region_held3 (fun w' => w'.cell? ⟨wr.heap.size, 0, none⟩ = some (.int .i64 x) ∧ w'.cell? ⟨wr.heap.size, 1, none⟩ = some (.int .i64 y) ∧ Below w.heap.size w w')
            (first | exact HI.out | exact ts_kept (by assumption) hb2 | (go_split_ands; exact ts_kept ⟨by assumption, by assumption, by assumption⟩ hb2) | go_keep)
            (first
              | (go_at_call 25; first | (go_at_call_of 25 (Value.int .i64 x); refine (l1Num_any x _ HQ.out.1.1 (by have := HQ.out.1.2; omega)).mono ?_; rintro e w2 ⟨rfl, hb2⟩) | (refine (l1Num_any y _ HQ.out.2.1 (by have := HQ.out.2.2; omega)).mono ?_; rintro e w2 ⟨rfl, hb2⟩))
              | fail)
        all_goals have hbb : Below w.heap.size w w2 := (show w2.cell? ⟨wr.heap.size, 0, none⟩ = some (.int .i64 x) ∧ w2.cell? ⟨wr.heap.size, 1, none⟩ = some (.int .i64 y) ∧ Below w.heap.size w w2 by assumption).2.2
        · have Hnx := Lib.hid (HP.out 61 rfl (by assumption))
          go_wp2_with fail
          go_roundw
          case rel => exact ⟨k + 1, _, by omega, by go_num, rfl, Hnx.out, hbb⟩
          case measure => simp [intOf]; omega
        · have Hnx := Lib.hid (HZ.out 61 rfl (by assumption))
          go_wp2_with fail
          go_roundw
          case rel => exact ⟨k + 1, _, by omega, by go_num, rfl, Hnx.out, hbb⟩
          case measure => simp [intOf]; omega
    · obtain rfl : k = n := by omega
      have Hst := Lib.hid hst
      clear hst hlt hk
      go_wp2_with fail
      go_ret
      exact ⟨_, rfl, Hst.out, hbel⟩
theorem liText_any (w : World) (ao : Option Addr) (cap : Nat) (l : List Snd) (n : Nat) (Hn : Hid (n = l.length)) (hs : n ≤ 60) (hc : SendsAt w ao l)
    (Hq : Hid (∀ k, k < n → (0 ≤ sf l k ∧ sf l k < 8) ∧ (0 ≤ st l k ∧ st l k < 8))) :
    Calls Tryd.prog 15 #[.slice ao n cap] w fun e w' => ∃ s : ByteArray, e = .returned (.string s) ∧ s.data.toList = tx l n ∧ Below w.heap.size w w' := by
  rcases hc with rfl | ⟨b, off, rfl, hc⟩
  · obtain rfl : n = 0 := Hn.out
    go_enter Tryd.func15, Tryd.ntmps15
    go_wp2_with fail
    go_rounds 1
    go_ret
    exact ⟨_, rfl, rfl, Below.refl _ _⟩
  · exact liText_pos w b off cap l n Hn hs (by rw [Hn.out]; exact hc) Hq
def cTxt (l : List Snd) : ByteArray := if clB 8 l then ⟨(Lib.join (l.map cw) [44]).toArray⟩ else ⟨#[]⟩
theorem cl_q {l : List Snd} {n : Nat} (hn : n = l.length) (h : clB 8 l = true) : n ≤ 20 ∧ ∀ k, k < n → (0 ≤ sf l k ∧ sf l k < 8) ∧ (0 ≤ st l k ∧ st l k < 8) :=
  ⟨by rw [hn]; exact (cl_parts h).2.1, fun k hk => cl_at (cl_parts h).2.2 (by omega)⟩
theorem specCT_any (w : World) (ao : Option Addr) (cap : Nat) (l : List Snd) (n : Nat) (Hn : Hid (n = l.length)) (hn : n ≤ 1048576) (hcap : n ≤ cap) (Hc : SendsAt w ao l) :
    Calls Tryd.prog 6 #[.slice ao n cap] w fun e w' => e = .returned (.tuple #[.string (cTxt l), .bool (clB 8 l)]) ∧ Below w.heap.size w w' := by
  have HG := Lib.hid (liGood_any w 8 ao cap l n Hn hn Hc)
  have HHc := Lib.hid Hc
  clear Hc
  cases hg : clB 8 l
  · have e : cTxt l = ⟨#[]⟩ := by simp [cTxt, hg]
    rw [e]
    rw [hg] at HG
    clear hg e
    go_enter Tryd.func6, Tryd.ntmps6
    go_wp2_with fail
    refine HG.out.mono ?_
    rintro e w1 ⟨rfl, hb⟩
    go_wp2_with fail
    go_ret2
    exact ⟨rfl, hb⟩
  · have hq := cl_q Hn.out hg
    rw [hg] at HG
    have hn20 := hq.1
    have Hq := Lib.hid hq.2
    have He : Hid (∀ s : ByteArray, s.data.toList = tx l n → s = cTxt l) := Lib.hid fun s hs => by
      have : cTxt l = ⟨(Lib.join (l.map cw) [44]).toArray⟩ := by simp [cTxt, hg]
      rw [this]
      rw [tx_join l n (by rw [Hn.out]; exact Nat.le_refl _), List.take_of_length_le (by rw [Hn.out]; exact Nat.le_refl _)] at hs
      apply ByteArray.ext
      apply Array.toList_inj.1
      rw [hs]
    clear hg hq
    go_enter Tryd.func6, Tryd.ntmps6
    go_wp2_with fail
    refine HG.out.mono ?_
    rintro e w1 ⟨rfl, hb⟩
    go_wp2_with fail
    refine (liText_any w1 ao cap l n Hn (by omega) (HHc.out.kept hb) Hq).mono ?_
    rintro e w2 ⟨s, rfl, hs, hb2⟩
    rw [He.out s hs]
    go_wp2_with fail
    go_ret2
    exact ⟨rfl, hb.trans (hb2.mono hb.size)⟩

end Go.Proofs.YtphnpphkiiedfaaDoor
