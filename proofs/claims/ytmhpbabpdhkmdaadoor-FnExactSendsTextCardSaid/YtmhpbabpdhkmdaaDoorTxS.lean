/- The text of sends: the model. -/
import Derived.Test.YtmhpbabpdhkmdaaDoorNumT
import Derived.Test.YtmhpbabpdhkmdaaDoorCls
import Derived.Lib.Join
namespace Go.Proofs.YtmhpbabpdhkmdaaDoor
open Go.ChangeShapes Go.WideShapes Go.ChangeAt Go.RowKit
set_option linter.unusedVariables false


/-- A send as a text. -/
def cw (q : Snd) : List UInt8 := nt q.1 ++ 62 :: (nt q.2.1 ++ 64 :: nt q.2.2)
theorem cw_le (q : Snd) : (cw q).length ≤ 8 := by
  have h1 := nt_le q.1
  have h2 := nt_le q.2.1
  have h3 := nt_le q.2.2
  simp [cw]; omega
/-- The text of the first k. -/
def tx (l : List Snd) : Nat → List UInt8
  | 0 => []
  | k + 1 => (if k = 0 then [] else tx l k ++ [59]) ++ cw (sq l k)
theorem tx_join (l : List Snd) : ∀ k, k ≤ l.length → tx l k = Lib.join ((l.take k).map cw) [59]
  | 0, _ => by simp [tx, Lib.join_nil]
  | k + 1, h => by
    have ih := tx_join l k (by omega)
    have hk : l.take (k + 1) = l.take k ++ [sq l k] := by rw [List.take_succ_eq_append_getElem (by omega), s_get]; rfl
    rw [hk, List.map_append, List.map_cons, List.map_nil]
    by_cases h0 : k = 0
    · subst h0
      simp [tx, Lib.join_one]
    · have hne : (l.take k).map cw ≠ [] := by
        intro e
        have := congrArg List.length e
        rw [List.length_map, List.length_take, List.length_nil] at this
        omega
      obtain ⟨x, r, hx⟩ : ∃ x r, (l.take k).map cw = x :: r := by
        cases hh : (l.take k).map cw with
        | nil => exact absurd hh hne
        | cons x r => exact ⟨x, r, rfl⟩
      rw [hx] at ih ⊢
      rw [tx, if_neg h0, ih, List.cons_append, Lib.join_cons, Lib.join_cons]
      simp [Lib.joinTail]
theorem tx_le (l : List Snd) : ∀ k, (tx l k).length ≤ 9 * k
  | 0 => by simp [tx]
  | k + 1 => by
    have ih := tx_le l k
    have := cw_le (sq l k)
    rw [tx]
    split <;> simp <;> omega
theorem ts_kept {w : World} {g : Nat} {a b c : Value} {X Y : World} (h : X.cell? ⟨g, 0, none⟩ = some a ∧ X.cell? ⟨g, 1, none⟩ = some b ∧ X.cell? ⟨g, 2, none⟩ = some c ∧ Below w.heap.size w X) (hb : Below X.heap.size X Y) :
    Y.cell? ⟨g, 0, none⟩ = some a ∧ Y.cell? ⟨g, 1, none⟩ = some b ∧ Y.cell? ⟨g, 2, none⟩ = some c ∧ Below w.heap.size w Y :=
  ⟨(hb.cell (World.block_lt_of_cell? _ _ h.1)).trans h.1, (hb.cell (World.block_lt_of_cell? _ _ h.2.1)).trans h.2.1, (hb.cell (World.block_lt_of_cell? _ _ h.2.2.1)).trans h.2.2.1, h.2.2.2.trans (hb.mono h.2.2.2.size)⟩
theorem ba_app (s t : ByteArray) : (s ++ t).data.toList = s.data.toList ++ t.data.toList := by rw [ByteArray.data_append]; simp
/-- A number as a text, in bytes. -/
def nb (x : Int) : ByteArray := ⟨(nt x).toArray⟩
theorem nb_list (x : Int) : (nb x).data.toList = nt x := rfl
theorem nb_le (x : Int) : (nb x).size ≤ 2 := nt_le x
def c1 : ByteArray := ⟨#[62]⟩
def c2 : ByteArray := ⟨#[64]⟩
theorem cwb (a b c : Int) : (nb a ++ ⟨#[62]⟩ ++ nb b ++ ⟨#[64]⟩ ++ nb c).data.toList = cw (a, b, c) := by
  rw [ba_app, ba_app, ba_app, ba_app, nb_list, nb_list, nb_list, cw]; simp
theorem stepC_pos (l : List Snd) (k : Nat) (s : ByteArray) (h : s.data.toList = tx l k) (h0 : 0 < k) : (s ++ ⟨#[59]⟩ ++ (nb (sf l k) ++ ⟨#[62]⟩ ++ nb (st l k) ++ ⟨#[64]⟩ ++ nb (sm l k))).data.toList = tx l (k + 1) := by
  rw [ba_app, ba_app, cwb, h, tx, if_neg (by omega)]; rfl
theorem stepC_zero (l : List Snd) (k : Nat) (s : ByteArray) (h : s.data.toList = tx l k) (h0 : ¬ 0 < k) : (s ++ (nb (sf l k) ++ ⟨#[62]⟩ ++ nb (st l k) ++ ⟨#[64]⟩ ++ nb (sm l k))).data.toList = tx l (k + 1) := by
  obtain rfl : k = 0 := by omega
  rw [ba_app, cwb, h]; rfl
theorem num_b (x : Int) (w : World) (h : 0 ≤ x ∧ x ≤ 60) : Calls Tryd.prog 25 #[.int .i64 x] w fun e w' => e = .returned (.string (nb x)) ∧ Below w.heap.size w w' := l1Num_all x w h.1 (by omega)
set_option maxHeartbeats 400000 in
set_option maxRecDepth 20000 in
theorem deText_pos (w : World) (b off : Nat) (cap : Nat) (l : List Snd) (n : Nat) (Hn : Hid (n = l.length)) (hs : n ≤ 40)
    (Hc : Hid (∀ i, i < n → Sat3 w b off l i))
    (Hq : Hid (∀ k, k < n → ok1 (sq l k) = true)) :
    Calls Tryd.prog 15 #[.slice (some ⟨b, off, none⟩) n cap] w fun e w' => ∃ s : ByteArray, e = .returned (.string s) ∧ s.data.toList = tx l n ∧ Below w.heap.size w w' := by
  go_enter Tryd.func15, Tryd.ntmps15
  go_wp2_with fail
  go_loopw [3, 8] (fun v i wr => ∃ (k : Nat) (s : ByteArray), k ≤ n ∧ i = .int .i64 k ∧ v = .string s ∧ s.data.toList = tx l k ∧ Below w.heap.size w wr) (fun _ i _ => n - (intOf i).toNat)
  case atStart => exact ⟨0, _, Nat.zero_le _, rfl, rfl, rfl, Below.refl _ _⟩
  case round =>
    obtain ⟨k, s, hk, rfl, rfl, hst, hbel⟩ := hrel
    by_cases hlt : k < n
    · have hsz := hbel.size
      have HQ := Lib.hid (ok1_at (Hq.out k hlt))
      unfold sq at HQ
      obtain ⟨hz0', hz1', hz2'⟩ := (Hc.out k hlt).kept hbel
      have hb0 : (0 : Int) ≤ k := by omega
      have hb1 : (k : Int) < n := by omega
      have hss : s.size ≤ 360 := by
        have h1 : s.size = s.data.toList.length := by simp
        rw [h1, hst]; exact Nat.le_trans (tx_le l k) (by omega)
      have Hst := Lib.hid hst
      have HP := Lib.hid (fun h0 => stepC_pos l k s hst h0)
      have HZ := Lib.hid (fun h0 => stepC_zero l k s hst h0)
      obtain ⟨x, hx⟩ : ∃ x, sf l k = x := ⟨_, rfl⟩
      obtain ⟨y, hy⟩ : ∃ y, st l k = y := ⟨_, rfl⟩
      obtain ⟨z, hz⟩ : ∃ z, sm l k = z := ⟨_, rfl⟩
      rw [hx] at HQ hz0' HP HZ
      rw [hy] at HQ hz1' HP HZ
      rw [hz] at HQ hz2' HP HZ
      clear hst hx hy hz
      have sx := nb_le x
      have sy := nb_le y
      have sz := nb_le z
      have q0 : ¬ 9223372036854775807 < s.size + 1 := by omega
      have q1 : ¬ 9223372036854775807 < (nb x).size + 1 := by omega
      have q2 : ¬ 9223372036854775807 < (nb x).size + 1 + (nb y).size := by omega
      have q3 : ¬ 9223372036854775807 < (nb x).size + 1 + (nb y).size + 1 := by omega
      have q4 : ¬ 9223372036854775807 < (nb x).size + 1 + (nb y).size + 1 + (nb z).size := by omega
      have q5 : ¬ 9223372036854775807 < s.size + ((nb x).size + 1 + (nb y).size + 1 + (nb z).size) := by omega
      have q6 : ¬ 9223372036854775807 < s.size + 1 + ((nb x).size + 1 + (nb y).size + 1 + (nb z).size) := by omega
      have hnew := heap_alloc_new wr (.cells #[.int .i64 x, .int .i64 y, .int .i64 z] 37)
      have HI : Hid ((wr.alloc (.cells #[.int .i64 x, .int .i64 y, .int .i64 z] 37)).drew.cell? ⟨wr.heap.size, 0, none⟩ = some (.int .i64 x) ∧ (wr.alloc (.cells #[.int .i64 x, .int .i64 y, .int .i64 z] 37)).drew.cell? ⟨wr.heap.size, 1, none⟩ = some (.int .i64 y) ∧ (wr.alloc (.cells #[.int .i64 x, .int .i64 y, .int .i64 z] 37)).drew.cell? ⟨wr.heap.size, 2, none⟩ = some (.int .i64 z) ∧ Below w.heap.size w (wr.alloc (.cells #[.int .i64 x, .int .i64 y, .int .i64 z] 37)).drew) :=
        ⟨cell_of_row _ wr.heap.size 0 _ _ _ hnew, cell_of_row _ wr.heap.size 1 _ _ _ hnew, cell_of_row _ wr.heap.size 2 _ _ _ hnew, (hbel.alloc hsz _).drew⟩
      clear hnew
      go_wp2_with fail
      all_goals
        go_region_held3 (fun w' => w'.cell? ⟨wr.heap.size, 0, none⟩ = some (.int .i64 x) ∧ w'.cell? ⟨wr.heap.size, 1, none⟩ = some (.int .i64 y) ∧ w'.cell? ⟨wr.heap.size, 2, none⟩ = some (.int .i64 z) ∧ Below w.heap.size w w')
          (first | exact HI.out | exact ts_kept (by assumption) hb2 | (go_split_ands; exact ts_kept ⟨by assumption, by assumption, by assumption, by assumption⟩ hb2) | go_keep)
          (first
            | (go_at_call 25; first | (go_at_call_of 25 (Value.int .i64 x); refine (num_b x _ HQ.out.1).mono ?_; rintro e w2 ⟨rfl, hb2⟩) | (go_at_call_of 25 (Value.int .i64 y); refine (num_b y _ HQ.out.2.1).mono ?_; rintro e w2 ⟨rfl, hb2⟩) | (refine (num_b z _ HQ.out.2.2).mono ?_; rintro e w2 ⟨rfl, hb2⟩))
            | fail)
      all_goals have hbb : Below w.heap.size w w2 := (show w2.cell? ⟨wr.heap.size, 0, none⟩ = some (.int .i64 x) ∧ w2.cell? ⟨wr.heap.size, 1, none⟩ = some (.int .i64 y) ∧ w2.cell? ⟨wr.heap.size, 2, none⟩ = some (.int .i64 z) ∧ Below w.heap.size w w2 by assumption).2.2.2
      · have Hnx := Lib.hid (HP.out (by assumption))
        go_wp2_with fail
        go_roundw
        case rel => exact ⟨k + 1, _, by omega, by go_num, rfl, Hnx.out, hbb⟩
        case measure => simp [intOf]; omega
      · have Hnx := Lib.hid (HZ.out (by assumption))
        go_wp2_with fail
        go_roundw
        case rel => exact ⟨k + 1, _, by omega, by go_num, rfl, Hnx.out, hbb⟩
        case measure => simp [intOf]; omega
    · obtain rfl : k = n := by omega
      have Hst := Lib.hid hst
      clear hst hlt hk
      go_wp2_with fail
      go_ret
      exact ⟨_, rfl, Hst.out, hbel⟩
theorem deText_any (w : World) (ao : Option Addr) (cap : Nat) (l : List Snd) (n : Nat) (Hn : Hid (n = l.length)) (hs : n ≤ 40) (hc : SendsAt w ao l)
    (Hq : Hid (∀ k, k < n → ok1 (sq l k) = true)) :
    Calls Tryd.prog 15 #[.slice ao n cap] w fun e w' => ∃ s : ByteArray, e = .returned (.string s) ∧ s.data.toList = tx l n ∧ Below w.heap.size w w' := by
  rcases hc with rfl | ⟨b, off, rfl, hc⟩
  · obtain rfl : n = 0 := Hn.out
    go_enter Tryd.func15, Tryd.ntmps15
    go_wp2_with fail
    go_rounds 1
    go_ret
    exact ⟨_, rfl, rfl, Below.refl _ _⟩
  · exact deText_pos w b off cap l n Hn hs (by rw [Hn.out]; exact hc) Hq
def sTxt (l : List Snd) : ByteArray := if smB l then ⟨(Lib.join (l.map cw) [59]).toArray⟩ else ⟨#[]⟩
theorem sm_q {l : List Snd} {n : Nat} (hn : n = l.length) (h : smB l = true) : n ≤ 40 ∧ ∀ k, k < n → ok1 (sq l k) = true := by
  subst hn; exact okl_at h
theorem specST_any (w : World) (ao : Option Addr) (cap : Nat) (l : List Snd) (n : Nat) (Hn : Hid (n = l.length)) (hn : n ≤ 1048576) (hcap : n ≤ cap) (Hc : SendsAt w ao l) :
    Calls Tryd.prog 6 #[.slice ao n cap] w fun e w' => e = .returned (.tuple #[.string (sTxt l), .bool (smB l)]) ∧ Below w.heap.size w w' := by
  have HG := Lib.hid (deSome_any ao cap l n w Hn hn Hc)
  have HHc := Lib.hid Hc
  clear Hc
  cases hg : smB l
  · have e : sTxt l = ⟨#[]⟩ := by simp [sTxt, hg]
    rw [e]
    rw [hg] at HG
    clear hg e
    go_enter Tryd.func6, Tryd.ntmps6
    go_wp2_with fail
    refine HG.out.mono ?_
    rintro e w1 ⟨rfl, hb⟩
    go_wp2_with fail
    go_ret2
    exact ⟨rfl, hb⟩
  · have hq := sm_q Hn.out hg
    rw [hg] at HG
    have hn40 := hq.1
    have Hq := Lib.hid hq.2
    have He : Hid (∀ s : ByteArray, s.data.toList = tx l n → s = sTxt l) := Lib.hid fun s hs => by
      have : sTxt l = ⟨(Lib.join (l.map cw) [59]).toArray⟩ := by simp [sTxt, hg]
      rw [this]
      rw [tx_join l n (by rw [Hn.out]; exact Nat.le_refl _), List.take_of_length_le (by rw [Hn.out]; exact Nat.le_refl _)] at hs
      apply ByteArray.ext
      apply Array.toList_inj.1
      rw [hs]
    clear hg hq
    go_enter Tryd.func6, Tryd.ntmps6
    go_wp2_with fail
    refine HG.out.mono ?_
    rintro e w1 ⟨rfl, hb⟩
    go_wp2_with fail
    refine (deText_any w1 ao cap l n Hn (by omega) (HHc.out.kept hb) Hq).mono ?_
    rintro e w2 ⟨s, rfl, hs, hb2⟩
    rw [He.out s hs]
    go_wp2_with fail
    go_ret2
    exact ⟨rfl, hb.trans (hb2.mono hb.size)⟩

end Go.Proofs.YtmhpbabpdhkmdaaDoor
