/- Liars counted, both sides. -/
import Derived.Test.YtaangjidkkpogaaCc
import Derived.Laws.RangeAny
import Derived.Shelf.Strings.Count
import Derived.Lib.Bytealg
namespace Go.Proofs.Ytaangjidkkpogaa
open Go.ChangeShapes Go.WideShapes Go.ChangeAt Go.RowKit
set_option linter.unusedVariables false


/-- How many liars there are. -/
def lrs (c : List Bool) : Nat := c.count false
theorem lrs_le (c : List Bool) : lrs c ≤ c.length := List.count_le_length
theorem lrs_count (c : List Bool) : (c.map cby).count 108 = lrs c := by
  unfold lrs
  induction c with
  | nil => rfl
  | cons b c ih => cases b <;> simp [cby, ih]
theorem lrs_take (c : List Bool) (k : Nat) (h : k < c.length) : lrs (c.take (k + 1)) = lrs (c.take k) + if c[k] then 0 else 1 := by
  unfold lrs
  rw [List.take_succ_eq_append_getElem h, List.count_append]
  congr 1
  cases c[k] <;> rfl
theorem count_one (s : ByteArray) (w : World) :
    Calls Try.prog 70 #[.string s, .string ⟨#[108]⟩] w fun e w' => e = .returned (.int .i64 (Lib.countByte s.data.toList 108)) ∧ w' = w := by
  go_enter Try.func70, Try.ntmps70
  go_wp2
  rw [run_callFunc_extern Try.func73 (by kernel_rfl) (by kernel_rfl) (by kernel_rfl) (e := Extern.BytealgCount.count) (by kernel_rfl), Lib.run_countString]
  simp only [Result.andThen]
  rw [Oper.upon_value]
  go_wp2
  go_ret
  exact ⟨rfl, rfl⟩
theorem text_any (s : ByteArray) (w : World) :
    Calls Try.prog 48 #[.string s] w fun e w' => e = .returned (.string s) ∧ w' = w := by
  go_enter Try.func48, Try.ntmps48
  go_wp2
  go_ret
  exact ⟨rfl, rfl⟩
theorem liars_any (c : List Bool) (w : World) :
    Calls Try.prog 57 #[.string (cbs c)] w fun e w' => e = .returned (.int .i64 (lrs c : Nat)) ∧ w' = w := by
  have h1 : (Lib.countByte (cbs c).data.toList 108) = lrs c := by rw [cbs_list]; exact lrs_count c
  have HX := Lib.hid (count_one (cbs c) w)
  rw [h1] at HX
  generalize cbs c = s at HX ⊢
  clear h1
  go_enter Try.func57, Try.ntmps57
  go_wp2_with fail
  refine (text_any s _).mono ?_
  rintro e w' ⟨rfl, rfl⟩
  go_wp2_with fail
  refine HX.out.mono ?_
  rintro e w' ⟨rfl, rfl⟩
  go_wp2_with fail
  go_ret
  exact ⟨rfl, rfl⟩
theorem cby_lt (b : Bool) : (cby b).toNat < 128 := by cases b <;> decide
theorem cbs_get (c : List Bool) (i : Nat) (h : i < c.length) : (cbs c)[i]'(by rw [cbs_size]; exact h) = cby c[i] := by
  have h3 : (cbs c)[i]'(by rw [cbs_size]; exact h) = (c.map cby).toArray[i]'(by simpa using h) := rfl
  rw [h3]; simp
set_option maxRecDepth 20000 in
theorem liLiars_any (c : List Bool) (w : World) (hcl : c.length ≤ 100) :
    Calls Try.prog 54 #[.string (cbs c)] w fun e w' => e = .returned (.int .i64 (lrs c : Nat)) ∧ Below w.heap.size w w' := by
  obtain ⟨s, hs⟩ : ∃ s, cbs c = s := ⟨_, rfl⟩
  have hz : s.size = c.length := by rw [← hs, cbs_size]
  have Hg : Hid (∀ i, (h : i < c.length) → (h2 : i < s.size) → s[i]'h2 = cby c[i]) := Lib.hid (fun i h _ => by subst hs; exact cbs_get c i h)
  have HI : Hid (∀ i, (h : i < c.length) → ∀ W : World, (Instr.index 9 (.string s) (.int .i64 (i : Int))).run Try.prog W = .ok (.int .u8 (((cby c[i]).toNat : Nat) : Int)) W) := Lib.hid (fun i h W => by
    rw [run_index_string W 9 s .i64 (i : Int) Try.underlying9, dif_pos (by omega)]
    have := Hg.out i h (by omega)
    rw [← this]
    rfl)
  rw [hs]
  obtain ⟨n, hn⟩ : ∃ n, c.length = n := ⟨_, rfl⟩
  have HN := Lib.hid hn
  have Hz : Hid (s.size = n) := Lib.hid (by rw [hz, hn])
  have hn8 : n ≤ 100 := by omega
  clear hs hz hn hcl
  go_enter Try.func54, Try.ntmps54
  go_wp2_with fail
  go_loopw [3] (fun q wr => ∃ pos : Nat, pos ≤ n ∧ wr = w.iter s pos ∧ q = .int .i64 (lrs (c.take pos) : Nat)) (fun _ wr => n - wr.iterPos w.heap.size)
  case atStart => exact ⟨0, Nat.zero_le _, rfl, rfl⟩
  case round =>
    obtain ⟨pos, hp, rfl, rfl⟩ := hrel
    have hz2 := Hz.out
    by_cases hlt : pos < n
    · have hps : pos < s.size := by omega
      have hpc : pos < c.length := by rw [HN.out]; exact hlt
      have hnx : ∀ ty, (Instr.next (.pointer (some ⟨w.heap.size, 0, none⟩)) true ty).run Try.prog (w.iter s pos) = _ := fun ty => run_next_any w s pos ty hps
      rw [decode_ascii s pos hps (by rw [Hg.out pos hpc hps]; exact cby_lt _)] at hnx
      have hix := HI.out pos hpc
      have hT := lrs_take c pos hpc
      have hq : lrs (c.take pos) ≤ 100 := Nat.le_trans (lrs_le _) (by simp; omega)
      obtain ⟨z, hzz⟩ : ∃ z, (s[pos]'hps).toNat = z := ⟨_, rfl⟩
      rw [hzz] at hnx
      generalize hcb : c[pos] = b at hix hT
      obtain ⟨q, hqq⟩ : ∃ q, lrs (c.take pos) = q := ⟨_, rfl⟩
      rw [hqq] at hT hq ⊢
      have HT := Lib.hid hT
      clear hT hzz hcb hqq hz2
      cases b
      · have h8 : ((((cby false).toNat : Nat) : Int) == 108) = true := by decide
        go_wp2_with fail
        go_roundw
        case rel => exact ⟨pos + 1, by omega, rfl, by rw [HT.out]; go_num⟩
        case measure => simp; omega
      · have h8 : ((((cby true).toNat : Nat) : Int) == 108) = false := by decide
        go_wp2_with fail
        go_roundw
        case rel => exact ⟨pos + 1, by omega, rfl, by rw [HT.out]; rfl⟩
        case measure => simp; omega
    · have hps : ¬ pos < s.size := by omega
      have hnx : ∀ ty, (Instr.next (.pointer (some ⟨w.heap.size, 0, none⟩)) true ty).run Try.prog (w.iter s pos) = _ := fun ty => run_next_end w s pos ty hps
      have HT : Hid (lrs (c.take pos) = lrs c) := Lib.hid (by rw [List.take_of_length_le (by rw [HN.out]; omega)])
      clear hz2
      go_wp2_with fail
      go_ret
      exact ⟨by rw [← HT.out]; rfl, (Below.refl w.heap.size w).alloc (Nat.le_refl _) _⟩

end Go.Proofs.Ytaangjidkkpogaa
