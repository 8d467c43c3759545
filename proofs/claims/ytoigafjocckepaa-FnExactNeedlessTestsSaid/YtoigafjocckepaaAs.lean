/- Results as texts: the model and the program. -/
import Derived.Test.YtoigafjocckepaaWi
import Derived.Laws.RangeAny
namespace Go.Proofs.Ytoigafjocckepaa
open Go.ChangeShapes Go.WideShapes Go.ChangeAt Go.RowKit
set_option linter.unusedVariables false


/-- The signs of a text. -/
def bt (s : ByteArray) : List Nat := s.data.toList.map UInt8.toNat
theorem bt_length (s : ByteArray) : (bt s).length = s.size := by simp [bt]
theorem bt_at (s : ByteArray) (k : Nat) (h : k < s.size) : (bt s).getD k 0 = (s[k]'h).toNat := by
  rw [List.getD_eq_getElem?_getD, List.getElem?_eq_getElem (by rw [bt_length]; exact h), Option.getD_some]
  simp only [bt, List.getElem_map]
  rfl
def okS (x : Nat) : Bool := x == 48 || x == 49
/-- Each sign is 0 or 1. -/
def okB (s : ByteArray) : Bool := (List.range s.size).all fun i => okS ((bt s).getD i 0)
theorem ok_no {s : ByteArray} {j : Nat} (hj : j < s.size) (h : okS ((bt s).getD j 0) = false) : okB s = false := by
  unfold okB; rw [List.all_eq_false]; exact ⟨j, List.mem_range.2 hj, by rw [h]; simp⟩
theorem ok_yes {s : ByteArray} (h : ∀ j, j < s.size → okS ((bt s).getD j 0) = true) : okB s = true := by
  unfold okB; rw [List.all_eq_true]; exact fun j hj => h j (List.mem_range.1 hj)
theorem ok_at {s : ByteArray} (h : okB s = true) {j : Nat} (hj : j < s.size) : okS ((bt s).getD j 0) = true := by
  unfold okB at h; rw [List.all_eq_true] at h; exact h j (List.mem_range.2 hj)
def arB (n : Nat) (s : ByteArray) : Bool := decide (s.size = n) && okB s
def askB (f : Int) (L : List (List Int)) (s : ByteArray) (m : Int) : Bool := wiB f L && (decide (s.size = L.length) && (decide (0 ≤ m ∧ m ≤ f) && okB s))
theorem idx_at (s : ByteArray) (k : Nat) (h : k < s.size) (W : World) : (Instr.index 9 (.string s) (.int .i64 (k : Int))).run Try.prog W = .ok (.int .u8 ((s[k]'h).toNat : Int)) W := by
  rw [run_index_string W 9 s .i64 (k : Int) Try.underlying9, dif_pos (by omega)]
  rfl

set_option maxHeartbeats 800000 in
set_option maxRecDepth 20000 in
theorem areResults_any (ao : Option Addr) (n cap : Nat) (s : ByteArray) (w : World) (hn : n ≤ 1048576) (hs : s.size ≤ 1048576) :
    Calls Try.prog 55 #[.slice ao n cap, .string s] w fun e w' => e = .returned (.bool (arB n s)) ∧ Below w.heap.size w w' := by
  obtain ⟨z, hz⟩ : ∃ z, s.size = z := ⟨_, rfl⟩
  have Hz := Lib.hid hz
  by_cases hzn : z = n
  · have hR : arB n s = okB s := by simp [arB, hz, hzn]
    rw [hR]
    have hne : ((z : Int) != (n : Int)) = false := by simp; omega
    have Hzn := Lib.hid hzn
    have hzb : z ≤ 1048576 := by omega
    obtain ⟨r, hr⟩ : ∃ r, okB s = r := ⟨_, rfl⟩
    rw [hr]
    have HR := Lib.hid hr
    clear hR hzn hs hr
    go_enter Try.func55, Try.ntmps55
    go_wp2_with fail
    go_loopw [] (fun wr => ∃ pos : Nat, pos ≤ z ∧ wr = w.iter s pos ∧ Hid (∀ j, j < pos → okS ((bt s).getD j 0) = true)) (fun wr => z - wr.iterPos w.heap.size)
    case atStart => exact ⟨0, Nat.zero_le _, rfl, fun j hj => absurd hj (by omega)⟩
    case round =>
      obtain ⟨pos, hp, rfl, hall⟩ := hrel
      have hz2 := Hz.out
      by_cases hlt : pos < z
      · have hps : pos < s.size := by omega
        have hnx : ∀ ty, (Instr.next (.pointer (some ⟨w.heap.size, 0, none⟩)) true ty).run Try.prog (w.iter s pos) = _ := fun ty => run_next_any w s pos ty hps
        cases ho : okS ((bt s).getD pos 0)
        · have Hno := Lib.hid (ok_no (by omega) ho)
          rw [HR.out] at Hno
          have hr0 : r = false := Hno.out
          obtain ⟨c, hc⟩ : ∃ c : Nat, (Utf8.decode s pos).1 = c := ⟨_, rfl⟩
          rw [bt_at s pos hps] at ho
          have hcn : c ≠ 48 ∧ c ≠ 49 := by
            by_cases ha : (s[pos]'hps).toNat < 128
            · rw [decode_ascii s pos hps ha] at hc
              simp only [okS, Bool.or_eq_false_iff, beq_eq_false_iff_ne] at ho
              have : (s[pos]'hps).toNat = c := hc
              omega
            · have := (decode_high s pos hps (by omega)).1
              omega
          rw [hc] at hnx
          have h48 : ((c : Int) != 48) = true := by rw [bne_iff_ne]; omega
          have h49 : ((c : Int) != 49) = true := by rw [bne_iff_ne]; omega
          subst hr0
          clear ho hcn hc hz2
          go_wp2_with fail
          go_ret
          exact ⟨rfl, (Below.refl w.heap.size w).alloc (Nat.le_refl _) _⟩
        · have hbyte : (s[pos]'hps).toNat = 48 ∨ (s[pos]'hps).toNat = 49 := by
            rw [bt_at s pos hps] at ho
            simpa [okS] using ho
          have hall2 : Hid (∀ j, j < pos + 1 → okS ((bt s).getD j 0) = true) := by
            intro j hj
            by_cases hjk : j = pos
            · subst hjk; exact ho
            · exact hall.out j (by omega)
          have ha : (s[pos]'hps).toNat < 128 := by omega
          rw [decode_ascii s pos hps ha] at hnx
          rcases hbyte with hb | hb
          · rw [hb] at hnx
            clear ho ha hb hz2
            go_wp2_with fail
            go_roundw
            case rel => exact ⟨pos + 1, by omega, rfl, hall2⟩
            case measure => simp; omega
          · rw [hb] at hnx
            clear ho ha hb hz2
            go_wp2_with fail
            go_roundw
            case rel => exact ⟨pos + 1, by omega, rfl, hall2⟩
            case measure => simp; omega
      · have hps : ¬ pos < s.size := by omega
        have hnx : ∀ ty, (Instr.next (.pointer (some ⟨w.heap.size, 0, none⟩)) true ty).run Try.prog (w.iter s pos) = _ := fun ty => run_next_end w s pos ty hps
        have hr1 : r = true := by rw [← HR.out]; exact ok_yes (fun j hj => hall.out j (by omega))
        subst hr1
        clear hz2
        go_wp2_with fail
        go_ret
        exact ⟨rfl, (Below.refl w.heap.size w).alloc (Nat.le_refl _) _⟩
  · have hR : arB n s = false := by simp [arB, hz, hzn]
    rw [hR]
    have hne : ((z : Int) != (n : Int)) = true := by rw [bne_iff_ne]; omega
    go_enter Try.func55, Try.ntmps55
    go_wp2_with fail
    go_ret
    exact ⟨rfl, Below.refl _ _⟩

set_option maxHeartbeats 800000 in
set_option maxRecDepth 20000 in
theorem wiAsked_any (f : Int) (ao : Option Addr) (cap : Nat) (L : List (List Int)) (n : Nat) (s : ByteArray) (m : Int) (w : World) (Hn : Hid (n = L.length)) (hn : n ≤ 1048576) (hL : Hid (∀ i, (row L i).length ≤ 1048576)) (Hc : Hid (RowsAt w ao L)) (hs : s.size ≤ 1048576) :
    Calls Try.prog 33 #[.int .i64 f, .slice ao n cap, .string s, .int .i64 m] w fun e w' => e = .returned (.bool (askB f L s m)) ∧ Below w.heap.size w w' := by
  obtain ⟨z, hz⟩ : ∃ z, s.size = z := ⟨_, rfl⟩
  have Hz := Lib.hid hz
  cases hg : wiB f L
  · have hR : askB f L s m = false := by simp [askB, hg]
    rw [hR]
    have Hg := Lib.hid hg
    clear hR hg
    go_enter Try.func33, Try.ntmps33
    go_wp2_with fail
    refine (wiGood_any f ao cap L n w Hn hn hL Hc).mono ?_
    rintro e w' ⟨rfl, rfl⟩
    rw [Hg.out]
    go_wp2_with fail
    go_ret
    exact ⟨rfl, Below.refl _ _⟩
  · have Hg := Lib.hid hg
    by_cases hzn : z = n
    · cases hm : decide (0 ≤ m ∧ m ≤ f)
      · have hR : askB f L s m = false := by simp only [askB, hm, Bool.false_and, Bool.and_false]
        rw [hR]
        have Hm := Lib.hid hm
        have hne : ((z : Int) != (n : Int)) = false := by simp; omega
        clear hR hg hm hzn
        go_enter Try.func33, Try.ntmps33
        go_wp2_with fail
        refine (wiGood_any f ao cap L n w Hn hn hL Hc).mono ?_
        rintro e w' ⟨rfl, rfl⟩
        rw [Hg.out]
        go_wp2_with fail
        refine (l1In_any m 0 f w).mono ?_
        rintro e w' ⟨rfl, rfl⟩
        rw [Hm.out]
        go_wp2_with fail
        go_ret
        exact ⟨rfl, Below.refl _ _⟩
      · have hR : askB f L s m = okB s := by
          have : decide (s.size = L.length) = true := by simp only [decide_eq_true_eq]; rw [hz, hzn]; exact Hn.out
          simp only [askB, hg, hm, this, Bool.true_and]
        rw [hR]
        have Hm := Lib.hid hm
        have hne : ((z : Int) != (n : Int)) = false := by simp; omega
        have hzb : z ≤ 1048576 := by omega
        obtain ⟨r, hr⟩ : ∃ r, okB s = r := ⟨_, rfl⟩
        rw [hr]
        have HR := Lib.hid hr
        clear hR hg hm hzn hs hr
        go_enter Try.func33, Try.ntmps33
        go_wp2_with fail
        refine (wiGood_any f ao cap L n w Hn hn hL Hc).mono ?_
        rintro e w' ⟨rfl, rfl⟩
        rw [Hg.out]
        go_wp2_with fail
        refine (l1In_any m 0 f w).mono ?_
        rintro e w' ⟨rfl, rfl⟩
        rw [Hm.out]
        go_wp2_with fail
        go_loopw [] (fun wr => ∃ pos : Nat, pos ≤ z ∧ wr = w.iter s pos ∧ Hid (∀ j, j < pos → okS ((bt s).getD j 0) = true)) (fun wr => z - wr.iterPos w.heap.size)
        case atStart => exact ⟨0, Nat.zero_le _, rfl, fun j hj => absurd hj (by omega)⟩
        case round =>
          obtain ⟨pos, hp, rfl, hall⟩ := hrel
          have hz2 := Hz.out
          by_cases hlt : pos < z
          · have hps : pos < s.size := by omega
            have hnx : ∀ ty, (Instr.next (.pointer (some ⟨w.heap.size, 0, none⟩)) true ty).run Try.prog (w.iter s pos) = _ := fun ty => run_next_any w s pos ty hps
            have hix := fun W => idx_at s pos hps W
            cases ho : okS ((bt s).getD pos 0)
            · have Hno := Lib.hid (ok_no (by omega) ho)
              rw [HR.out] at Hno
              have hr0 : r = false := Hno.out
              rw [bt_at s pos hps] at ho
              obtain ⟨q, hq⟩ : ∃ q : Nat, (s[pos]'hps).toNat = q := ⟨_, rfl⟩
              simp only [hq] at hix
              rw [hq] at ho
              simp only [okS, Bool.or_eq_false_iff, beq_eq_false_iff_ne] at ho
              have h48 : ((q : Int) != 48) = true := by rw [bne_iff_ne]; omega
              have h49 : ((q : Int) != 49) = true := by rw [bne_iff_ne]; omega
              subst hr0
              obtain ⟨c, hc⟩ : ∃ c, (Utf8.decode s pos) = c := ⟨_, rfl⟩
              rw [hc] at hnx
              clear ho hq hz2 hc
              go_wp2_with fail
              go_ret
              exact ⟨rfl, (Below.refl w.heap.size w).alloc (Nat.le_refl _) _⟩
            · have hbyte : (s[pos]'hps).toNat = 48 ∨ (s[pos]'hps).toNat = 49 := by
                rw [bt_at s pos hps] at ho
                simpa [okS] using ho
              have hall2 : Hid (∀ j, j < pos + 1 → okS ((bt s).getD j 0) = true) := by
                intro j hj
                by_cases hjk : j = pos
                · subst hjk; exact ho
                · exact hall.out j (by omega)
              have ha : (s[pos]'hps).toNat < 128 := by omega
              rw [decode_ascii s pos hps ha] at hnx
              rcases hbyte with hb | hb
              · rw [hb] at hnx
                simp only [hb] at hix
                clear ho ha hb hz2
                go_wp2_with fail
                go_roundw
                case rel => exact ⟨pos + 1, by omega, rfl, hall2⟩
                case measure => simp; omega
              · rw [hb] at hnx
                simp only [hb] at hix
                clear ho ha hb hz2
                go_wp2_with fail
                go_roundw
                case rel => exact ⟨pos + 1, by omega, rfl, hall2⟩
                case measure => simp; omega
          · have hps : ¬ pos < s.size := by omega
            have hnx : ∀ ty, (Instr.next (.pointer (some ⟨w.heap.size, 0, none⟩)) true ty).run Try.prog (w.iter s pos) = _ := fun ty => run_next_end w s pos ty hps
            have hr1 : r = true := by rw [← HR.out]; exact ok_yes (fun j hj => hall.out j (by omega))
            subst hr1
            clear hz2
            go_wp2_with fail
            go_ret
            exact ⟨rfl, (Below.refl w.heap.size w).alloc (Nat.le_refl _) _⟩
    · have hR : askB f L s m = false := by
        have : decide (s.size = L.length) = false := by simp only [decide_eq_false_iff_not]; rw [hz, ← Hn.out]; exact hzn
        simp only [askB, this, Bool.false_and, Bool.and_false]
      rw [hR]
      have hne : ((z : Int) != (n : Int)) = true := by rw [bne_iff_ne]; omega
      clear hR hg hzn
      go_enter Try.func33, Try.ntmps33
      go_wp2_with fail
      refine (wiGood_any f ao cap L n w Hn hn hL Hc).mono ?_
      rintro e w' ⟨rfl, rfl⟩
      rw [Hg.out]
      go_wp2_with fail
      go_ret
      exact ⟨rfl, Below.refl _ _⟩

end Go.Proofs.Ytoigafjocckepaa
