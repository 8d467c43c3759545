/- Is it a cast, both sides. -/
import Derived.Test.YtaangjidkkpogaaDoorShelf
import Derived.Laws.RangeAny
import Derived.Lib.Bytealg
namespace Go.Proofs.YtaangjidkkpogaaDoor
open Go.ChangeShapes Go.WideShapes Go.ChangeAt Go.RowKit
set_option linter.unusedVariables false


theorem dropW_nil {α : Type} (p : α → Bool) (l : List α) : (l.dropWhile p).isEmpty = l.all p := by
  induction l with
  | nil => rfl
  | cons a l ih =>
    rw [List.dropWhile_cons, List.all_cons]
    cases h : p a
    · simp
    · simpa using ih
theorem dropW_all {α : Type} (p : α → Bool) (l : List α) : (l.dropWhile p).all p = l.all p := by
  induction l with
  | nil => rfl
  | cons a l ih =>
    rw [List.dropWhile_cons, List.all_cons]
    cases h : p a
    · simp [h]
    · simpa using ih
theorem trimS_nil (l cs : List UInt8) : (Lib.trimS l cs).isEmpty = l.all (cs.contains ·) := by
  unfold Lib.trimS Lib.trimLeftS Lib.trimRightS
  rw [dropW_nil, List.all_reverse, dropW_all, List.all_reverse]
def cstB (s : ByteArray) : Bool := s.data.toList.all fun b => b == 104 || b == 108
theorem castB_def (s : ByteArray) : castB s = (frB s.size && cstB s) := rfl
theorem trim_cst (s : ByteArray) : (Lib.trimS s.data.toList [104, 108]).isEmpty = cstB s := by
  rw [trimS_nil]
  unfold cstB
  congr 1
  funext b
  simp [List.contains, List.elem]
  cases (b == 104) <;> cases (b == 108) <;> rfl
theorem isCast_any (s : ByteArray) (w : World) (hs : s.size ≤ 1048576) :
    Calls Tryd.prog 32 #[.string s] w fun e w' => e = .returned (.bool (castB s)) ∧ Below w.heap.size w w' := by
  have HT := Lib.hid (fun w => trim_any s w (by omega))
  have hE := trim_cst s
  rw [castB_def]
  obtain ⟨r, hr⟩ : ∃ r : ByteArray, (⟨(Lib.trimS s.data.toList [104, 108]).toArray⟩ : ByteArray) = r := ⟨_, rfl⟩
  have hr2 : r.toList.isEmpty = cstB s := by rw [← hr, Lib.toList_data, ← hE]
  rw [hr] at HT
  obtain ⟨z, hz⟩ : ∃ z, s.size = z := ⟨_, rfl⟩
  generalize cstB s = b at hr2 ⊢
  have HF := Lib.hid (fun w => canBe_any (s.size : Int) w)
  rw [hz] at HF ⊢
  clear hE hr
  cases hf : frB (z : Int)
  · rw [hf] at HF
    clear hf
    go_enter Tryd.func32, Tryd.ntmps32
    go_wp2_with fail
    refine (HF.out _).mono ?_
    rintro e w' ⟨rfl, rfl⟩
    go_wp2_with fail
    go_ret
    exact ⟨rfl, Below.refl _ _⟩
  · rw [hf] at HF
    clear hf
    go_enter Tryd.func32, Tryd.ntmps32
    go_wp2_with fail
    refine (HF.out _).mono ?_
    rintro e w' ⟨rfl, rfl⟩
    go_wp2_with fail
    refine (HT.out _).mono ?_
    rintro e w1 ⟨rfl, hb1⟩
    have Hb1 := Lib.hid hb1
    clear hb1
    go_wp2_with fail
    go_ret
    exact ⟨ret_bool (by simp), Hb1.out⟩
theorem cst_no {s : ByteArray} {i : Nat} (h : i < s.size) (h1 : (s[i]'h).toNat ≠ 104) (h2 : (s[i]'h).toNat ≠ 108) : cstB s = false := by
  unfold cstB
  rw [List.all_eq_false]
  refine ⟨s[i]'h, ?_, ?_⟩
  · have : s[i]'h = s.data.toList[i]'(by simpa using h) := rfl
    rw [this]; exact List.getElem_mem _
  · have e1 : (s[i]'h == 104) = false := by rw [beq_eq_false_iff_ne]; intro e; rw [e] at h1; exact h1 rfl
    have e2 : (s[i]'h == 108) = false := by rw [beq_eq_false_iff_ne]; intro e; rw [e] at h2; exact h2 rfl
    rw [e1, e2]; simp
theorem cst_yes {s : ByteArray} (h : ∀ i, (hi : i < s.size) → (s[i]'hi).toNat = 104 ∨ (s[i]'hi).toNat = 108) : cstB s = true := by
  unfold cstB
  rw [List.all_eq_true]
  intro b hb
  obtain ⟨i, hi, rfl⟩ := List.getElem_of_mem hb
  have hi2 : i < s.size := by simpa using hi
  have hh := h i hi2
  have e : s.data.toList[i] = s[i]'hi2 := rfl
  rw [e]
  rcases hh with hh | hh
  · have : s[i]'hi2 = 104 := UInt8.toNat.inj hh
    rw [this]; rfl
  · have : s[i]'hi2 = 108 := UInt8.toNat.inj hh
    rw [this]; rfl
set_option maxHeartbeats 800000 in
set_option maxRecDepth 20000 in
theorem liCast_any (s : ByteArray) (w : World) (hs : s.size ≤ 1048576) :
    Calls Tryd.prog 28 #[.string s] w fun e w' => e = .returned (.bool (castB s)) ∧ Below w.heap.size w w' := by
  obtain ⟨z, hz⟩ : ∃ z, s.size = z := ⟨_, rfl⟩
  have Hz := Lib.hid hz
  rw [castB_def]
  have HF := Lib.hid (fun w => liFriends_any (s.size : Int) w)
  rw [hz] at HF hs ⊢
  obtain ⟨r, hr⟩ : ∃ r, cstB s = r := ⟨_, rfl⟩
  have HR := Lib.hid hr
  rw [hr]
  clear hr
  cases hf : frB (z : Int)
  · rw [hf] at HF
    clear hf
    go_enter Tryd.func28, Tryd.ntmps28
    go_wp2_with fail
    refine (HF.out _).mono ?_
    rintro e w' ⟨rfl, rfl⟩
    go_wp2_with fail
    go_ret
    exact ⟨rfl, Below.refl _ _⟩
  · rw [hf] at HF
    have hrr : (true && r) = r := by simp
    rw [hrr]
    have HI : Hid (∀ i, (h : i < s.size) → ∀ W : World, (Instr.index 9 (.string s) (.int .i64 (i : Int))).run Tryd.prog W = .ok (.int .u8 (((s[i]'h).toNat : Nat) : Int)) W) := Lib.hid (fun i h W => by
      rw [run_index_string W 9 s .i64 (i : Int) Tryd.underlying9, dif_pos (by omega)]
      rfl)
    clear hf hrr
    go_enter Tryd.func28, Tryd.ntmps28
    go_wp2_with fail
    refine (HF.out _).mono ?_
    rintro e w' ⟨rfl, rfl⟩
    go_wp2_with fail
    go_loopw [] (fun wr => ∃ pos : Nat, pos ≤ z ∧ wr = w.iter s pos ∧ Hid (∀ i, i < pos → (hi : i < s.size) → (s[i]'hi).toNat = 104 ∨ (s[i]'hi).toNat = 108)) (fun wr => z - wr.iterPos w.heap.size)
    case atStart => exact ⟨0, Nat.zero_le _, rfl, Lib.hid (fun j hj => absurd hj (by omega))⟩
    case round =>
      obtain ⟨pos, hp, rfl, hall⟩ := hrel
      have hz2 := Hz.out
      by_cases hlt : pos < z
      · have hps : pos < s.size := by omega
        have hnx : ∀ ty, (Instr.next (.pointer (some ⟨w.heap.size, 0, none⟩)) true ty).run Tryd.prog (w.iter s pos) = _ := fun ty => run_next_any w s pos ty hps
        have hix := HI.out pos hps
        by_cases hby : (s[pos]'hps).toNat = 104 ∨ (s[pos]'hps).toNat = 108
        · have hall2 : Hid (∀ i, i < pos + 1 → (hi : i < s.size) → (s[i]'hi).toNat = 104 ∨ (s[i]'hi).toNat = 108) := Lib.hid (fun i hi h2 => by
            by_cases e : i = pos
            · subst e; exact hby
            · exact hall.out i (by omega) h2)
          rw [decode_ascii s pos hps (by omega)] at hnx
          obtain ⟨b, hb⟩ : ∃ b, (s[pos]'hps).toNat = b := ⟨_, rfl⟩
          rw [hb] at hnx hix hby
          clear hz2 hb
          rcases hby with rfl | rfl
          · go_wp2_with fail
            go_roundw
            case rel => exact ⟨pos + 1, by omega, rfl, hall2⟩
            case measure => simp; omega
          · go_wp2_with fail
            go_roundw
            case rel => exact ⟨pos + 1, by omega, rfl, hall2⟩
            case measure => simp; omega
        · have hr0 : r = false := by rw [← HR.out]; exact cst_no hps (by omega) (by omega)
          obtain ⟨c, hc⟩ : ∃ c : Nat, (Utf8.decode s pos).1 = c := ⟨_, rfl⟩
          obtain ⟨c2, hc2⟩ : ∃ c : Nat, (Utf8.decode s pos).2 = c := ⟨_, rfl⟩
          obtain ⟨b, hb⟩ : ∃ b, (s[pos]'hps).toNat = b := ⟨_, rfl⟩
          rw [hb] at hix hby
          have h104 : ((b : Int) != 104) = true := by rw [bne_iff_ne]; omega
          have h108 : ((b : Int) != 108) = true := by rw [bne_iff_ne]; omega
          rw [hc] at hnx
          subst hr0
          clear hz2 hb hby hall hc2
          go_wp2_with fail
          go_ret
          exact ⟨rfl, (Below.refl w.heap.size w).alloc (Nat.le_refl _) _⟩
      · have hps : ¬ pos < s.size := by omega
        have hnx : ∀ ty, (Instr.next (.pointer (some ⟨w.heap.size, 0, none⟩)) true ty).run Tryd.prog (w.iter s pos) = _ := fun ty => run_next_end w s pos ty hps
        have hr1 : r = true := by rw [← HR.out]; exact cst_yes (fun j hj => hall.out j (by omega) hj)
        subst hr1
        clear hz2
        go_wp2_with fail
        go_ret
        exact ⟨rfl, (Below.refl w.heap.size w).alloc (Nat.le_refl _) _⟩

end Go.Proofs.YtaangjidkkpogaaDoor
