/- A text cut at each '>': the model. -/
import Derived.Test.YtfbkpdmphlgokaaDoorSplit
namespace Go.Proofs.YtfbkpdmphlgokaaDoor
open Go.ChangeShapes Go.WideShapes Go.ChangeAt Go.RowKit
set_option linter.unusedVariables false

def spM : List UInt8 → List (List UInt8)
  | [] => [[]]
  | x :: t => if x = 62 then [] :: spM t else match spM t with | [] => [[x]] | h :: r => (x :: h) :: r

theorem spM_ne : ∀ l, spM l ≠ []
  | [] => by simp [spM]
  | x :: t => by
    unfold spM
    split
    · simp
    · split <;> simp

def frM (l : List UInt8) : Nat → Nat | 0 => 0 | i + 1 => if l.getD i 0 = 62 then i + 1 else frM l i
def dnM (l : List UInt8) : Nat → List (List UInt8) | 0 => [] | i + 1 => if l.getD i 0 = 62 then dnM l i ++ [(l.drop (frM l i)).take (i - frM l i)] else dnM l i
theorem frM_le (l : List UInt8) : ∀ i, frM l i ≤ i
  | 0 => Nat.le_refl _
  | i + 1 => by have := frM_le l i; unfold frM; split <;> omega
theorem dnM_le (l : List UInt8) : ∀ i, (dnM l i).length ≤ i
  | 0 => Nat.le_refl _
  | i + 1 => by have := dnM_le l i; unfold dnM; split <;> simp <;> omega

def hdpM (p : List UInt8) : List (List UInt8) → List (List UInt8) | [] => [p] | h :: r => (p ++ h) :: r

theorem spM_dn (l : List UInt8) : ∀ i, i ≤ l.length → spM l = dnM l i ++ hdpM ((l.drop (frM l i)).take (i - frM l i)) (spM (l.drop i))
  | 0, _ => by
    cases h : spM l with
    | nil => exact absurd h (spM_ne l)
    | cons a r => simp [dnM, frM, hdpM, h]
  | i + 1, h => by
    have ih := spM_dn l i (by omega)
    have hfr := frM_le l i
    have hd : l.drop i = l.getD i 0 :: l.drop (i + 1) := by
      rw [List.drop_eq_getElem_cons (by omega)]
      simp [List.getD_eq_getElem?_getD, show i < l.length by omega]
    rw [ih, hd]
    by_cases hx : l.getD i 0 = 62
    · rw [spM, if_pos hx]
      have e1 : frM l (i + 1) = i + 1 := by rw [frM, if_pos hx]
      have e2 : dnM l (i + 1) = dnM l i ++ [(l.drop (frM l i)).take (i - frM l i)] := by rw [dnM, if_pos hx]
      rw [e1, e2]
      cases hs : spM (l.drop (i + 1)) with
      | nil => exact absurd hs (spM_ne _)
      | cons a r => simp [hdpM]
    · rw [spM, if_neg hx]
      have e1 : frM l (i + 1) = frM l i := by rw [frM, if_neg hx]
      have e2 : dnM l (i + 1) = dnM l i := by rw [dnM, if_neg hx]
      rw [e1, e2]
      cases hs : spM (l.drop (i + 1)) with
      | nil => exact absurd hs (spM_ne _)
      | cons a r =>
        have e3 : (l.drop (frM l i)).take (i + 1 - frM l i) = (l.drop (frM l i)).take (i - frM l i) ++ [l.getD i 0] := by
          rw [show i + 1 - frM l i = (i - frM l i) + 1 by omega, List.take_succ_eq_append_getElem (by simp; omega)]
          congr 2
          simp [List.getD_eq_getElem?_getD, show i < l.length by omega, show frM l i + (i - frM l i) = i by omega]
        rw [e3]
        simp [hdpM]

theorem spM_end (l : List UInt8) : spM l = dnM l l.length ++ [l.drop (frM l l.length)] := by
  have h := spM_dn l l.length (Nat.le_refl _)
  rw [List.drop_length] at h
  rw [h]
  simp [spM, hdpM, List.take_of_length_le]

set_option maxRecDepth 20000 in
theorem l1SplitM_any (s : ByteArray) (l : List UInt8) (Hl : Hid (l = s.data.toList)) (n : Nat) (Hn : Hid (n = s.size)) (hs : n ≤ 180) (w : World) :
    Calls Tryd.prog 19 #[.string s, .int .u8 62] w fun e w' => ∃ v, e = .returned v ∧ w'.ownsRow w.heap.size 9 1 v (spM l).length (sv (spM l)) ∧ Below w.heap.size w w' := by
  obtain ⟨i0, hi, hz0, hz1, hz2⟩ := info_parts info9
  have hsz9 : s.size = n := Hn.out.symm
  go_enter Tryd.func19, Tryd.ntmps19
  go_wp2_with fail
  go_loopw [5, 6, 7] (fun v f i wr => ∃ k : Nat, k ≤ n ∧ i = .int .i64 k ∧ f = .int .i64 (frM l k : Int) ∧ wr.ownsRow w.heap.size 9 1 v (dnM l k).length (sv (dnM l k)) ∧ Below w.heap.size w wr) (fun _ _ i _ => n - (intOf i).toNat)
  case atStart => exact ⟨0, Nat.zero_le _, rfl, rfl, World.ownsRow_nil _ _ _ _, Below.refl _ _⟩
  case round =>
    obtain ⟨k, hk, rfl, rfl, hor, hbel⟩ := hrel
    have hsz := hbel.size
    have Hor := Lib.hid hor
    have Hfr := Lib.hid (frM_le l k)
    have Hdn := Lib.hid (dnM_le l k)
    clear hor
    by_cases hlt : k < n
    · obtain ⟨f, hf⟩ : ∃ f, f = frM l k := ⟨_, rfl⟩
      have hff : f = frM l k := hf
      have hfk : f ≤ k := by rw [hf]; exact Hfr.out
      rw [← hf]
      have b0 : (0 : Int) ≤ (k : Int) := by omega
      have b1 : (k : Int) < (s.size : Int) := by omega
      have b2 : (0 : Int) ≤ (f : Int) := by omega
      have b3 : (f : Int) ≤ (k : Int) := by omega
      have b4 : (k : Int) ≤ (s.size : Int) := by omega
      have hks : k < s.size := by omega
      have Hget : Hid (l.getD k 0 = s[k]'hks) := by
        show l.getD k 0 = s[k]'hks
        have hkl : k < s.data.toList.length := by simpa using hks
        rw [Hl.out, List.getD_eq_getElem?_getD, List.getElem?_eq_getElem hkl]
        rfl
      clear hf
      by_cases hx : ((s[k]'hks).toNat : Int) = 62
      · have hx62 : l.getD k 0 = 62 := by
          rw [Hget.out]
          apply UInt8.toNat_inj.1
          show (s[k]'hks).toNat = 62
          omega
        have Hd : Hid (dnM l (k + 1) = dnM l k ++ [(l.drop f).take (k - f)] ∧ frM l (k + 1) = k + 1) := by
          rw [hff]; exact ⟨by rw [dnM, if_pos hx62], by rw [frM, if_pos hx62]⟩
        have Hp : Hid (Value.string (s.extract f k) = .string ⟨((l.drop f).take (k - f)).toArray⟩) := by
          show Value.string (s.extract f k) = .string ⟨((l.drop f).take (k - f)).toArray⟩
          congr 1
          apply ByteArray.ext
          apply Array.toList_inj.1
          rw [Lib.extract_data, Hl.out]
        clear hx62 hff
        go_wp2_with (at_builtin; refine wpList_append_own _ rfl _ _ 33 rfl w.heap.size 9 i0 (.string ⟨#[]⟩) 1 16 Tryd.underlying33 hi hz0 hz1 hz2 rfl (by decide) _ _ _ rfl (Hor.out.alloc _) ⟨wr.heap.size, 0, none⟩ 1 1 [.string (s.extract f k)] rfl rfl ?c1 ?c2 ?c3 ?c4 ?c5 ?_)
        case c1 => exact World.news_of_block (cs := #[.string (s.extract f k)]) (t := 9) (fr := (0, 0)) (heap_alloc_new _ _)
        case c2 => intro u hu; simp at hu; subst hu; rfl
        case c3 => have := Hdn.out; unfold maxLen; omega
        case c4 => have := Hdn.out; omega
        case c5 => simp; omega
        intro v' w2 hown' hgr _
        rw [Hp.out] at hown'
        have Hown := Lib.hid hown'
        have Hbel := Lib.hid ((hbel.alloc hsz _).grown hgr (by simp; omega) (fun b hb => (Hor.out.lt b hb).1))
        clear hown' hgr hbel
        go_wp2_with fail
        go_roundw
        case rel => exact ⟨k + 1, by omega, by go_num, by rw [Hd.out.2]; go_num, by rw [Hd.out.1, sv_append, List.length_append]; exact Hown.out, Hbel.out⟩
        case measure => simp [intOf]; omega
      · have hx62 : ¬ l.getD k 0 = 62 := by
          rw [Hget.out]
          intro e
          apply hx
          rw [e]; rfl
        have Hd : Hid (dnM l (k + 1) = dnM l k ∧ frM l (k + 1) = f) := by
          rw [hff]; exact ⟨by rw [dnM, if_neg hx62], by rw [frM, if_neg hx62]⟩
        clear hx62 hff
        go_wp2_with fail
        go_roundw
        case rel => exact ⟨k + 1, by omega, by go_num, by rw [Hd.out.2], by rw [Hd.out.1]; exact Hor.out, hbel⟩
        case measure => simp [intOf]; omega
    · obtain rfl : k = n := by omega
      obtain ⟨f, hf⟩ : ∃ f, f = frM l k := ⟨_, rfl⟩
      have hff : f = frM l k := hf
      have hfk : f ≤ k := by rw [hf]; exact Hfr.out
      rw [← hf]
      have b2 : (0 : Int) ≤ (f : Int) := by omega
      have b3 : (f : Int) ≤ (s.size : Int) := by omega
      have hll : l.length = k := by rw [Hl.out, Hn.out]; simp
      have He : Hid (spM l = dnM l k ++ [l.drop f]) := by
        have := spM_end l
        rw [hll] at this
        rw [hff]; exact this
      have Hp : Hid (Value.string (s.extract f k) = .string ⟨(l.drop f).toArray⟩) := by
        show Value.string (s.extract f k) = .string ⟨(l.drop f).toArray⟩
        congr 1
        apply ByteArray.ext
        apply Array.toList_inj.1
        rw [Lib.extract_data, ← Hl.out]
        exact List.take_of_length_le (by rw [List.length_drop]; omega)
      clear hf hff hll hlt hk
      go_wp2_with (at_builtin; refine wpList_append_own _ rfl _ _ 33 rfl w.heap.size 9 i0 (.string ⟨#[]⟩) 1 16 Tryd.underlying33 hi hz0 hz1 hz2 rfl (by decide) _ _ _ rfl (Hor.out.alloc _) ⟨wr.heap.size, 0, none⟩ 1 1 [.string (s.extract f k)] rfl rfl ?c1 ?c2 ?c3 ?c4 ?c5 ?_)
      case c1 => exact World.news_of_block (cs := #[.string (s.extract f k)]) (t := 9) (fr := (0, 0)) (heap_alloc_new _ _)
      case c2 => intro u hu; simp at hu; subst hu; rfl
      case c3 => have := Hdn.out; unfold maxLen; omega
      case c4 => have := Hdn.out; omega
      case c5 => simp; omega
      intro v' w2 hown' hgr _
      rw [Hp.out] at hown'
      have Hown := Lib.hid hown'
      have Hbel := Lib.hid ((hbel.alloc hsz _).grown hgr (by simp; omega) (fun b hb => (Hor.out.lt b hb).1))
      clear hown' hgr hbel
      go_wp2_with fail
      go_ret
      exact ⟨_, rfl, by rw [He.out, sv_append, List.length_append]; exact Hown.out, Hbel.out⟩

end Go.Proofs.YtfbkpdmphlgokaaDoor
