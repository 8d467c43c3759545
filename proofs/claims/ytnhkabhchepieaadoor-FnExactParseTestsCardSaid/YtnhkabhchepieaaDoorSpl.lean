/- A text cut at a byte: the model. -/
import Derived.Test.YtnhkabhchepieaaDoorSpg
import Derived.Test.YtnhkabhchepieaaDoorStr
import Derived.Test.YtnhkabhchepieaaDoorShelf
namespace Go.Proofs.YtnhkabhchepieaaDoor
open Go.ChangeShapes Go.WideShapes Go.ChangeAt Go.RowKit
set_option linter.unusedVariables false

def sv (q : List (List UInt8)) : List Value := q.map fun t => .string ⟨t.toArray⟩
theorem sv_append (q r : List (List UInt8)) : sv (q ++ r) = sv q ++ sv r := by simp [sv]

set_option maxRecDepth 20000 in
theorem l1Split_any (c : UInt8) (s : ByteArray) (l : List UInt8) (Hl : Hid (l = s.data.toList)) (n : Nat) (Hn : Hid (n = s.size)) (hs : n ≤ 1000) (w : World) :
    Calls Tryd.prog 37 #[.string s, .int .u8 (c.toNat : Int)] w fun e w' => ∃ v, e = .returned v ∧ w'.ownsRow w.heap.size 9 1 v (spF c l).length (sv (spF c l)) ∧ Below w.heap.size w w' := by
  obtain ⟨i0, hi, hz0, hz1, hz2⟩ := info_parts info9
  have hsz9 : s.size = n := Hn.out.symm
  go_enter Tryd.func37, Tryd.ntmps37
  go_wp2_with fail
  go_loopw [5, 6, 7] (fun v f i wr => ∃ k : Nat, k ≤ n ∧ i = .int .i64 k ∧ f = .int .i64 (fr c l k : Int) ∧ wr.ownsRow w.heap.size 9 1 v (dn c l k).length (sv (dn c l k)) ∧ Below w.heap.size w wr) (fun _ _ i _ => n - (intOf i).toNat)
  case atStart => exact ⟨0, Nat.zero_le _, rfl, rfl, World.ownsRow_nil _ _ _ _, Below.refl _ _⟩
  case round =>
    obtain ⟨k, hk, rfl, rfl, hor, hbel⟩ := hrel
    have hsz := hbel.size
    have Hor := Lib.hid hor
    have Hfr := Lib.hid (fr_le c l k)
    have Hdn := Lib.hid (dn_le c l k)
    clear hor
    by_cases hlt : k < n
    · obtain ⟨f, hf⟩ : ∃ f, f = fr c l k := ⟨_, rfl⟩
      have hff : f = fr c l k := hf
      have hfk : f ≤ k := by rw [hf]; exact Hfr.out
      rw [← hf]
      have b0 : (0 : Int) ≤ (k : Int) := by omega
      have b1 : (k : Int) < (s.size : Int) := by omega
      have b2 : (0 : Int) ≤ (f : Int) := by omega
      have b3 : (f : Int) ≤ (k : Int) := by omega
      have b4 : (k : Int) ≤ (s.size : Int) := by omega
      have hks : k < s.size := by omega
      have Hget : Hid (l.getD k 0 = s[k]'hks) := by
        show l.getD k 0 = s[k]'hks
        have hkl : k < s.data.toList.length := by simpa using hks
        rw [Hl.out, List.getD_eq_getElem?_getD, List.getElem?_eq_getElem hkl]
        rfl
      clear hf
      by_cases hx : ((s[k]'hks).toNat : Int) = (c.toNat : Int)
      · have hx45 : l.getD k 0 = c := by
          rw [Hget.out]
          apply UInt8.toNat_inj.1
          show (s[k]'hks).toNat = c.toNat
          omega
        have Hd : Hid (dn c l (k + 1) = dn c l k ++ [(l.drop f).take (k - f)] ∧ fr c l (k + 1) = k + 1) := by
          rw [hff]; exact ⟨by rw [dn, if_pos hx45], by rw [fr, if_pos hx45]⟩
        have Hp : Hid (Value.string (s.extract f k) = .string ⟨((l.drop f).take (k - f)).toArray⟩) := by
          show Value.string (s.extract f k) = .string ⟨((l.drop f).take (k - f)).toArray⟩
          congr 1
          apply ByteArray.ext
          apply Array.toList_inj.1
          rw [Lib.extract_data, Hl.out]
        clear hx45 hff
        go_wp2_with (at_builtin; refine wpList_append_own _ rfl _ _ 53 rfl w.heap.size 9 i0 (.string ⟨#[]⟩) 1 16 Tryd.underlying53 hi hz0 hz1 hz2 rfl (by decide) _ _ _ rfl (Hor.out.alloc _) ⟨wr.heap.size, 0, none⟩ 1 1 [.string (s.extract f k)] rfl rfl ?c1 ?c2 ?c3 ?c4 ?c5 ?_)
        case c1 => exact World.news_of_block (cs := #[.string (s.extract f k)]) (t := 9) (fr := (0, 0)) (heap_alloc_new _ _)
        case c2 => intro u hu; simp at hu; subst hu; rfl
        case c3 => have := Hdn.out; unfold maxLen; omega
        case c4 => have := Hdn.out; omega
        case c5 => simp; omega
        intro v' w2 hown' hgr _
        rw [Hp.out] at hown'
        have Hown := Lib.hid hown'
        have Hbel := Lib.hid ((hbel.alloc hsz _).grown hgr (by simp; omega) (fun b hb => (Hor.out.lt b hb).1))
        clear hown' hgr hbel
        go_wp2_with fail
        go_roundw
        case rel => exact ⟨k + 1, by omega, by go_num, by rw [Hd.out.2]; go_num, by rw [Hd.out.1, sv_append, List.length_append]; exact Hown.out, Hbel.out⟩
        case measure => simp [intOf]; omega
      · have hx45 : ¬ l.getD k 0 = c := by
          rw [Hget.out]
          intro e
          apply hx
          rw [e]
        have Hd : Hid (dn c l (k + 1) = dn c l k ∧ fr c l (k + 1) = f) := by
          rw [hff]; exact ⟨by rw [dn, if_neg hx45], by rw [fr, if_neg hx45]⟩
        clear hx45 hff
        go_wp2_with fail
        go_roundw
        case rel => exact ⟨k + 1, by omega, by go_num, by rw [Hd.out.2], by rw [Hd.out.1]; exact Hor.out, hbel⟩
        case measure => simp [intOf]; omega
    · obtain rfl : k = n := by omega
      obtain ⟨f, hf⟩ : ∃ f, f = fr c l k := ⟨_, rfl⟩
      have hff : f = fr c l k := hf
      have hfk : f ≤ k := by rw [hf]; exact Hfr.out
      rw [← hf]
      have b2 : (0 : Int) ≤ (f : Int) := by omega
      have b3 : (f : Int) ≤ (s.size : Int) := by omega
      have hll : l.length = k := by rw [Hl.out, Hn.out]; simp
      have He : Hid (spF c l = dn c l k ++ [l.drop f]) := by
        have := spF_end c l
        rw [hll] at this
        rw [hff]; exact this
      have Hp : Hid (Value.string (s.extract f k) = .string ⟨(l.drop f).toArray⟩) := by
        show Value.string (s.extract f k) = .string ⟨(l.drop f).toArray⟩
        congr 1
        apply ByteArray.ext
        apply Array.toList_inj.1
        rw [Lib.extract_data, ← Hl.out]
        exact List.take_of_length_le (by rw [List.length_drop]; omega)
      clear hf hff hll hlt hk
      go_wp2_with (at_builtin; refine wpList_append_own _ rfl _ _ 53 rfl w.heap.size 9 i0 (.string ⟨#[]⟩) 1 16 Tryd.underlying53 hi hz0 hz1 hz2 rfl (by decide) _ _ _ rfl (Hor.out.alloc _) ⟨wr.heap.size, 0, none⟩ 1 1 [.string (s.extract f k)] rfl rfl ?c1 ?c2 ?c3 ?c4 ?c5 ?_)
      case c1 => exact World.news_of_block (cs := #[.string (s.extract f k)]) (t := 9) (fr := (0, 0)) (heap_alloc_new _ _)
      case c2 => intro u hu; simp at hu; subst hu; rfl
      case c3 => have := Hdn.out; unfold maxLen; omega
      case c4 => have := Hdn.out; omega
      case c5 => simp; omega
      intro v' w2 hown' hgr _
      rw [Hp.out] at hown'
      have Hown := Lib.hid hown'
      have Hbel := Lib.hid ((hbel.alloc hsz _).grown hgr (by simp; omega) (fun b hb => (Hor.out.lt b hb).1))
      clear hown' hgr hbel
      go_wp2_with fail
      go_ret
      exact ⟨_, rfl, by rw [He.out, sv_append, List.length_append]; exact Hown.out, Hbel.out⟩

end Go.Proofs.YtnhkabhchepieaaDoor
