/- Suspects: the model. -/
import Derived.Test.YtejmlhhblckddaaSu
namespace Go.Proofs.Ytejmlhhblckddaa
open Go.ChangeShapes Go.WideShapes Go.ChangeAt Go.RowKit
set_option linter.unusedVariables false


set_option maxHeartbeats 1600000 in
set_option maxRecDepth 20000 in
theorem specSu_any (w : World) (f : Int) (ao : Option Addr) (cap : Nat) (L : List (List Int)) (n : Nat) (Hn : Hid (n = L.length)) (hn : n ≤ 1048576) (hL : Hid (∀ i, (row L i).length ≤ 1048576)) (Hc : RowsAt w ao L) (s : ByteArray) (hs : s.size ≤ 1048576) :
    Calls Try.prog 28 #[.int .i64 f, .slice ao n cap, .string s] w fun e w' => ∃ v, e = .returned (.tuple #[v, .bool (suB f L s)]) ∧ w'.ownsRow w.heap.size 3 1 v (suR f L s).length (ns (suR f L s)) ∧ Below w.heap.size w w' := by
  obtain ⟨i3, hi3, hz30, hz31, hz32⟩ := info_parts info3
  have HC := Lib.hid Hc
  have Hask := Lib.hid (wiAsked_any f ao cap L n s 0 w Hn hn hL HC hs)
  rw [ask_zero] at Hask
  clear Hc
  cases hg : (wiB f L && arB L.length s)
  · have hB : suB f L s = false := hg
    have hR : suR f L s = [] := by simp [suR, hB]
    rw [hR, hB]
    rw [hg] at Hask
    clear hg hR hB
    go_enter Try.func28, Try.ntmps28
    go_wp2_with fail
    refine Hask.out.mono ?_
    rintro e w1 ⟨rfl, hb1⟩
    go_wp2_with fail
    go_ret2
    exact ⟨_, rfl, World.ownsRow_nil _ _ _ _, hb1⟩
  · have hB : suB f L s = true := hg
    rw [hg] at Hask
    simp only [Bool.and_eq_true] at hg
    have hp := wi_parts hg.1
    obtain ⟨F, rfl⟩ := Int.eq_ofNat_of_zero_le (a := f) (by omega)
    have hR : suR (F : Int) L s = spT L s L.length F := by simp [suR, hB]
    rw [hR, hB, ← Hn.out]
    have Hg := Lib.hid hg.1
    have hn12 : n ≤ 12 := by have := Hn.out; omega
    have hF10 : F ≤ 10 := by omega
    have hsz : s.size = n := by
      have h := hg.2
      simp only [arB, Bool.and_eq_true, decide_eq_true_eq] at h
      rw [Hn.out]; exact h.1
    have Hsz := Lib.hid hsz
    have HRw := Lib.hid (fun i (hi : i < L.length) => wi_row hg.1 hi)
    obtain ⟨RES, hRES⟩ : ∃ q, spT L s n F = q := ⟨_, rfl⟩
    rw [hRES]
    have HRES := Lib.hid hRES
    clear hg hR hB hp hsz hRES
    go_enter Try.func28, Try.ntmps28
    go_wp2_with fail
    refine Hask.out.mono ?_
    rintro e w1 ⟨rfl, hb1⟩
    have Hb1 := Lib.hid hb1
    have HC1 := Lib.hid (HC.out.kept hb1)
    clear hb1
    go_wp2_with fail
    go_loopw [8, 9] (fun v i wr => ∃ k : Nat, k ≤ F ∧ i = .int .i64 k ∧ wr.ownsRow w.heap.size 3 1 v (spT L s n k).length (ns (spT L s n k)) ∧ Below w.heap.size w wr ∧ Hid (RowsAt wr ao L)) (fun _ i _ => F - (intOf i).toNat)
    case atStart => exact ⟨0, Nat.zero_le _, rfl, World.ownsRow_nil _ _ _ _, Hb1.out, HC1⟩
    case round =>
      obtain ⟨x, hx, rfl, hor, hbel, HCr⟩ := hrel
      obtain ⟨wa, hwa⟩ : ∃ q, q = wr := ⟨_, rfl⟩
      subst hwa
      by_cases hlt : x < F
      · have hxi : (x : Int) < F := by omega
        have Hor := Lib.hid hor
        have Hbel := Lib.hid hbel
        have hszb := hbel.size
        clear hor hbel Hb1 HC1
        go_wp2_with fail
        go_loopw [10, 25] (fun v i wr => ∃ k : Nat, k ≤ n ∧ i = .int .i64 k ∧ v = .bool (free L s k x) ∧ wa = wr) (fun _ i _ => n - (intOf i).toNat)
        case atStart => exact ⟨0, Nat.zero_le _, rfl, rfl, rfl⟩
        case round =>
          obtain ⟨k, hk, rfl, rfl, rfl⟩ := hrel
          by_cases hlt2 : k < n
          · have hkL : k < L.length := by have := Hn.out; omega
            obtain ⟨b, off, A, C, hao, hc0, hA⟩ : ∃ (b off : Nat) (A : Nat → Option Addr) (C : Nat → Nat), ao = some ⟨b, off, none⟩ ∧ wa.cell? ⟨b, off + k, none⟩ = some (.slice (A k) (row L k).length (C k)) ∧ NumsAt wa (A k) (row L k) := by
              rcases HCr.out with h | ⟨b, off, A, C, h, hc, _⟩
              · subst h; simp at hkL
              · exact ⟨b, off, A, C, h, (hc k hkL).1, (hc k hkL).2⟩
            subst hao
            have hr := HRw.out k hkL
            obtain ⟨b2, off2, hao2, hcc⟩ : ∃ b2 off2, A k = some ⟨b2, off2, none⟩ ∧ ∀ i, i < (row L k).length → wa.cell? ⟨b2, off2 + i, none⟩ = some (.int .i64 (na (row L k) i)) := by
              rcases hA with h | ⟨b2, off2, h, hc⟩
              · rw [h] at hr; simp at hr
              · exact ⟨b2, off2, h, hc⟩
            rw [hao2] at hc0
            have hps : k < s.size := by have := Hsz.out; omega
            have hix := fun W => idx_at s k hps W
            have hbt := bt_at s k hps
            obtain ⟨c, hcb⟩ : ∃ c : Nat, (s[k]'hps).toNat = c := ⟨_, rfl⟩
            rw [hcb] at hbt
            simp only [hcb] at hix
            have hfs := free_succ L s k x
            rw [hbt] at hfs
            have Hfs := Lib.hid hfs
            have hk1 : (0 : Int) ≤ k := by omega
            have hk2 : (k : Int) < n := by omega
            have Hcc := Lib.hid hcc
            have hrl := hr.2.2
            cases hfr : free L s k x
            · rw [hfr, Bool.false_or] at Hfs
              by_cases h48 : c = 48
              · have hce : ((c : Int) == 48) = true := by simp; omega
                have hce2 : (c == 48) = true := by simpa using h48
                rw [hce2, Bool.true_and] at Hfs
                clear hbt hcb hfs hcc hr hA hce2 h48 hfr
                go_wp2_with fail
                refine (l1Has_pos b2 off2 (C k) (row L k) (row L k).length (x : Int) wa (by omega) Hcc).mono ?_
                rintro e w' ⟨rfl, rfl⟩
                rw [← Hfs.out]
                go_wp2_with fail
                go_roundw
                case rel => exact ⟨k + 1, by omega, by go_num, rfl, by trivial⟩
                case measure => simp [intOf]; omega
              · have hce : ((c : Int) == 48) = false := by rw [beq_eq_false_iff_ne]; omega
                have hce2 : (c == 48) = false := by simpa using h48
                rw [hce2, Bool.false_and] at Hfs
                clear hbt hcb hfs hcc hr hA hce2 h48 hfr
                go_wp2_with fail
                go_roundw
                case rel => exact ⟨k + 1, by omega, by go_num, by rw [Hfs.out], by trivial⟩
                case measure => simp [intOf]; omega
            · rw [hfr, Bool.true_or] at Hfs
              clear hbt hcb hfs hcc hr hA hfr
              go_wp2_with fail
              go_roundw
              case rel => exact ⟨k + 1, by omega, by go_num, by rw [Hfs.out], by trivial⟩
              case measure => simp [intOf]; omega
          · obtain rfl : k = n := by omega
            cases hfr : free L s k x
            · have Hs : Hid (spT L s k (x + 1) = spT L s k x ++ [(x : Int)]) := by show _ = _; simp only [spT]; rw [if_neg (by rw [hfr]; decide)]
              obtain ⟨m, hm⟩ : ∃ m, (spT L s k x).length = m := ⟨_, rfl⟩
              have hml : m ≤ 10 := by rw [← hm]; have := spT_len L s k x; omega
              rw [hm] at Hor
              have Hm := Lib.hid hm
              have bd : Below wa.heap.size wa (wa.alloc (.cells #[.int .i64 (x : Int)] 3)) := (Below.refl wa.heap.size wa).alloc (Nat.le_refl _) _
              have Hrow7 := Lib.hid (own_later Hor.out bd)
              have Hb7 := Lib.hid (Hbel.out.trans (bd.mono hszb))
              have HC7 := Lib.hid (HCr.out.kept bd)
              have hszW : (wa.alloc (.cells #[.int .i64 (x : Int)] 3)).heap.size = wa.heap.size + 1 := by simp
              have hck : (wa.alloc (.cells #[.int .i64 (x : Int)] 3)).cell? ⟨wa.heap.size, 0, none⟩ = some (.int .i64 (x : Int)) := by rw [cell_of_row _ _ _ _ _ _ (heap_alloc_new wa _)]; rfl
              have Hck := Lib.hid hck
              clear bd hck hm
              go_wp2_with (at_builtin; refine push_num _ rfl _ _ 27 rfl w.heap.size i3 Try.underlying27 hi3 hz30 hz31 hz32 _ (spT L s k x) m rfl Hrow7.out (by omega) (x : Int) 1 wa.heap.size rfl Hck.out (by rw [hszW]; omega) ?_)
              intro g9 c9 w9 own9 hgr9 hat9
              have Ho9 : Hid (w9.ownsRow w.heap.size 3 1 (.slice (some ⟨g9, 0, none⟩) (m + 1) c9) (spT L s k (x + 1)).length (ns (spT L s k (x + 1)))) := by
                show World.ownsRow _ _ _ _ _ _ _
                rw [Hs.out, List.length_append, Hm.out]; exact own9
              have hb9 := Hb7.out.grown hgr9 (by rw [hszW]; omega) (fun bb hb => (Hrow7.out.lt bb hb).1)
              have Hb9 := Lib.hid hb9
              have HC9 : Hid (RowsAt w9 ao L) := HC.out.kept hb9
              clear own9 hgr9 hat9 Hb7 hb9
              go_wp2_with fail
              go_roundw
              case rel => exact ⟨x + 1, by omega, by go_num, Ho9.out, Hb9.out, HC9⟩
              case measure => simp [intOf]; omega
            · have Hs : Hid (spT L s k (x + 1) = spT L s k x) := by show _ = _; simp only [spT]; rw [if_pos hfr]
              go_wp2_with fail
              go_roundw
              case rel => exact ⟨x + 1, by omega, by go_num, by rw [Hs.out]; exact Hor.out, Hbel.out, HCr⟩
              case measure => simp [intOf]; omega
      · obtain rfl : x = F := by omega
        rw [HRES.out] at hor
        have Hor := Lib.hid hor
        clear hor
        go_wp2_with fail
        go_ret2
        exact ⟨_, rfl, Hor.out, hbel⟩

end Go.Proofs.Ytejmlhhblckddaa
