/- The laws' helpers on lists of texts. -/
import Derived.Test.YtaangjidkkpogaaStr
import Derived.Laws.IdiomStrings
namespace Go.Proofs.Ytaangjidkkpogaa
open Go.ChangeShapes Go.WideShapes Go.ChangeAt Go.RowKit
set_option linter.unusedVariables false


theorem conv1 (w : World) (c : UInt8) (v : Int) (hv : v = (c.toNat : Int)) :
    (convert 80 9 (.slice (some ⟨w.heap.size, 0, none⟩) 1 1)).run Try.prog (w.alloc (.cells #[.int .u8 v] 5)) = .ok (.string ⟨#[c]⟩) (w.alloc (.cells #[.int .u8 v] 5)) := by
  have h := run_convert_bytes_back (P := Try.prog) (w.alloc (.cells #[.int .u8 v] 5)) 80 9 5 ⟨w.heap.size, 0, none⟩ 1 [c] Try.underlying80 Try.underlying5 Try.underlying9 (fun j hj => by
    have hj0 : j = 0 := by simpa using hj
    subst hj0
    have h1 := heap_alloc_new w (.cells #[.int .u8 v] 5)
    subst hv
    exact cell_of_row _ w.heap.size 0 _ _ _ h1)
  simpa using h
/-- The text of a mark. -/
def dgF : Nat → Nat → ByteArray → ByteArray
  | 0, _, acc => acc
  | f + 1, k, acc => if k = 0 then acc else dgF f (k / 10) (⟨#[UInt8.ofNat (48 + k % 10)]⟩ ++ acc)
def mtx (k : Nat) : ByteArray := ⟨#[109]⟩ ++ dgF k k ⟨#[]⟩
theorem dgF_zero (f : Nat) (acc : ByteArray) : dgF f 0 acc = acc := by cases f <;> rfl
set_option maxRecDepth 20000 in
theorem markText_any (k : Nat) (w : World) (hk0 : 1 ≤ k) (hk : k ≤ 4000000000) :
    Calls Try.prog 49 #[.int .i64 (k : Int)] w fun e w' => e = .returned (.string (mtx k)) ∧ Below w.heap.size w w' := by
  obtain ⟨R, hR⟩ : ∃ R, mtx k = R := ⟨_, rfl⟩
  obtain ⟨D, hD⟩ : ∃ D, dgF k k ⟨#[]⟩ = D := ⟨_, rfl⟩
  have HD := Lib.hid hD
  have HR : Hid (⟨#[109]⟩ ++ D = R) := Lib.hid (by rw [← hR, ← hD]; rfl)
  rw [hR]
  have hk0' : decide ((k : Int) ≤ 0) = false := by simp; omega
  clear hR hD
  go_enter Try.func49, Try.ntmps49
  go_wp2_with fail
  go_loopw [0, 3] (fun a b wr => ∃ (q f : Nat) (acc : ByteArray), a = .int .i64 (q : Int) ∧ b = .string acc ∧ q ≤ f ∧ q + acc.size ≤ k ∧ Hid (dgF f q acc = D) ∧ Below w.heap.size w wr) (fun a _ _ => (intOf a).toNat)
  case atStart => exact ⟨k, k, ⟨#[]⟩, rfl, rfl, Nat.le_refl _, Nat.le_refl _, HD, Below.refl _ _⟩
  case round =>
    obtain ⟨q, f, acc, rfl, rfl, hqf, hqa, HQ, hb3⟩ := hrel
    by_cases hq : 0 < q
    · obtain ⟨g, rfl⟩ : ∃ g, f = g + 1 := ⟨f - 1, by omega⟩
      have HQ2 : Hid (dgF g (q / 10) (⟨#[UInt8.ofNat (48 + q % 10)]⟩ ++ acc) = D) := Lib.hid (by rw [← HQ.out]; show _ = (if q = 0 then acc else _); rw [if_neg (by omega)])
      have hq0 : decide ((q : Int) > 0) = true := by simp; omega
      obtain ⟨m, hm⟩ : ∃ m, q % 10 = m := ⟨_, rfl⟩
      have hm10 : m < 10 := by omega
      have hmod : (q : Int).tmod 10 = (m : Int) := by rw [Int.tmod_eq_emod_of_nonneg (by omega)]; omega
      have hdiv : (q : Int).tdiv 10 = ((q / 10 : Nat) : Int) := by rw [Int.tdiv_eq_ediv_of_nonneg (by omega)]; omega
      have hc := conv1 wr (UInt8.ofNat (48 + m)) (48 + (m : Int)) (by rw [UInt8.toNat_ofNat']; omega)
      rw [hm] at HQ2
      obtain ⟨cb1, hcb⟩ : ∃ c, UInt8.ofNat (48 + m) = c := ⟨_, rfl⟩
      rw [hcb] at hc HQ2
      have hsz : ¬ 9223372036854775807 < 1 + acc.size := by omega
      have Hb3 := Lib.hid (hb3.alloc hb3.size (.cells #[.int .u8 (48 + (m : Int))] 5))
      have hq10 : q / 10 ≤ g := by omega
      have hqs : q / 10 + (1 + acc.size) ≤ k := by omega
      have hql : q / 10 < q := by omega
      obtain ⟨q2, hq2⟩ : ∃ q2, q / 10 = q2 := ⟨_, rfl⟩
      rw [hq2] at HQ2 hdiv hq10 hqs hql
      clear hb3 HQ hm hq2 hcb
      go_wp2_with fail
      go_roundw
      case rel => exact ⟨q2, g, _, by rfl, rfl, hq10, by rw [ByteArray.size_append]; exact hqs, HQ2, Hb3.out⟩
      case measure => simp [intOf]; omega
    · obtain rfl : q = 0 := by omega
      have hE : acc = D := by rw [← HQ.out, dgF_zero]
      have HE : Hid (⟨#[109]⟩ ++ acc = R) := Lib.hid (by rw [hE]; exact HR.out)
      have hsz : ¬ 9223372036854775807 < 1 + acc.size := by omega
      clear HQ hE
      go_wp2_with fail
      go_ret
      exact ⟨by rw [← HE.out]; rfl, hb3⟩

theorem eqStrS_zero (ao bo : Option Addr) (ka kb : Nat) (w : World) :
    Calls Try.prog 21 #[.slice ao 0 ka, .slice bo 0 kb] w fun e w' => e = .returned (.bool true) ∧ Below w.heap.size w w' := by
  go_enter Try.func21, Try.ntmps21
  go_wp2_with fail
  go_rounds 1
  go_ret
  exact ⟨rfl, Below.refl _ _⟩
set_option maxRecDepth 100000 in
theorem eqStrS_pos (b off b' off' ka kb : Nat) (l : List ByteArray) (n : Nat) (w : World) (hl : n ≤ 9223372036854775807)
    (Hc : Hid (∀ i, i < n → w.cell? ⟨b, off + i, none⟩ = some (.string (ta l i))))
    (Hd : Hid (∀ i, i < n → w.cell? ⟨b', off' + i, none⟩ = some (.string (ta l i)))) :
    Calls Try.prog 21 #[.slice (some ⟨b, off, none⟩) n ka, .slice (some ⟨b', off', none⟩) n kb] w fun e w' => e = .returned (.bool true) ∧ Below w.heap.size w w' := by
  have hnn : ((n : Int) != (n : Int)) = false := by simp
  go_enter Try.func21, Try.ntmps21
  go_wp2_with fail
  go_loopw [5] (fun i wr => ∃ k : Nat, k ≤ n ∧ i = .int .i64 k ∧ Below w.heap.size w wr) (fun i _ => n - (intOf i).toNat)
  case atStart => exact ⟨0, Nat.zero_le _, rfl, Below.refl _ _⟩
  case round =>
    obtain ⟨k, hk, rfl, hbel⟩ := hrel
    by_cases hlt : k < n
    · have h0 := hbel.cell (p := ⟨b, off + k, none⟩) (World.block_lt_of_cell? w _ (Hc.out k hlt))
      have h2 := hbel.cell (p := ⟨b', off' + k, none⟩) (World.block_lt_of_cell? w _ (Hd.out k hlt))
      rw [Hc.out k hlt] at h0
      rw [Hd.out k hlt] at h2
      obtain ⟨s, hs⟩ : ∃ s, ta l k = s := ⟨_, rfl⟩
      rw [hs] at h0 h2
      have hee : (s.toList == s.toList) = true := by simp
      have hb0 : (0 : Int) ≤ k := by omega
      have hb1 : (k : Int) < n := by omega
      clear hs
      go_wp2_with fail
      go_quiet (fail)
      go_wp2_with fail
      go_roundw
      case rel => exact ⟨k + 1, by omega, by go_num, below_drewN hbel _⟩
      case measure => simp [intOf]; omega
    · go_wp2
      go_ret
      exact ⟨rfl, hbel⟩
theorem eqStrS_own {b1 b2 : Nat} (v1 v2 : Value) (l : List ByteArray) (n m : Nat) (w : World) (hn : n = l.length) (hm : m = l.length) (hl : n ≤ 9223372036854775807) (h1 : w.ownsRow b1 9 1 v1 n (ts l)) (h2 : w.ownsRow b2 9 1 v2 m (ts l)) :
    Calls Try.prog 21 #[v1, v2] w fun e w' => e = .returned (.bool true) ∧ Below w.heap.size w w' := by
  obtain ⟨ao, ka, rfl, hc, _⟩ := strs_shape h1 hn
  obtain ⟨bo, kb, rfl, hd, _⟩ := strs_shape h2 hm
  obtain rfl : n = m := hn.trans hm.symm
  by_cases h0 : n = 0
  · subst h0
    exact eqStrS_zero ao bo ka kb w
  · rcases hc with h | ⟨b, off, rfl, hc⟩
    · subst h; exact absurd hn h0
    rcases hd with h | ⟨b', off', rfl, hd⟩
    · subst h; exact absurd hn h0
    exact eqStrS_pos b off b' off' ka kb l n w hl (by rw [hn]; exact hc) (by rw [hn]; exact hd)
theorem gb_below {w a b : World} {row : Option Nat} (h : w.grownBy a row) (hb : Below a.heap.size a b) : w.grownBy b row :=
  ⟨hb.os.trans h.os, hb.tape.trans h.tape, hb.output.trans h.output, Nat.le_trans h.size hb.size, fun k hk hne => (hb.block k (Nat.lt_of_lt_of_le hk h.size)).trans (h.block k hk hne)⟩
/-- Texts written over by marks, from k on. -/
def tmarks (k : Nat) (l : List ByteArray) (j : Nat) : List ByteArray := (List.range l.length).map fun i => if i < j then mtx (k + i) else ta l i
theorem tmarks_length (k : Nat) (l : List ByteArray) (j : Nat) : (tmarks k l j).length = l.length := by simp [tmarks]
theorem tmarks_zero (k : Nat) (l : List ByteArray) : tmarks k l 0 = l := by
  apply List.ext_getElem?
  intro i
  by_cases h : i < l.length
  · simp [tmarks, h, ← ta_get l i h]
  · simp [tmarks, h]
theorem tmarks_get (k : Nat) (l : List ByteArray) (j i : Nat) (h : i < l.length) : ta (tmarks k l j) i = if i < j then mtx (k + i) else ta l i := by
  simp [ta, tmarks, List.getD_eq_getElem?_getD, h]
theorem tmarks_set (k : Nat) (l : List ByteArray) (j : Nat) (h : j < l.length) : (tmarks k l j).set j (mtx (k + j)) = tmarks k l (j + 1) := by
  apply List.ext_getElem?
  intro i
  rw [List.getElem?_set]
  by_cases hi : i < l.length
  · by_cases hij : j = i
    · subst hij
      simp [tmarks, hi]
    · rw [if_neg hij]
      simp only [tmarks, List.getElem?_map, List.getElem?_range hi, Option.map_some]
      by_cases hlt : i < j
      · simp [hlt, show i < j + 1 by omega]
      · simp [hlt, show ¬ i < j + 1 by omega]
  · by_cases hij : j = i
    · omega
    · rw [if_neg hij]; simp [tmarks, hi]
theorem mark1_any (c : Nat) (v : Int) (w : World) (hv : v = (c : Int)) (hk0 : 1 ≤ c) (hk : c ≤ 4000000000) :
    Calls Try.prog 49 #[.int .i64 v] w fun e w' => e = .returned (.string (mtx c)) ∧ Below w.heap.size w w' := by subst hv; exact markText_any c w hk0 hk
set_option maxRecDepth 20000 in
theorem markStrS_row (base g cap : Nat) (l : List ByteArray) (n : Nat) (w : World) (Hn : Hid (n = l.length)) (hl : n ≤ 1000000) (Hown : Hid (w.ownsRow base 9 1 (.slice (some ⟨g, 0, none⟩) n cap) n (ts l))) :
    Calls Try.prog 23 #[.slice (some ⟨g, 0, none⟩) n cap, .int .i64 1] w fun e w' => e = .returned (.int .i64 (1 + (n : Int))) ∧ w'.ownsRow base 9 1 (.slice (some ⟨g, 0, none⟩) n cap) n (ts (tmarks 1 l n)) ∧ w.grownBy w' (some g) := by
  go_enter Try.func23, Try.ntmps23
  go_wp2_with fail
  go_loopw [1, 5] (fun k i wr => ∃ j : Nat, j ≤ n ∧ i = .int .i64 j ∧ k = .int .i64 (1 + (j : Int)) ∧ wr.ownsRow base 9 1 (.slice (some ⟨g, 0, none⟩) n cap) n (ts (tmarks 1 l j)) ∧ w.grownBy wr (some g)) (fun _ i _ => n - (intOf i).toNat)
  case atStart => exact ⟨0, Nat.zero_le _, rfl, by simp, by rw [tmarks_zero]; exact Hown.out, ⟨rfl, rfl, rfl, Nat.le_refl _, fun _ _ _ => rfl⟩⟩
  case round =>
    obtain ⟨j, hj, rfl, rfl, hor, hgr⟩ := hrel
    by_cases hlt : j < n
    · have HV := Lib.hid (mark1_any (1 + j) (1 + (j : Int)) wr (by omega) (by omega) (by omega))
      have HS := Lib.hid (tmarks_set 1 l j (by rw [← Hn.out]; exact hlt))
      obtain ⟨t, ht⟩ : ∃ t, mtx (1 + j) = t := ⟨_, rfl⟩
      rw [ht] at HV HS
      have hgs := (hor.lt g rfl).2
      have Hor := Lib.hid hor
      have Hgr := Lib.hid hgr
      clear hor hgr ht
      go_wp2_with fail
      refine HV.out.mono ?_
      rintro e w2 ⟨rfl, hb2⟩
      have hor2 := own_later Hor.out hb2
      obtain ⟨u0, z0⟩ := own_some hor2 j (by omega)
      have zf0 := hor2.frozenAt j
      have hor3 := (hor2.stored j (.string t)).1
      rw [ts_set, HS.out] at hor3
      have Hor3 := Lib.hid hor3
      have Hgr2 : Hid (w.grownBy w2 (some g)) := Lib.hid (gb_below Hgr.out hb2)
      clear hor3 hor2 hb2
      go_wp2_with fail
      go_roundw
      case rel => exact ⟨j + 1, by omega, by go_num, by go_num, Hor3.out, grown_set Hgr2.out _ _⟩
      case measure => simp [intOf]; omega
    · obtain rfl : j = n := by omega
      have Hor := Lib.hid hor
      clear hor
      go_wp2
      go_ret
      exact ⟨rfl, Hor.out, hgr⟩
theorem markStrS_zero (ao : Option Addr) (cap : Nat) (w : World) (c : Int) :
    Calls Try.prog 23 #[.slice ao 0 cap, .int .i64 c] w fun e w' => e = .returned (.int .i64 c) ∧ w = w' := by
  go_enter Try.func23, Try.ntmps23
  go_wp2_with fail
  go_rounds 1
  go_ret
  exact ⟨rfl, rfl⟩
theorem heldStrS_zero (ao : Option Addr) (cap : Nat) (w : World) (c : Int) :
    Calls Try.prog 24 #[.slice ao 0 cap, .int .i64 c] w fun e w' => e = .returned (.int .i64 c) ∧ Below w.heap.size w w' := by
  go_enter Try.func24, Try.ntmps24
  go_wp2_with fail
  go_rounds 1
  go_ret
  exact ⟨rfl, Below.refl _ _⟩
theorem markStrS_any (base : Nat) (v : Value) (l : List ByteArray) (n : Nat) (w : World) (hn : n = l.length) (hl : n ≤ 1000000) (hown : w.ownsRow base 9 1 v n (ts l)) :
    Calls Try.prog 23 #[v, .int .i64 1] w fun e w' => e = .returned (.int .i64 (1 + (n : Int))) ∧ w'.ownsRow base 9 1 v n (ts (tmarks 1 l n)) ∧ w.grownBy w' v.ownBlock := by
  have h2 := hown.2
  rcases h2 with ⟨rfl, rfl⟩ | ⟨g, cap, cur, rfl, hb, hg, _⟩
  · have : l = [] := List.eq_nil_of_length_eq_zero hn.symm
    subst this
    refine (markStrS_zero none 0 w 1).mono ?_
    rintro e w' ⟨rfl, rfl⟩
    exact ⟨by simp, hown, ⟨rfl, rfl, rfl, Nat.le_refl _, fun _ _ _ => rfl⟩⟩
  · exact markStrS_row base g cap l n w hn hl hown
set_option maxRecDepth 20000 in
theorem heldStrS_pos (g cap : Nat) (n : Nat) (w : World) (hl : n ≤ 1000000)
    (Hc : Hid (∀ i, i < n → w.cell? ⟨g, i, none⟩ = some (.string (mtx (1 + i))))) :
    Calls Try.prog 24 #[.slice (some ⟨g, 0, none⟩) n cap, .int .i64 1] w fun e w' => e = .returned (.int .i64 (1 + (n : Int))) ∧ Below w.heap.size w w' := by
  go_enter Try.func24, Try.ntmps24
  go_wp2_with fail
  go_loopw [1, 5] (fun k i wr => ∃ j : Nat, j ≤ n ∧ i = .int .i64 j ∧ k = .int .i64 (1 + (j : Int)) ∧ Below w.heap.size w wr) (fun _ i _ => n - (intOf i).toNat)
  case atStart => exact ⟨0, Nat.zero_le _, rfl, by simp, Below.refl _ _⟩
  case round =>
    obtain ⟨j, hj, rfl, rfl, hbel⟩ := hrel
    by_cases hlt : j < n
    · have hc := (hbel.cell (p := ⟨g, j, none⟩) (World.block_lt_of_cell? w _ (Hc.out j hlt))).trans (Hc.out j hlt)
      have HV := Lib.hid (fun w => mark1_any (1 + j) (1 + (j : Int)) w (by omega) (by omega) (by omega))
      obtain ⟨t, ht⟩ : ∃ t, mtx (1 + j) = t := ⟨_, rfl⟩
      rw [ht] at HV hc
      have hee : (t.toList == t.toList) = true := by simp
      have hb0 : (0 : Int) ≤ (j : Int) := by omega
      have hb1 : (j : Int) < (n : Int) := by omega
      have hgs : g < wr.heap.size := World.block_lt_of_cell? wr _ hc
      have Hbel := Lib.hid hbel
      clear hbel ht
      go_wp2_with fail
      have HS0 : Hid (∀ w', Below wr.heap.size wr w' → w'.cell? ⟨g, j, none⟩ = some (.string t) ∧ Hid (Below wr.heap.size wr w')) := Lib.hid (fun w' hb => ⟨(hb.cell (p := ⟨g, j, none⟩) hgs).trans hc, Lib.hid hb⟩)
      go_region_held3 (fun w' => w'.cell? ⟨g, j, none⟩ = some (.string t) ∧ Hid (Below wr.heap.size wr w'))
        (first | exact HS0.out _ (Below.refl _ _).drew | exact HS0.out _ hb9 | assumption)
        (first | (go_at_call 49; refine (HV.out _).mono ?_; rintro e w9 ⟨rfl, hb8⟩; have hb9 : Below wr.heap.size wr w9 := (Below.refl _ _).drew.trans (hb8.mono (Nat.le_refl _))) | fail)
      all_goals
        rename_i hSS
        have Hb9 := Lib.hid (Hbel.out.trans (hSS.2.out.mono Hbel.out.size))
        clear hSS
        go_wp2_with fail
        go_roundw
        case rel => exact ⟨j + 1, by omega, by go_num, by go_num, Hb9.out⟩
        case measure => simp [intOf]; omega
    · obtain rfl : j = n := by omega
      go_wp2
      go_ret
      exact ⟨rfl, hbel⟩

theorem heldStrS_any (base : Nat) (v : Value) (l : List ByteArray) (n : Nat) (w : World) (hn : n = l.length) (hl : n ≤ 1000000) (hown : w.ownsRow base 9 1 v n (ts (tmarks 1 l n))) :
    Calls Try.prog 24 #[v, .int .i64 1] w fun e w' => e = .returned (.int .i64 (1 + (n : Int))) ∧ Below w.heap.size w w' := by
  have h2 := hown.2
  rcases h2 with ⟨rfl, rfl⟩ | ⟨g, cap, cur, rfl, hb, hg, _⟩
  · refine (heldStrS_zero none 0 w 1).mono ?_
    rintro e w' ⟨rfl, h⟩
    exact ⟨by simp, h⟩
  · refine heldStrS_pos g cap n w hl (fun i hi => ?_)
    have h1 := hown.cellAt i (by omega)
    rw [ts_get _ i (by rw [tmarks_length, ← hn]; exact hi), tmarks_get 1 l n i (by rw [← hn]; exact hi), if_pos hi] at h1
    exact h1

end Go.Proofs.Ytaangjidkkpogaa
