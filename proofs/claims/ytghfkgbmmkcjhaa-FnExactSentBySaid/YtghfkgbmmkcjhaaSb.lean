/- SentBy, both sides. -/
import Derived.Test.YtghfkgbmmkcjhaaDeoA
namespace Go.Proofs.Ytghfkgbmmkcjhaa
open Go.ChangeShapes Go.WideShapes Go.ChangeAt Go.RowKit
set_option linter.unusedVariables false


/-- To whom the first k of these sends of x go. -/
def sbK (O : List Snd) (x : Int) : Nat → List Int
  | 0 => []
  | k + 1 => if sf O k = x then sbK O x k ++ [st O k] else sbK O x k
theorem sbK_len (O : List Snd) (x : Int) : ∀ k, (sbK O x k).length ≤ k
  | 0 => Nat.le_refl _
  | k + 1 => by
    have := sbK_len O x k
    unfold sbK
    split <;> simp <;> omega
def sbR (d P : Int) (l : List Snd) (x : Int) : List Int := if dpB d P l x then sbK (ordS l) x l.length else []
theorem sbR_len (d P : Int) (l : List Snd) (x : Int) : (sbR d P l x).length ≤ 40 := by
  unfold sbR
  cases h : dpB d P l x
  · simp
  · rw [if_pos rfl]
    simp only [dpB, Bool.and_eq_true] at h
    exact Nat.le_trans (sbK_len _ _ _) (ars_parts h.1).2.2.1

set_option maxHeartbeats 1600000 in
set_option maxRecDepth 20000 in
theorem implSB_any (w : World) (d P : Int) (ao : Option Addr) (cap : Nat) (l : List Snd) (n : Nat) (Hn : Hid (n = l.length)) (hn : n ≤ 1048576) (hcap : n ≤ cap) (hc : SendsAt w ao l) (x : Int) :
    Calls Try.prog 43 #[.int .i64 d, .int .i64 P, .slice ao n cap, .int .i64 x] w fun e w' => ∃ v, e = .returned (.tuple #[v, .bool (dpB d P l x)]) ∧ w'.ownsRow w.heap.size 3 1 v (sbR d P l x).length (ns (sbR d P l x)) ∧ Below w.heap.size w w' := by
  obtain ⟨i3, hi3, hy0, hy1, hy2⟩ := info_parts info3
  have HX := Lib.hid (aof_any w d P ao cap l n Hn hn hcap hc)
  have HC := Lib.hid hc
  clear hc
  cases hA : arsB d P l
  · have hp : dpB d P l x = false := by simp [dpB, hA]
    have hR : sbR d P l x = [] := by unfold sbR; rw [hp]; rfl
    rw [hR, hp]
    rw [hA] at HX
    clear hA hR hp
    go_enter Try.func43, Try.ntmps43
    go_wp2_with fail
    refine HX.out.mono ?_
    rintro e w1 ⟨F, rfl, _, hb1⟩
    go_wp2_with (refine wpList_store_row rfl 57 (.tmp 10) (.tmp 20) rfl w1.heap.size (AA F) ?_ ?_ 57 _ (heap_alloc_new w1 _) ?_ ?_ ?_ ?_)
    try any_goals first | exact AA_one _ | exact infoA2 | (rw [infoA, AA_size]; done) | (rw [AA_size]; rfl) | rfl
    go_ret2
    exact ⟨.slice none 0 0, rfl, World.ownsRow_nil _ _ _ _, below_setRow (hb1.alloc hb1.size _) hb1.size _⟩
  · obtain ⟨_, _, h40, hv, _⟩ := ars_parts hA
    rw [hA] at HX
    cases hx : decide (0 ≤ x ∧ x < P)
    · have hp : dpB d P l x = false := by
        simp only [decide_eq_false_iff_not] at hx
        simp only [dpB, hA, Bool.true_and, decide_eq_false_iff_not]
        omega
      have hR : sbR d P l x = [] := by unfold sbR; rw [hp]; rfl
      rw [hR, hp]
      have HXx := Lib.hid hx
      clear hA hR hp hx hv h40
      go_enter Try.func43, Try.ntmps43
      go_wp2_with fail
      refine HX.out.mono ?_
      rintro e w1 ⟨F, rfl, _, hb1⟩
      go_wp2_with (refine wpList_store_row rfl 57 (.tmp 10) (.tmp 20) rfl w1.heap.size (AA F) ?_ ?_ 57 _ (heap_alloc_new w1 _) ?_ ?_ ?_ ?_)
      try any_goals first | exact AA_one _ | exact infoA2 | (rw [infoA, AA_size]; done) | (rw [AA_size]; rfl) | rfl
      refine (isPerson_any P x _).mono ?_
      rintro e w' ⟨rfl, rfl⟩
      rw [HXx.out]
      go_wp2_with fail
      go_ret2
      exact ⟨.slice none 0 0, rfl, World.ownsRow_nil _ _ _ _, below_setRow (hb1.alloc hb1.size _) hb1.size _⟩
    · have hp : dpB d P l x = true := by
        simp only [decide_eq_true_eq] at hx
        simp only [dpB, hA, Bool.true_and, decide_eq_true_eq]
        omega
      have hR : sbR d P l x = sbK (ordS l) x l.length := by unfold sbR; rw [hp]; rfl
      obtain ⟨R, HR⟩ : ∃ R, Hid (R = sbR d P l x) := ⟨_, Lib.hid rfl⟩
      rw [← HR.out, hp]
      have HR := Lib.hid (HR.out.trans hR)
      have HXx := Lib.hid hx
      have hn40 : n ≤ 1000 := by rw [Hn.out]; omega
      have HO := Lib.hid (fun u hu => inOrder_any u ao cap l n P hv Hn hn40 (Lib.hid (HC.out.kept hu)))
      clear hA hR hp hx hv h40
      go_enter Try.func43, Try.ntmps43
      go_wp2_with fail
      refine HX.out.mono ?_
      rintro e w1 ⟨F, rfl, _, hb1⟩
      have Hb2 := Lib.hid (below_setRow (hb1.alloc hb1.size (.cells (AA fun _ => 0) 57)) hb1.size (AA F))
      clear hb1
      go_wp2_with (refine wpList_store_row rfl 57 (.tmp 10) (.tmp 20) rfl w1.heap.size (AA F) ?_ ?_ 57 _ (heap_alloc_new w1 _) ?_ ?_ ?_ ?_)
      try any_goals first | exact AA_one _ | exact infoA2 | (rw [infoA, AA_size]; done) | (rw [AA_size]; rfl) | rfl
      refine (isPerson_any P x _).mono ?_
      rintro e w' ⟨rfl, rfl⟩
      rw [HXx.out]
      go_wp2_with fail
      refine (HO.out _ Hb2.out).mono ?_
      rintro e w2 ⟨v, rfl, own, hb2⟩
      have Hb3 := Lib.hid (Hb2.out.trans (hb2.mono Hb2.out.size))
      clear hb2
      obtain ⟨ao2, c2, rfl, hat, hz1, hz2⟩ := sown_shape own (by rw [ordS_length]; exact Hn.out)
      have hat2 : Hid (∀ i, i < n → ∃ b, ao2 = some ⟨b, 0, none⟩ ∧ Sat3 w2 b 0 (ordS l) i) := Lib.hid (fun i hi => by
        rcases hat with h | ⟨b, off, h, hcc⟩
        · have := ordS_length l; rw [h] at this; have := Hn.out; simp at *; omega
        · obtain ⟨rfl, _⟩ := hz2 b off h
          exact ⟨b, h, hcc i (by rw [ordS_length, ← Hn.out]; exact hi)⟩)
      obtain ⟨O, hO⟩ : ∃ O, ordS l = O := ⟨_, rfl⟩
      rw [hO] at hat2
      have HO2 := Lib.hid hO
      obtain ⟨H, hH⟩ : ∃ H, w2.heap.size = H := ⟨_, rfl⟩
      have hHw : w.heap.size ≤ H := by rw [← hH]; exact Hb3.out.size
      have HH := Lib.hid hH
      clear own hat hO hH hz1 hz2
      go_wp2_with fail
      go_loopw [12, 33] (fun v i wr => ∃ (k q : Nat), k ≤ n ∧ i = .int .i64 k ∧ Hid (q = (sbK O x k).length) ∧ wr.ownsRow H 3 1 v q (ns (sbK O x k)) ∧ Below H w2 wr) (fun _ i _ => n - (intOf i).toNat)
      case atStart => exact ⟨0, 0, Nat.zero_le _, rfl, Lib.hid rfl, World.ownsRow_nil _ _ _ _, by rw [← HH.out]; exact Below.refl _ _⟩
      case round =>
        obtain ⟨k, q, hk, rfl, HQ, hor, hbel⟩ := hrel
        have hqk : q ≤ k := by rw [HQ.out]; exact sbK_len O x k
        by_cases hlt : k < n
        · obtain ⟨b, rfl, hs3⟩ := hat2.out k hlt
          obtain ⟨e0, e1, e2⟩ := hs3.kept (by rw [HH.out]; exact hbel)
          rw [Nat.zero_add] at e0 e1 e2
          obtain ⟨x0, hx0⟩ : ∃ y, sf O k = y := ⟨_, rfl⟩
          obtain ⟨x1, hx1⟩ : ∃ y, st O k = y := ⟨_, rfl⟩
          obtain ⟨x2, hx2⟩ : ∃ y, sm O k = y := ⟨_, rfl⟩
          have HS : Hid (sbK O x (k + 1) = if x0 = x then sbK O x k ++ [x1] else sbK O x k) := Lib.hid (by rw [← hx0, ← hx1]; rfl)
          rw [hx0] at e0
          rw [hx1] at e1
          rw [hx2] at e2
          have hp0 : (0 : Int) ≤ (k : Int) := by omega
          have hp1 : (k : Int) < (n : Int) := by omega
          have hsz : H ≤ wr.heap.size := by have := hbel.size; have := HH.out; omega
          have Hor := Lib.hid hor
          have Hbel := Lib.hid hbel
          clear hor hbel hs3 hx0 hx1 hx2
          by_cases hx : x0 = x
          · subst hx
            have Hor2 := Lib.hid ((Hor.out.alloc (.cells #[.int .i64 x0, .int .i64 x1, .int .i64 x2] 52)).alloc (.cells #[.int .i64 x1] 3))
            have HC1 : Hid (((wr.alloc (.cells #[.int .i64 x0, .int .i64 x1, .int .i64 x2] 52)).alloc (.cells #[.int .i64 x1] 3)).cell? ⟨wr.heap.size + 1, 0, none⟩ = some (.int .i64 x1)) := by
              show _ = _
              simp
            rw [if_pos rfl] at HS
            go_wp2_with (at_builtin; refine push_num _ rfl _ _ 36 rfl H i3 Try.underlying36 hi3 hy0 hy1 hy2 _ _ q rfl Hor2.out (by omega) x1 _ _ rfl HC1.out (by simp; omega) ?_)
            intro g3 cap3 w4 own4 gr4 _
            have bel4 : Below H w2 w4 := ((Hbel.out.alloc hsz _).alloc (by simp; omega) _).grown gr4 (by simp; omega) (fun k hk => (Hor2.out.lt k hk).1)
            have own5 : w4.ownsRow H 3 1 (.slice (some ⟨g3, 0, none⟩) (q + 1) cap3) (q + 1) (ns (sbK O x0 (k + 1))) := by rw [HS.out]; exact own4
            have Own5 := Lib.hid own5
            have Bel4 := Lib.hid bel4
            clear own4 gr4 own5 bel4
            go_wp2_with fail
            go_roundw
            case rel => exact ⟨k + 1, q + 1, by omega, by go_num, Lib.hid (by rw [HS.out, List.length_append, ← HQ.out]; rfl), Own5.out, Bel4.out⟩
            case measure => simp [intOf]; omega
          · rw [if_neg hx] at HS
            have hxe : (x0 == x) = false := by simpa using hx
            have Hor2 := Lib.hid (Hor.out.alloc (.cells #[.int .i64 x0, .int .i64 x1, .int .i64 x2] 52))
            have Bel2 := Lib.hid (Hbel.out.alloc hsz (.cells #[.int .i64 x0, .int .i64 x1, .int .i64 x2] 52))
            go_wp2_with fail
            go_roundw
            case rel => exact ⟨k + 1, q, by omega, by go_num, Lib.hid (by rw [HS.out]; exact HQ.out), by rw [HS.out]; exact Hor2.out, Bel2.out⟩
            case measure => simp [intOf]; omega
        · obtain rfl : k = n := by omega
          have Hor := Lib.hid hor
          have Hbel := Lib.hid hbel
          clear hor hbel
          go_wp2_with fail
          go_ret2
          refine ⟨_, rfl, ?_, Hb3.out.trans (Hbel.out.mono hHw)⟩
          rw [HR.out, HO2.out, ← Hn.out, ← HQ.out]
          exact own_low Hor.out hHw
set_option maxHeartbeats 1600000 in
set_option maxRecDepth 20000 in
theorem specSB_any (w : World) (d P : Int) (ao : Option Addr) (cap : Nat) (l : List Snd) (n : Nat) (Hn : Hid (n = l.length)) (hn : n ≤ 1048576) (hcap : n ≤ cap) (hc : SendsAt w ao l) (x : Int) :
    Calls Try.prog 42 #[.int .i64 d, .int .i64 P, .slice ao n cap, .int .i64 x] w fun e w' => ∃ v, e = .returned (.tuple #[v, .bool (dpB d P l x)]) ∧ w'.ownsRow w.heap.size 3 1 v (sbR d P l x).length (ns (sbR d P l x)) ∧ Below w.heap.size w w' := by
  obtain ⟨i3, hi3, hy0, hy1, hy2⟩ := info_parts info3
  have HX := Lib.hid (dePerson_any w d P x ao cap l n Hn hn hcap hc)
  have HC := Lib.hid hc
  clear hc
  cases hp : dpB d P l x
  · have hR : sbR d P l x = [] := by unfold sbR; rw [hp]; rfl
    rw [hR]
    rw [hp] at HX
    clear hR hp
    go_enter Try.func42, Try.ntmps42
    go_wp2_with fail
    refine HX.out.mono ?_
    rintro e w1 ⟨rfl, hb1⟩
    go_wp2_with fail
    go_ret2
    exact ⟨.slice none 0 0, rfl, World.ownsRow_nil _ _ _ _, hb1⟩
  · have hA : arsB d P l = true := by simp only [dpB, Bool.and_eq_true] at hp; exact hp.1
    obtain ⟨_, _, h40, _, _⟩ := ars_parts hA
    have hR : sbR d P l x = sbK (ordS l) x l.length := by unfold sbR; rw [hp]; rfl
    obtain ⟨R, HR⟩ : ∃ R, Hid (R = sbR d P l x) := ⟨_, Lib.hid rfl⟩
    rw [← HR.out]
    have HR := Lib.hid (HR.out.trans hR)
    rw [hp] at HX
    have hn40 : n ≤ 1000 := by rw [Hn.out]; omega
    have HO := Lib.hid (fun u hu => deOrd_any u ao cap l n Hn hn40 hcap (HC.out.kept hu))
    clear hA hR hp h40
    go_enter Try.func42, Try.ntmps42
    go_wp2_with fail
    refine HX.out.mono ?_
    rintro e w1 ⟨rfl, hb1⟩
    have Hb1 := Lib.hid hb1
    clear hb1
    go_wp2_with fail
    refine (HO.out _ Hb1.out).mono ?_
    rintro e w2 ⟨v, rfl, own, hb2⟩
    have Hb3 := Lib.hid (Hb1.out.trans (hb2.mono Hb1.out.size))
    clear hb2
    obtain ⟨ao2, c2, rfl, hat, hz1, hz2⟩ := sown_shape own (by rw [ordS_length]; exact Hn.out)
    have hat2 : Hid (∀ i, i < n → ∃ b, ao2 = some ⟨b, 0, none⟩ ∧ Sat3 w2 b 0 (ordS l) i) := Lib.hid (fun i hi => by
      rcases hat with h | ⟨b, off, h, hcc⟩
      · have := ordS_length l; rw [h] at this; have := Hn.out; simp at *; omega
      · obtain ⟨rfl, _⟩ := hz2 b off h
        exact ⟨b, h, hcc i (by rw [ordS_length, ← Hn.out]; exact hi)⟩)
    obtain ⟨O, hO⟩ : ∃ O, ordS l = O := ⟨_, rfl⟩
    rw [hO] at hat2
    have HO2 := Lib.hid hO
    obtain ⟨H, hH⟩ : ∃ H, w2.heap.size = H := ⟨_, rfl⟩
    have hHw : w.heap.size ≤ H := by rw [← hH]; exact Hb3.out.size
    have HH := Lib.hid hH
    clear own hat hO hH hz1 hz2
    go_wp2_with fail
    go_loopw [10, 22] (fun v i wr => ∃ (k q : Nat), k ≤ n ∧ i = .int .i64 k ∧ Hid (q = (sbK O x k).length) ∧ wr.ownsRow H 3 1 v q (ns (sbK O x k)) ∧ Below H w2 wr) (fun _ i _ => n - (intOf i).toNat)
    case atStart => exact ⟨0, 0, Nat.zero_le _, rfl, Lib.hid rfl, World.ownsRow_nil _ _ _ _, by rw [← HH.out]; exact Below.refl _ _⟩
    case round =>
      obtain ⟨k, q, hk, rfl, HQ, hor, hbel⟩ := hrel
      have hqk : q ≤ k := by rw [HQ.out]; exact sbK_len O x k
      by_cases hlt : k < n
      · obtain ⟨b, rfl, hs3⟩ := hat2.out k hlt
        obtain ⟨e0, e1, e2⟩ := hs3.kept (by rw [HH.out]; exact hbel)
        rw [Nat.zero_add] at e0 e1 e2
        obtain ⟨x0, hx0⟩ : ∃ y, sf O k = y := ⟨_, rfl⟩
        obtain ⟨x1, hx1⟩ : ∃ y, st O k = y := ⟨_, rfl⟩
        obtain ⟨x2, hx2⟩ : ∃ y, sm O k = y := ⟨_, rfl⟩
        have HS : Hid (sbK O x (k + 1) = if x0 = x then sbK O x k ++ [x1] else sbK O x k) := Lib.hid (by rw [← hx0, ← hx1]; rfl)
        rw [hx0] at e0
        rw [hx1] at e1
        rw [hx2] at e2
        have hp0 : (0 : Int) ≤ (k : Int) := by omega
        have hp1 : (k : Int) < (n : Int) := by omega
        have hsz : H ≤ wr.heap.size := by have := hbel.size; have := HH.out; omega
        have Hor := Lib.hid hor
        have Hbel := Lib.hid hbel
        clear hor hbel hs3 hx0 hx1 hx2
        by_cases hx : x0 = x
        · subst hx
          have Hor2 := Lib.hid ((Hor.out.alloc (.cells #[.int .i64 x0, .int .i64 x1, .int .i64 x2] 52)).alloc (.cells #[.int .i64 x1] 3))
          have HC1 : Hid (((wr.alloc (.cells #[.int .i64 x0, .int .i64 x1, .int .i64 x2] 52)).alloc (.cells #[.int .i64 x1] 3)).cell? ⟨wr.heap.size + 1, 0, none⟩ = some (.int .i64 x1)) := by
            show _ = _
            simp
          rw [if_pos rfl] at HS
          go_wp2_with (at_builtin; refine push_num _ rfl _ _ 36 rfl H i3 Try.underlying36 hi3 hy0 hy1 hy2 _ _ q rfl Hor2.out (by omega) x1 _ _ rfl HC1.out (by simp; omega) ?_)
          intro g3 cap3 w4 own4 gr4 _
          have bel4 : Below H w2 w4 := ((Hbel.out.alloc hsz _).alloc (by simp; omega) _).grown gr4 (by simp; omega) (fun k hk => (Hor2.out.lt k hk).1)
          have own5 : w4.ownsRow H 3 1 (.slice (some ⟨g3, 0, none⟩) (q + 1) cap3) (q + 1) (ns (sbK O x0 (k + 1))) := by rw [HS.out]; exact own4
          have Own5 := Lib.hid own5
          have Bel4 := Lib.hid bel4
          clear own4 gr4 own5 bel4
          go_wp2_with fail
          go_roundw
          case rel => exact ⟨k + 1, q + 1, by omega, by go_num, Lib.hid (by rw [HS.out, List.length_append, ← HQ.out]; rfl), Own5.out, Bel4.out⟩
          case measure => simp [intOf]; omega
        · rw [if_neg hx] at HS
          have hxe : (x0 == x) = false := by simpa using hx
          have Hor2 := Lib.hid (Hor.out.alloc (.cells #[.int .i64 x0, .int .i64 x1, .int .i64 x2] 52))
          have Bel2 := Lib.hid (Hbel.out.alloc hsz (.cells #[.int .i64 x0, .int .i64 x1, .int .i64 x2] 52))
          go_wp2_with fail
          go_roundw
          case rel => exact ⟨k + 1, q, by omega, by go_num, Lib.hid (by rw [HS.out]; exact HQ.out), by rw [HS.out]; exact Hor2.out, Bel2.out⟩
          case measure => simp [intOf]; omega
      · obtain rfl : k = n := by omega
        have Hor := Lib.hid hor
        have Hbel := Lib.hid hbel
        clear hor hbel
        go_wp2_with fail
        go_ret2
        refine ⟨_, rfl, ?_, Hb3.out.trans (Hbel.out.mono hHw)⟩
        rw [HR.out, HO2.out, ← Hn.out, ← HQ.out]
        exact own_low Hor.out hHw

end Go.Proofs.Ytghfkgbmmkcjhaa
