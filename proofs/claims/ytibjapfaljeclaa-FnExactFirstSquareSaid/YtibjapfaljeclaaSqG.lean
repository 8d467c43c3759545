/- The first square: the model and the program. -/
import Derived.Test.YtibjapfaljeclaaSqC
namespace Go.Proofs.Ytibjapfaljeclaa
open Go.ChangeShapes Go.WideShapes Go.ChangeAt Go.RowKit
set_option linter.unusedVariables false

theorem OwnSS.outer {w : World} {base : Nat} {v : Value} {X : List Value} {L : List (List Int)} (h : OwnSS w base v X L) (h0 : 0 < L.length) : ∃ g cap, v = .slice (some ⟨g, 0, none⟩) L.length cap ∧ base ≤ g :=  by
  rcases h.1.2 with ⟨_, hh⟩ | ⟨g, cap, cur, rfl, hb, _⟩
  · omega
  · exact ⟨g, cap, rfl, hb⟩

theorem nums_atE {ty : TypeId} {w : World} {base g n cap : Nat} {l : List Int} (h : w.ownsRow base ty 1 (.slice (some ⟨g, 0, none⟩) n cap) n (ns l)) (hn : n = l.length) : NumsAt w (some ⟨g, 0, none⟩) l := by
  subst hn
  refine .inr ⟨g, 0, rfl, fun i hi => ?_⟩
  have h1 := h.cellAt i (by omega)
  rw [ns_get l i hi] at h1
  simp only [Nat.zero_add]
  exact h1

theorem nums_shapeE {ty : TypeId} {w : World} {base n : Nat} {v : Value} {l : List Int} (h : w.ownsRow base ty 1 v n (ns l)) (hn : n = l.length) :
    ∃ ao cap, v = .slice ao n cap ∧ NumsAt w ao l := by
  rcases h.2 with ⟨rfl, h0⟩ | ⟨g, cap, cur, rfl, hb, hg, _⟩
  · refine ⟨none, 0, by rw [h0], .inl ?_⟩
    exact List.eq_nil_of_length_eq_zero (by omega)
  · exact ⟨some ⟨g, 0, none⟩, cap, rfl, nums_atE h hn⟩

theorem markIntS_rowE {ty : TypeId} (base g cap : Nat) (l : List Int) (n : Nat) (w : World) (c : Int) (hc0 : 0 ≤ c) (hc1 : c ≤ 4000000000) (Hn : Hid (n = l.length)) (hl : n ≤ 4611686018427387000) (Hown : Hid (w.ownsRow base ty 1 (.slice (some ⟨g, 0, none⟩) n cap) n (ns l))) :
    Calls Try.prog 19 #[.slice (some ⟨g, 0, none⟩) n cap, .int .i64 c] w fun e w' => e = .returned (.int .i64 (c + (n : Int))) ∧ w'.ownsRow base ty 1 (.slice (some ⟨g, 0, none⟩) n cap) n (ns (nmarks c l n)) ∧ w.grownBy w' (some g) := by
  go_enter Try.func19, Try.ntmps19
  go_wp2_with fail
  go_loopw [1, 5] (fun k i wr => ∃ j : Nat, j ≤ n ∧ i = .int .i64 j ∧ k = .int .i64 (c + (j : Int)) ∧ wr.ownsRow base ty 1 (.slice (some ⟨g, 0, none⟩) n cap) n (ns (nmarks c l j)) ∧ w.grownBy wr (some g)) (fun _ i _ => n - (intOf i).toNat)
  case atStart => exact ⟨0, Nat.zero_le _, rfl, by simp, by rw [nmarks_zero]; exact Hown.out, ⟨rfl, rfl, rfl, Nat.le_refl _, fun _ _ _ => rfl⟩⟩
  case round =>
    obtain ⟨j, hj, rfl, rfl, hor, hgr⟩ := hrel
    by_cases hlt : j < n
    · obtain ⟨u0, z0⟩ := own_some hor j (by omega)
      have zf0 := hor.frozenAt j
      have hor3 := (hor.stored j (.int .i64 (c + (j : Int)))).1
      rw [ns_set, nmarks_set c l j (by rw [← Hn.out]; exact hlt)] at hor3
      have Hor3 := Lib.hid hor3
      have Hgr := Lib.hid hgr
      clear hor3 hor hgr
      go_wp2_with fail
      go_roundw
      case rel => exact ⟨j + 1, by omega, by go_num, by go_num, Hor3.out, grown_set Hgr.out _ _⟩
      case measure => simp [intOf]; omega
    · obtain rfl : j = n := by omega
      have Hor := Lib.hid hor
      clear hor
      go_wp2
      go_ret
      exact ⟨rfl, Hor.out, hgr⟩

theorem markIntS_anyE {ty : TypeId} (base : Nat) (v : Value) (l : List Int) (n : Nat) (w : World) (c : Int) (hc0 : 0 ≤ c) (hc1 : c ≤ 4000000000) (hn : n = l.length) (hl : n ≤ 4611686018427387000) (hown : w.ownsRow base ty 1 v n (ns l)) :
    Calls Try.prog 19 #[v, .int .i64 c] w fun e w' => e = .returned (.int .i64 (c + (n : Int))) ∧ w'.ownsRow base ty 1 v n (ns (nmarks c l n)) ∧ w.grownBy w' v.ownBlock := by
  have h2 := hown.2
  rcases h2 with ⟨rfl, rfl⟩ | ⟨g, cap, cur, rfl, hb, hg, _⟩
  · have : l = [] := List.eq_nil_of_length_eq_zero hn.symm
    subst this
    refine (markIntS_zero none 0 w c).mono ?_
    rintro e9 w' ⟨rfl, rfl⟩
    exact ⟨by simp, hown, ⟨rfl, rfl, rfl, Nat.le_refl _, fun _ _ _ => rfl⟩⟩
  · exact markIntS_rowE base g cap l n w c hc0 hc1 hn hl hown

theorem heldIntS_anyE {ty : TypeId} (base : Nat) (v : Value) (l : List Int) (n : Nat) (w : World) (c : Int) (hc0 : 0 ≤ c) (hc1 : c ≤ 4000000000) (hn : n = l.length) (hl : n ≤ 4611686018427387000) (hown : w.ownsRow base ty 1 v n (ns (nmarks c l n))) :
    Calls Try.prog 20 #[v, .int .i64 c] w fun e w' => e = .returned (.int .i64 (c + (n : Int))) ∧ w = w' := by
  have h2 := hown.2
  rcases h2 with ⟨rfl, rfl⟩ | ⟨g, cap, cur, rfl, hb, hg, _⟩
  · refine (heldIntS_zero none 0 w c).mono ?_
    rintro e9 w' ⟨rfl, rfl⟩
    exact ⟨by simp, rfl⟩
  · refine heldIntS_pos g 0 cap n w c hc0 hc1 hl (fun i hi => ?_)
    have h1 := hown.cellAt i (by omega)
    rw [ns_get _ i (by rw [nmarks_length, ← hn]; exact hi), nmarks_get c l n i (by rw [← hn]; exact hi), if_pos hi] at h1
    simpa using h1

theorem eqIntS_ownE {e1 e2 : TypeId} {b1 b2 : Nat} (v1 v2 : Value) (l : List Int) (n m : Nat) (w : World) (hn : n = l.length) (hm : m = l.length) (hl : n ≤ 9223372036854775807) (h1 : w.ownsRow b1 e1 1 v1 n (ns l)) (h2 : w.ownsRow b2 e2 1 v2 m (ns l)) :
    Calls Try.prog 17 #[v1, v2] w fun e w' => e = .returned (.bool true) ∧ Below w.heap.size w w' := by
  obtain ⟨ao, ka, rfl, hc⟩ := nums_shapeE h1 hn
  obtain ⟨bo, kb, rfl, hd⟩ := nums_shapeE h2 hm
  exact eqIntS_any ao bo ka kb l n m w hn hm hl hc hd

/-- The first square. -/
def firL : List (List Int) → List Int
  | [] => []
  | q :: _ => q
def firB (f : Int) (l : List (Int × Int)) : Bool := netB f l && anyQ (sqT f l)
def firR (f : Int) (l : List (Int × Int)) : List Int := if netB f l then firL (sqT f l) else []
theorem firR_len (f : Int) (l : List (Int × Int)) : (firR f l).length ≤ 60 := by
  unfold firR
  cases h : netB f l
  · simp
  · rw [if_pos rfl]
    cases hT : sqT f l with
    | nil => simp [firL]
    | cons q r =>
      obtain ⟨a, x, y, z, rfl⟩ := sq_shape (l := l) (F := f.toNat) (k := f.toNat) (q := q) (by show q ∈ sqT f l; rw [hT]; exact List.mem_cons_self ..)
      show (qd a x y z).length ≤ 60
      simp [qd]
theorem fir_no {f : Int} {l : List (Int × Int)} (h : netB f l = false) : firB f l = false ∧ firR f l = [] := ⟨by rw [firB, h]; rfl, by rw [firR, h]; rfl⟩
theorem fir_nil {F : Nat} {l : List (Int × Int)} (h : sqW l F F = []) : firB (F : Int) l = false ∧ firR (F : Int) l = [] := by
  refine ⟨by rw [firB, sqT_at, h]; simp [anyQ], ?_⟩
  rw [firR, sqT_at, h]
  split <;> rfl
theorem fir_yes {F : Nat} {l : List (Int × Int)} (hg : netB (F : Int) l = true) {q : List Int} {r : List (List Int)} (h : sqW l F F = q :: r) : firB (F : Int) l = true ∧ firR (F : Int) l = q :=
  ⟨by rw [firB, hg, sqT_at, h]; rfl, by rw [firR, hg, sqT_at, h]; rfl⟩
theorem slice_Q (B : Nat) (w : World) : (Instr.sliceAt 53 (.pointer (some ⟨B, 0, none⟩)) none none none).run Try.prog w = .ok (.slice (some ⟨B, 0, none⟩) 4 4) w := by
  have hal : Try.prog.arrayLen 53 = 4 := by simp [Program.arrayLen, Try.underlying53]
  have hel : Try.prog.elem 53 = 3 := by simp [Program.elem, Try.underlying53]
  have hsz : (sizeOf 3).run Try.prog w = .ok 1 w := Try.sizeOf3 w
  rw [run_sliceAt_array_all w 53 ⟨B, 0, none⟩ (by rw [hal, hel]; exact Try.underlying53), hal, hel, hsz]
  simp [slicedAt, Addr.add]

set_option maxHeartbeats 1600000 in
set_option maxRecDepth 20000 in
theorem specFir_any (w : World) (f : Int) (ao : Option Addr) (cap : Nat) (l : List (Int × Int)) (n : Nat) (Hn : Hid (n = l.length)) (hs : n ≤ 1048576) (Hc : CallsAt w ao l) :
    Calls Try.prog 15 #[.int .i64 f, .slice ao n cap] w fun e w' => ∃ v, e = .returned (.tuple #[v, .bool (firB f l)]) ∧ w'.ownsRow w.heap.size 3 1 v (firR f l).length (ns (firR f l)) ∧ Below w.heap.size w w' := by
  have HA := Lib.hid Hc
  clear Hc
  cases hg : netB f l
  · have Hg := Lib.hid hg
    have Hno := Lib.hid (fir_no hg)
    clear hg
    go_enter Try.func15, Try.ntmps15
    go_wp2_with fail
    refine (neGood_any _ ao cap l n w Hn.out (by omega) HA.out).mono ?_
    rintro e w1 ⟨rfl, hb1⟩
    rw [Hg.out]
    go_wp2_with fail
    go_ret2
    exact ⟨.slice none 0 0, by rw [Hno.out.1]; rfl, by rw [Hno.out.2]; exact World.ownsRow_nil _ _ _ _, hb1⟩
  · have hfr := net_fr hg
    obtain ⟨F, rfl⟩ := Int.eq_ofNat_of_zero_le (show 0 ≤ f by omega)
    have Hgd := Lib.hid (net_gd hg)
    have Hg := Lib.hid hg
    have Hsh : Hid (∀ q, q ∈ sqW l F F → ∃ a x y z : Nat, q = qd a x y z) := Lib.hid (fun q hq => sq_shape hq)
    clear hg
    obtain ⟨T, hT⟩ : ∃ T, sqW l F F = T := ⟨_, rfl⟩
    have HTe := Lib.hid hT
    rw [hT] at Hsh
    clear hT
    cases T with
    | nil =>
      have Hno := Lib.hid (fir_nil HTe.out)
      go_enter Try.func15, Try.ntmps15
      go_wp2_with fail
      refine (neGood_any _ ao cap l n w Hn.out (by omega) HA.out).mono ?_
      rintro e w1 ⟨rfl, hb1⟩
      rw [Hg.out]
      have hs1 := hb1.size
      go_wp2_with fail
      refine (neSquares_any F ao cap l n w1 Hn hs (by omega) (Lib.hid (HA.out.kept hb1))).mono ?_
      rintro e w2 ⟨v, X, rfl, own, hb2⟩
      rw [HTe.out] at own
      obtain ⟨A, C, rfl⟩ := oss_shape own
      have hb3 := hb1.trans (hb2.mono hs1)
      clear own hb1 hb2
      go_wp2_with fail
      go_ret2
      exact ⟨.slice none 0 0, by rw [Hno.out.1]; rfl, by rw [Hno.out.2]; exact World.ownsRow_nil _ _ _ _, hb3⟩
    | cons q r =>
      have Hy := Lib.hid (fir_yes Hg.out HTe.out)
      go_enter Try.func15, Try.ntmps15
      go_wp2_with fail
      refine (neGood_any _ ao cap l n w Hn.out (by omega) HA.out).mono ?_
      rintro e w1 ⟨rfl, hb1⟩
      rw [Hg.out]
      have hs1 := hb1.size
      go_wp2_with fail
      refine (neSquares_any F ao cap l n w1 Hn hs (by omega) (Lib.hid (HA.out.kept hb1))).mono ?_
      rintro e w2 ⟨v, X, rfl, own, hb2⟩
      rw [HTe.out] at own
      obtain ⟨g, C, rfl, _⟩ := own.outer (by simp)
      obtain ⟨x0, hx0⟩ : ∃ x0, X[0]? = some x0 := ⟨_, List.getElem?_eq_getElem (by rw [own.2.1]; simp)⟩
      have hrow := (own.2.2.1 0 x0 q hx0 rfl).1
      have c0 : w2.cell? ⟨g, 0, none⟩ = some x0 := by rw [own.1.cellAt 0 (by simp)]; exact hx0
      obtain ⟨A0, C0, rfl, _⟩ := nums_shape hrow rfl
      have Hrow := Lib.hid (own_base hs1 hrow)
      have hb3 := hb1.trans (hb2.mono hs1)
      obtain ⟨N, hN⟩ : ∃ N, (q :: r).length = N := ⟨_, rfl⟩
      have hN0 : 0 < N := by rw [← hN]; simp
      have hN1 : ((N : Int) == 0) = false := by simp; omega
      rw [hN]
      clear own hb1 hb2 hrow hN hx0
      go_wp2_with fail
      go_ret2
      exact ⟨_, by rw [Hy.out.1]; rfl, by rw [Hy.out.2]; exact Hrow.out, hb3⟩

set_option maxHeartbeats 1600000 in
set_option maxRecDepth 20000 in
theorem implFir_any (w : World) (f : Int) (ao : Option Addr) (cap : Nat) (l : List (Int × Int)) (n : Nat) (Hn : Hid (n = l.length)) (hs : n ≤ 1048576) (Hc : CallsAt w ao l) :
    Calls Try.prog 16 #[.int .i64 f, .slice ao n cap] w fun e w' => ∃ v, e = .returned (.tuple #[v, .bool (firB f l)]) ∧ w'.ownsRow w.heap.size 53 1 v (firR f l).length (ns (firR f l)) ∧ Below w.heap.size w w' := by
  have HA := Lib.hid Hc
  clear Hc
  cases hg : netB f l
  · have Hg := Lib.hid hg
    have Hno := Lib.hid (fir_no hg)
    clear hg
    go_enter Try.func16, Try.ntmps16
    go_wp2_with fail
    refine (implPairs_any w _ ao cap l n Hn hs HA.out).mono ?_
    rintro e w1 ⟨rfl, hb1⟩
    rw [Hg.out]
    go_wp2_with fail
    go_ret2
    exact ⟨.slice none 0 0, by rw [Hno.out.1]; rfl, by rw [Hno.out.2]; exact World.ownsRow_nil _ _ _ _, hb1⟩
  · have hfr := net_fr hg
    obtain ⟨F, rfl⟩ := Int.eq_ofNat_of_zero_le (show 0 ≤ f by omega)
    have Hgd := Lib.hid (net_gd hg)
    have Hg := Lib.hid hg
    have Hsh : Hid (∀ q, q ∈ sqW l F F → ∃ a x y z : Nat, q = qd a x y z) := Lib.hid (fun q hq => sq_shape hq)
    clear hg
    obtain ⟨T, hT⟩ : ∃ T, sqW l F F = T := ⟨_, rfl⟩
    have HTe := Lib.hid hT
    rw [hT] at Hsh
    clear hT
    cases T with
    | nil =>
      have Hno := Lib.hid (fir_nil HTe.out)
      go_enter Try.func16, Try.ntmps16
      go_wp2_with fail
      refine (implPairs_any w _ ao cap l n Hn hs HA.out).mono ?_
      rintro e w1 ⟨rfl, hb1⟩
      rw [Hg.out]
      have hs1 := hb1.size
      go_wp2_with fail
      refine (firstSquare_any F ao cap l n w1 Hn hs Hgd (Lib.hid (HA.out.kept hb1))).mono ?_
      rintro e w2 ⟨rfl, hb2⟩
      rw [HTe.out, show sqA [] = #[.int .i64 0, .int .i64 0, .int .i64 0, .int .i64 0] from rfl, show anyQ [] = false from rfl]
      have hb3 := hb1.trans (hb2.mono hs1)
      have hs3 := hb3.size
      have Hb4 := Lib.hid (hb3.alloc hs3 (.cells #[.int .i64 0, .int .i64 0, .int .i64 0, .int .i64 0] 53))
      clear hb1 hb2
      go_wp2_with fail
      go_ret2
      exact ⟨.slice none 0 0, by rw [Hno.out.1]; rfl, by rw [Hno.out.2]; exact World.ownsRow_nil _ _ _ _, by first | exact Hb4.out | exact hb3⟩
    | cons q r =>
      have Hy := Lib.hid (fir_yes Hg.out HTe.out)
      obtain ⟨a, x, y, z, rfl⟩ := Hsh.out q (List.mem_cons_self ..)
      go_enter Try.func16, Try.ntmps16
      go_wp2_with fail
      refine (implPairs_any w _ ao cap l n Hn hs HA.out).mono ?_
      rintro e w1 ⟨rfl, hb1⟩
      rw [Hg.out]
      have hs1 := hb1.size
      go_wp2_with fail
      refine (firstSquare_any F ao cap l n w1 Hn hs Hgd (Lib.hid (HA.out.kept hb1))).mono ?_
      rintro e w2 ⟨rfl, hb2⟩
      rw [HTe.out, show sqA (qd a x y z :: r) = #[.int .i64 a, .int .i64 x, .int .i64 y, .int .i64 z] from rfl, show anyQ (qd a x y z :: r) = true from rfl]
      have hb3 := hb1.trans (hb2.mono hs1)
      have hs3 := hb3.size
      have Hb4 := Lib.hid (hb3.alloc hs3 (.cells #[.int .i64 a, .int .i64 x, .int .i64 y, .int .i64 z] 53))
      have hlit : (w2.alloc (.cells #[.int .i64 a, .int .i64 x, .int .i64 y, .int .i64 z] 53)).ownsRow w.heap.size 53 1 (.slice (some ⟨w2.heap.size, 0, none⟩) 4 4) 4 (ns (qd a x y z)) := World.ownsRow_lit (e := 53) (size := 1) w2 #[.int .i64 a, .int .i64 x, .int .i64 y, .int .i64 z] 4 hs3 (by unfold maxLen; omega) rfl
      have Hlit := Lib.hid hlit
      have hsl := fun w' => slice_Q w2.heap.size w'
      clear hb1 hb2 hb3 hlit
      go_wp2_with fail
      go_ret2
      exact ⟨.slice (some ⟨w2.heap.size, 0, none⟩) 4 4, by rw [Hy.out.1]; rfl, by rw [Hy.out.2]; exact Hlit.out, Hb4.out⟩

end Go.Proofs.Ytibjapfaljeclaa
