/- The lists of so many wires, by the model. -/
import Derived.Test.YtoigafjocckepaaOw
import Derived.Test.YtoigafjocckepaaWi
namespace Go.Proofs.Ytoigafjocckepaa
open Go.ChangeShapes Go.WideShapes Go.ChangeAt Go.RowKit
set_option linter.unusedVariables false


/-- The least wire that a longer list can have next. -/
def nxt (l : List Int) : Nat := (lst l l.length).toNat
/-- All lists of m wires more behind a list, in order. -/
def lx (f : Nat) : Nat → List Int → List (List Int)
  | 0, l => [l]
  | m + 1, l => (List.range' (nxt l) (f - nxt l)).flatMap fun (x : Nat) => lx f m (l ++ [(x : Int)])
def lxT (f m : Nat) (l : List Int) (q : Nat) : List (List Int) := (List.range' (nxt l) q).flatMap fun (x : Nat) => lx f m (l ++ [(x : Int)])
theorem lxT_succ (f m : Nat) (l : List Int) (q : Nat) : lxT f m l (q + 1) = lxT f m l q ++ lx f m (l ++ [((nxt l + q : Nat) : Int)]) := by
  unfold lxT
  rw [List.range'_1_concat, List.flatMap_append]
  simp
theorem lx_succ (f m : Nat) (l : List Int) : lx f (m + 1) l = lxT f m l (f - nxt l) := rfl
theorem nxt_nil : nxt [] = 0 := rfl
theorem na_last (l : List Int) (x : Int) : na (l ++ [x]) l.length = x := by simp [na, List.getD_eq_getElem?_getD]
theorem na_appl (l : List Int) (x : Int) (j : Nat) (h : j < l.length) : na (l ++ [x]) j = na l j := by simp [na, List.getD_eq_getElem?_getD, List.getElem?_append_left h]
theorem nxt_app (l : List Int) (x : Nat) : nxt (l ++ [(x : Int)]) = x + 1 := by
  unfold nxt
  rw [List.length_append, show l.length + [(x : Int)].length = l.length + 1 from rfl, lst_succ, na_last]
  omega
theorem lx_len (f : Nat) : ∀ m l, (lx f m l).length ≤ 2 ^ (f - nxt l)
  | 0, l => by simp only [lx, List.length_singleton]; exact Nat.one_le_two_pow
  | m + 1, l => by
    have key : ∀ q, q ≤ f - nxt l → (lxT f m l q).length + 2 ^ (f - nxt l - q) ≤ 2 ^ (f - nxt l) := by
      intro q
      induction q with
      | zero => intro _; simp [lxT]
      | succ q ih =>
        intro hq
        have h1 := ih (by omega)
        have h2 := lx_len f m (l ++ [((nxt l + q : Nat) : Int)])
        rw [nxt_app] at h2
        rw [lxT_succ, List.length_append]
        have e1 : f - nxt l - q = (f - nxt l - (q + 1)) + 1 := by omega
        have e2 : f - (nxt l + q + 1) = f - nxt l - (q + 1) := by omega
        rw [e1, Nat.pow_succ] at h1
        rw [e2] at h2
        omega
    have := key (f - nxt l) (Nat.le_refl _)
    rw [lx_succ]
    exact Nat.le_trans (Nat.le_add_right _ _) this
theorem lxT_len (f m : Nat) (l : List Int) (q : Nat) (hq : q ≤ f - nxt l) (hf : f ≤ 10) : (lxT f m l q).length ≤ 1024 := by
  have h1 := lx_len f (m + 1) l
  rw [lx_succ] at h1
  have h2 : (lxT f m l q).length ≤ (lxT f m l (f - nxt l)).length := by
    have : ∀ d, (lxT f m l q).length ≤ (lxT f m l (q + d)).length := by
      intro d
      induction d with
      | zero => exact Nat.le_refl _
      | succ d ih => rw [show q + (d + 1) = q + d + 1 by omega, lxT_succ, List.length_append]; omega
    have := this (f - nxt l - q)
    rw [show q + (f - nxt l - q) = f - nxt l by omega] at this
    exact this
  have h3 : 2 ^ (f - nxt l) ≤ 2 ^ 10 := Nat.pow_le_pow_right (by decide) (by omega)
  omega
def lastOk (f : Nat) (l : List Int) : Prop := l = [] ∨ ∃ x : Nat, x < f ∧ na l (l.length - 1) = x
theorem lastOk_app (f : Nat) (l : List Int) (x : Nat) (h : x < f) : lastOk f (l ++ [(x : Int)]) := by
  refine .inr ⟨x, h, ?_⟩
  rw [List.length_append, show l.length + [(x : Int)].length - 1 = l.length from rfl, na_last]

/-- What the model lists, with m wires more. -/
def WLOk (f m : Nat) : Prop :=
  ∀ (w : World) (base : Nat) (v : Value) (l : List Int) (n : Nat), Hid (n = l.length) → n + m ≤ 10 → base ≤ w.heap.size → w.ownsRow base 3 1 v n (ns l) → (n = 0 → v = .slice none 0 0) → Hid (lastOk f l) →
    Calls Try.prog 70 #[.int .i64 (f : Int), .int .i64 (m : Int), v] w fun e w' => ∃ v' X, e = .returned v' ∧ OwnSS w' base v' X (lx f m l) ∧ (lx f m l = [] → v' = .slice none 0 0) ∧ Below w.heap.size w w'

set_option maxRecDepth 20000 in
theorem wiLists_zero (f : Nat) : WLOk f 0 := by
  intro w base v l n Hn hnm hbase hown h0 Hg
  obtain ⟨ao, cap, rfl, _⟩ := nums_shape hown Hn.out
  have hlit := World.ownsRow_lit (base := base) (e := 36) (size := 1) w #[.slice ao n cap] 1 hbase (by unfold maxLen; omega) rfl
  have bd : Below w.heap.size w (w.alloc (.cells #[.slice ao n cap] 36)) := (Below.refl _ _).alloc (Nat.le_refl _) _
  have H0 : Hid (OwnSS (w.alloc (.cells #[.slice ao n cap] 36)) base (.slice (some ⟨w.heap.size, 0, none⟩) 1 1) [.slice ao n cap] (lx f 0 l)) := by
    refine ⟨hlit, rfl, fun i x m hx hl => ?_, fun i j x y b hij hx hy => ?_⟩
    · cases i with
      | zero =>
        simp at hx
        simp [lx] at hl
        subst hx; subst hl
        refine ⟨by rw [← Hn.out]; exact own_later hown bd, fun b hb e => ?_⟩
        have h2 := (hown.lt b hb).2
        have e2 : w.heap.size = b := by simpa [Value.ownBlock] using e
        omega
      | succ i => simp at hx
    · have h1 := (List.getElem?_eq_some_iff.1 hx).1
      have h2 := (List.getElem?_eq_some_iff.1 hy).1
      simp at h1 h2; omega
  have Hb := Lib.hid bd
  clear hlit bd hown h0
  go_enter Try.func70, Try.ntmps70
  go_wp2_with fail
  go_ret
  exact ⟨_, _, rfl, H0.out, fun h => by simp [lx] at h, Hb.out⟩

set_option maxHeartbeats 3200000 in
set_option maxRecDepth 20000 in
theorem wiLists_succ (f m : Nat) (hf : f ≤ 10) (IH : WLOk f m) : WLOk f (m + 1) := by
  intro w base v l n Hn hnm hbase hown h0 Hg
  obtain ⟨i3, hi3, hz30, hz31, hz32⟩ := info_parts info3
  obtain ⟨i22, hi22, hz220, hz221, hz222⟩ := info_parts info36
  have HIH := Lib.hid IH
  have Hrow := Lib.hid hown
  have Hv0 := Lib.hid h0
  obtain ⟨M1, hM1⟩ : ∃ M1 : Int, ((m + 1 : Nat) : Int) = M1 := ⟨_, rfl⟩
  have hte : (M1 == 0) = false := by rw [beq_eq_false_iff_ne]; omega
  have hwm : IntKind.i64.wrap (M1 - 1) = (m : Int) := by rw [IntWalk.i64_in _ (by omega)]; omega
  rw [hM1]
  clear hM1
  obtain ⟨ao, cap, hv, hna⟩ := nums_shape hown Hn.out
  have HV := Lib.hid hv
  have Hna := Lib.hid hna
  have Hnx : Hid (nxt l = (lst l n).toNat) := by show _ = _; unfold nxt; rw [Hn.out]
  obtain ⟨N0, hN0⟩ : ∃ N0, nxt l = N0 := ⟨_, rfl⟩
  have HN0 := Lib.hid hN0
  have Hloop : ∀ (K : Act → World → Prop), True := fun _ => trivial
  clear Hloop hown h0 IH hna hv
  rw [HV.out]
  by_cases hn0 : n = 0
  · have hgt : ¬ ((n : Int) > 0) := by omega
    have hN00 : N0 = 0 := by rw [← HN0.out, Hnx.out, hn0]; rfl
    have hgt2 : decide ((n : Int) > 0) = false := by simp; omega
    have HN01 := Lib.hid hN00
    clear hN00 hn0
    go_enter Try.func70, Try.ntmps70
    go_wp2_with fail
    go_loopw [8, 9] (fun u i wr => ∃ (q : Nat) (X : List Value), q ≤ f - N0 ∧ i = .int .i64 ((N0 + q : Nat) : Int) ∧ OwnSS wr w.heap.size u X (lxT f m l q) ∧ (lxT f m l q = [] → u = .slice none 0 0) ∧ Below w.heap.size w wr) (fun _ i _ => f + 1 - (intOf i).toNat)
    case atStart => exact ⟨0, [], Nat.zero_le _, by first | rfl | (have h := HN01.out; congr 1; omega) | go_num, OwnSS.nil _ _, fun _ => rfl, Below.refl _ _⟩
    case round =>
      obtain ⟨q, X, hq, rfl, hor, hnil, hbel⟩ := hrel
      by_cases hql : q < f - N0
      · have hsz := hbel.size
        have hxf : ((N0 + q : Nat) : Int) < (f : Int) := by omega
        obtain ⟨LL, hLL⟩ : ∃ LL, lxT f m l q = LL := ⟨_, rfl⟩
        have hlen : LL.length ≤ 1024 := by rw [← hLL]; exact lxT_len f m l q (by rw [HN0.out]; omega) hf
        have hfs := lxT_succ f m l q
        rw [HN0.out, hLL] at hfs
        have Hfs := Lib.hid hfs
        rw [hLL] at hor hnil
        obtain ⟨aoU, capU, rfl, _⟩ := hor.reads
        obtain ⟨LU, hLU⟩ : ∃ LU, LL.length = LU := ⟨_, rfl⟩
        rw [hLU] at hor hnil hlen ⊢
        have HLU := Lib.hid hLU
        have Hown1 := Lib.hid (l1Own_any base v l n wr Hn (by omega) (own_later Hrow.out hbel) Hv0.out)
        rw [HV.out] at Hown1
        have Hor := Lib.hid hor
        have Hbel := Lib.hid hbel
        have Hnil := Lib.hid hnil
        have Hg2 : Hid (lastOk f (l ++ [((N0 + q : Nat) : Int)])) := lastOk_app f l (N0 + q) (by omega)
        obtain ⟨x, hx⟩ : ∃ x, N0 + q = x := ⟨_, rfl⟩
        rw [hx] at Hfs Hg2 hxf ⊢
        have Hx := Lib.hid hx
        have hx10 : x < 10 := by omega
        clear hor hbel hLU hLL hnil hfs hx
        go_wp2_with fail
        refine Hown1.out.mono ?_
        rintro e w3 ⟨v3, rfl, own3, hb3⟩
        obtain ⟨a3, c3, rfl, _⟩ := nums_shape own3 Hn.out
        have Hb3 := Lib.hid (Hbel.out.trans (hb3.mono hsz))
        have Hor3 := Lib.hid (Hor.out.later hb3)
        have hs3 := hb3.size
        have bd : Below w3.heap.size w3 (w3.alloc (.cells #[.int .i64 (x : Int)] 3)) := (Below.refl w3.heap.size w3).alloc (Nat.le_refl _) _
        have Hr7 := Lib.hid (own_later own3 bd)
        have Hor7 := Lib.hid (Hor3.out.later bd)
        have Hb7 := Lib.hid (Hb3.out.trans (bd.mono Hb3.out.size))
        have hszW : (w3.alloc (.cells #[.int .i64 (x : Int)] 3)).heap.size = w3.heap.size + 1 := by simp
        have hck : (w3.alloc (.cells #[.int .i64 (x : Int)] 3)).cell? ⟨w3.heap.size, 0, none⟩ = some (.int .i64 (x : Int)) := by rw [cell_of_row _ _ _ _ _ _ (heap_alloc_new w3 _)]; rfl
        have Hck := Lib.hid hck
        clear own3 hb3 bd hck Hown1 Hor3 Hb3
        go_wp2_with (at_builtin; refine push_num _ rfl _ _ 36 rfl wr.heap.size i3 Try.underlying36 hi3 hz30 hz31 hz32 (.slice a3 n c3) l n rfl Hr7.out (by omega) (x : Int) 1 w3.heap.size rfl Hck.out (by rw [hszW]; omega) ?_)
        intro g9 cap9 w9 own9 hgr9 hat9
        have hor9 : OwnSS w9 w.heap.size (.slice aoU LU capU) X LL := Hor7.out.kept2 hgr9 Hor.out.lt (fun bb hb => (Hr7.out.lt bb hb).1)
        have hb9 := Hb7.out.grown hgr9 (by rw [hszW]; omega) (fun bb hb => by have := (Hr7.out.lt bb hb).1; omega)
        have hs9 : wr.heap.size ≤ w9.heap.size := by have := hgr9.size; omega
        have Hn9 : Hid (n + 1 = (l ++ [(x : Int)]).length) := by show _ = _; rw [List.length_append, ← Hn.out]; rfl
        have HR := Lib.hid (HIH.out w9 wr.heap.size _ (l ++ [(x : Int)]) (n + 1) Hn9 (by omega) hs9 own9 (fun h => by omega) Hg2)
        have Hor9 := Lib.hid hor9
        have Hb9 := Lib.hid hb9
        have Hss : Hid (SSlt (.slice aoU LU capU) X wr.heap.size) := Hor.out.lt
        have hl5 := lx_len f m (l ++ [(x : Int)])
        rw [nxt_app] at hl5
        have hpw : 2 ^ (f - (x + 1)) ≤ 2 ^ 10 := Nat.pow_le_pow_right (by decide) (by omega)
        obtain ⟨R5, hR5⟩ : ∃ R, lx f m (l ++ [(x : Int)]) = R := ⟨_, rfl⟩
        rw [hR5] at HR hl5 Hfs
        have hl5b : R5.length ≤ 1024 := by omega
        clear own9 hgr9 hat9 hor9 hb9 Hr7 Hor7 Hb7 Hck Hor Hbel hl5 hpw hR5
        go_wp2_with fail
        refine HR.out.mono ?_
        rintro e w5 ⟨v5, X5, rfl, hO5, hn5, hb5⟩
        have Hor5 := Lib.hid (Hor9.out.later hb5)
        have Hb5 := Lib.hid (Hb9.out.trans (hb5.mono Hb9.out.size))
        have hs5 := Hb5.out.size
        have hs95 := hb5.size
        have Hx2 := Hx.out
        by_cases hemp : R5 = []
        · have hv5 := hn5 hemp
          subst hv5
          have hfin : lxT f m l (q + 1) = LL := by rw [Hfs.out, hemp]; simp
          have Hfin := Lib.hid hfin
          have hO6 := Hor5.out.1
          rw [HLU.out] at hO6
          have HO6 := Lib.hid hO6
          clear hO5 hb5 HR Hor9 Hb9 hfin hemp hO6 hn5 Hfs
          go_wp2_with (at_builtin; refine wpList_append_own_none rfl _ _ 22 rfl w.heap.size 36 i22 1 Try.underlying22 hi22 _ _ _ rfl HO6.out rfl ?_)
          go_roundw
          case rel => exact ⟨q + 1, X, by omega, by rw [← Hx.out]; go_num, by rw [Hfin.out]; exact Hor5.out, by rw [Hfin.out]; exact Hnil.out, Hb5.out⟩
          case measure => simp [intOf]; omega
        · have hpos : 0 < R5.length := List.length_pos_iff.2 hemp
          obtain ⟨g5, c5, rfl, _⟩ := hO5.outer hpos
          have Ho5 := Lib.hid hO5
          obtain ⟨M5, hM5⟩ : ∃ M, R5.length = M := ⟨_, rfl⟩
          rw [hM5] at Ho5 hpos hl5b ⊢
          have HM5 := Lib.hid hM5
          have Hne : Hid (lxT f m l (q + 1) ≠ []) := by show _ ≠ _; rw [Hfs.out]; intro h; exact hemp (List.append_eq_nil_iff.1 h).2
          clear hO5 hb5 HR Hor9 Hb9 hM5 hemp hn5
          go_wp2_with (at_builtin; refine push_rows _ rfl _ _ 22 rfl w.heap.size i22 Try.underlying22 hi22 hz220 hz221 hz222 _ X LL LU HLU.out rfl Hor5.out (by omega) wr.heap.size g5 c5 X5 R5 M5 HM5.out Ho5.out (by omega) Hss.out hpos (by omega) rfl (by omega) ?_)
          intro v6 w6 own6 hgr6
          rw [← Hfs.out] at own6
          have Ho6 := Lib.hid own6
          have Hb6 := Lib.hid (Hb5.out.grown hgr6 hs5 (fun bb hb => (Hor5.out.1.lt bb hb).1))
          clear own6 hgr6 Hor5 Hb5
          go_wp2_with fail
          go_roundw
          case rel => exact ⟨q + 1, _, by omega, by rw [← Hx.out]; go_num, Ho6.out, fun h => absurd h Hne.out, Hb6.out⟩
          case measure => simp [intOf]; omega
      · obtain rfl : q = f - N0 := by omega
        have hxf : ¬ ((N0 + (f - N0) : Nat) : Int) < (f : Int) := by omega
        have Hl : Hid (lxT f m l (f - N0) = lx f (m + 1) l) := by show _ = _; rw [lx_succ, HN0.out]
        rw [Hl.out] at hor hnil
        have Hor := Lib.hid hor
        have Hnil := Lib.hid hnil
        clear hor hnil
        go_wp2_with fail
        go_ret
        first | exact ⟨_, X, rfl, Hor.out.weaken hbase, Hnil.out, hbel⟩ | exact ⟨_, rfl, ⟨X, Hor.out.weaken hbase⟩, Hnil.out, hbel⟩
  · have hgt : (n : Int) > 0 := by omega
    have hgt2 : decide ((n : Int) > 0) = true := by simp only [decide_eq_true_eq]; omega
    have hgt3 : decide (0 < n) = true := by simp only [decide_eq_true_eq]; omega
    obtain ⟨b, off, hao, hc0⟩ : ∃ b off, ao = some ⟨b, off, none⟩ ∧ w.cell? ⟨b, off + (n - 1), none⟩ = some (.int .i64 (na l (n - 1))) := by
      rcases Hna.out with h | ⟨b, off, h, hc⟩
      · subst h; have := Hn.out; simp at this; omega
      · exact ⟨b, off, h, hc (n - 1) (by rw [← Hn.out]; omega)⟩
    obtain ⟨x0, hx0f, hx0⟩ : ∃ x : Nat, x < f ∧ na l (n - 1) = x := by
      rcases Hg.out with h | ⟨x, h1, h2⟩
      · subst h; have := Hn.out; simp at this; omega
      · exact ⟨x, h1, by rw [Hn.out]; exact h2⟩
    rw [hx0] at hc0
    have hN01 : N0 = x0 + 1 := by
      rw [← HN0.out, Hnx.out]
      obtain ⟨n', rfl⟩ : ∃ n', n = n' + 1 := ⟨n - 1, by omega⟩
      rw [lst_succ]
      simp only [Nat.add_sub_cancel] at hx0
      rw [hx0]; omega
    obtain ⟨n', hn'⟩ : ∃ n', n - 1 = n' := ⟨n - 1, rfl⟩
    rw [hn'] at hc0
    have hsub : (n : Int) - 1 = (n' : Int) := by omega
    have hw1 : IntKind.i64.wrap ((n : Int) - 1) = (n' : Int) := by rw [hsub]; exact IntWalk.i64_in _ (by omega)
    have hb0 : (0 : Int) ≤ n' := by omega
    have hb1 : (n' : Int) < n := by omega
    have hw2 : IntKind.i64.wrap ((x0 : Int) + 1) = (x0 : Int) + 1 := IntWalk.i64_in _ (by omega)
    have HN01 := Lib.hid hN01
    subst hao
    clear hx0 hn' hN01
    go_enter Try.func70, Try.ntmps70
    go_wp2_with fail
    go_loopw [8, 9] (fun u i wr => ∃ (q : Nat) (X : List Value), q ≤ f - N0 ∧ i = .int .i64 ((N0 + q : Nat) : Int) ∧ OwnSS wr w.heap.size u X (lxT f m l q) ∧ (lxT f m l q = [] → u = .slice none 0 0) ∧ Below w.heap.size w wr) (fun _ i _ => f + 1 - (intOf i).toNat)
    case atStart => exact ⟨0, [], Nat.zero_le _, by first | rfl | (have h := HN01.out; congr 1; omega) | go_num, OwnSS.nil _ _, fun _ => rfl, Below.refl _ _⟩
    case round =>
      obtain ⟨q, X, hq, rfl, hor, hnil, hbel⟩ := hrel
      by_cases hql : q < f - N0
      · have hsz := hbel.size
        have hxf : ((N0 + q : Nat) : Int) < (f : Int) := by omega
        obtain ⟨LL, hLL⟩ : ∃ LL, lxT f m l q = LL := ⟨_, rfl⟩
        have hlen : LL.length ≤ 1024 := by rw [← hLL]; exact lxT_len f m l q (by rw [HN0.out]; omega) hf
        have hfs := lxT_succ f m l q
        rw [HN0.out, hLL] at hfs
        have Hfs := Lib.hid hfs
        rw [hLL] at hor hnil
        obtain ⟨aoU, capU, rfl, _⟩ := hor.reads
        obtain ⟨LU, hLU⟩ : ∃ LU, LL.length = LU := ⟨_, rfl⟩
        rw [hLU] at hor hnil hlen ⊢
        have HLU := Lib.hid hLU
        have Hown1 := Lib.hid (l1Own_any base v l n wr Hn (by omega) (own_later Hrow.out hbel) Hv0.out)
        rw [HV.out] at Hown1
        have Hor := Lib.hid hor
        have Hbel := Lib.hid hbel
        have Hnil := Lib.hid hnil
        have Hg2 : Hid (lastOk f (l ++ [((N0 + q : Nat) : Int)])) := lastOk_app f l (N0 + q) (by omega)
        obtain ⟨x, hx⟩ : ∃ x, N0 + q = x := ⟨_, rfl⟩
        rw [hx] at Hfs Hg2 hxf ⊢
        have Hx := Lib.hid hx
        have hx10 : x < 10 := by omega
        clear hor hbel hLU hLL hnil hfs hx
        go_wp2_with fail
        refine Hown1.out.mono ?_
        rintro e w3 ⟨v3, rfl, own3, hb3⟩
        obtain ⟨a3, c3, rfl, _⟩ := nums_shape own3 Hn.out
        have Hb3 := Lib.hid (Hbel.out.trans (hb3.mono hsz))
        have Hor3 := Lib.hid (Hor.out.later hb3)
        have hs3 := hb3.size
        have bd : Below w3.heap.size w3 (w3.alloc (.cells #[.int .i64 (x : Int)] 3)) := (Below.refl w3.heap.size w3).alloc (Nat.le_refl _) _
        have Hr7 := Lib.hid (own_later own3 bd)
        have Hor7 := Lib.hid (Hor3.out.later bd)
        have Hb7 := Lib.hid (Hb3.out.trans (bd.mono Hb3.out.size))
        have hszW : (w3.alloc (.cells #[.int .i64 (x : Int)] 3)).heap.size = w3.heap.size + 1 := by simp
        have hck : (w3.alloc (.cells #[.int .i64 (x : Int)] 3)).cell? ⟨w3.heap.size, 0, none⟩ = some (.int .i64 (x : Int)) := by rw [cell_of_row _ _ _ _ _ _ (heap_alloc_new w3 _)]; rfl
        have Hck := Lib.hid hck
        clear own3 hb3 bd hck Hown1 Hor3 Hb3
        go_wp2_with (at_builtin; refine push_num _ rfl _ _ 36 rfl wr.heap.size i3 Try.underlying36 hi3 hz30 hz31 hz32 (.slice a3 n c3) l n rfl Hr7.out (by omega) (x : Int) 1 w3.heap.size rfl Hck.out (by rw [hszW]; omega) ?_)
        intro g9 cap9 w9 own9 hgr9 hat9
        have hor9 : OwnSS w9 w.heap.size (.slice aoU LU capU) X LL := Hor7.out.kept2 hgr9 Hor.out.lt (fun bb hb => (Hr7.out.lt bb hb).1)
        have hb9 := Hb7.out.grown hgr9 (by rw [hszW]; omega) (fun bb hb => by have := (Hr7.out.lt bb hb).1; omega)
        have hs9 : wr.heap.size ≤ w9.heap.size := by have := hgr9.size; omega
        have Hn9 : Hid (n + 1 = (l ++ [(x : Int)]).length) := by show _ = _; rw [List.length_append, ← Hn.out]; rfl
        have HR := Lib.hid (HIH.out w9 wr.heap.size _ (l ++ [(x : Int)]) (n + 1) Hn9 (by omega) hs9 own9 (fun h => by omega) Hg2)
        have Hor9 := Lib.hid hor9
        have Hb9 := Lib.hid hb9
        have Hss : Hid (SSlt (.slice aoU LU capU) X wr.heap.size) := Hor.out.lt
        have hl5 := lx_len f m (l ++ [(x : Int)])
        rw [nxt_app] at hl5
        have hpw : 2 ^ (f - (x + 1)) ≤ 2 ^ 10 := Nat.pow_le_pow_right (by decide) (by omega)
        obtain ⟨R5, hR5⟩ : ∃ R, lx f m (l ++ [(x : Int)]) = R := ⟨_, rfl⟩
        rw [hR5] at HR hl5 Hfs
        have hl5b : R5.length ≤ 1024 := by omega
        clear own9 hgr9 hat9 hor9 hb9 Hr7 Hor7 Hb7 Hck Hor Hbel hl5 hpw hR5
        go_wp2_with fail
        refine HR.out.mono ?_
        rintro e w5 ⟨v5, X5, rfl, hO5, hn5, hb5⟩
        have Hor5 := Lib.hid (Hor9.out.later hb5)
        have Hb5 := Lib.hid (Hb9.out.trans (hb5.mono Hb9.out.size))
        have hs5 := Hb5.out.size
        have hs95 := hb5.size
        have Hx2 := Hx.out
        by_cases hemp : R5 = []
        · have hv5 := hn5 hemp
          subst hv5
          have hfin : lxT f m l (q + 1) = LL := by rw [Hfs.out, hemp]; simp
          have Hfin := Lib.hid hfin
          have hO6 := Hor5.out.1
          rw [HLU.out] at hO6
          have HO6 := Lib.hid hO6
          clear hO5 hb5 HR Hor9 Hb9 hfin hemp hO6 hn5 Hfs
          go_wp2_with (at_builtin; refine wpList_append_own_none rfl _ _ 22 rfl w.heap.size 36 i22 1 Try.underlying22 hi22 _ _ _ rfl HO6.out rfl ?_)
          go_roundw
          case rel => exact ⟨q + 1, X, by omega, by rw [← Hx.out]; go_num, by rw [Hfin.out]; exact Hor5.out, by rw [Hfin.out]; exact Hnil.out, Hb5.out⟩
          case measure => simp [intOf]; omega
        · have hpos : 0 < R5.length := List.length_pos_iff.2 hemp
          obtain ⟨g5, c5, rfl, _⟩ := hO5.outer hpos
          have Ho5 := Lib.hid hO5
          obtain ⟨M5, hM5⟩ : ∃ M, R5.length = M := ⟨_, rfl⟩
          rw [hM5] at Ho5 hpos hl5b ⊢
          have HM5 := Lib.hid hM5
          have Hne : Hid (lxT f m l (q + 1) ≠ []) := by show _ ≠ _; rw [Hfs.out]; intro h; exact hemp (List.append_eq_nil_iff.1 h).2
          clear hO5 hb5 HR Hor9 Hb9 hM5 hemp hn5
          go_wp2_with (at_builtin; refine push_rows _ rfl _ _ 22 rfl w.heap.size i22 Try.underlying22 hi22 hz220 hz221 hz222 _ X LL LU HLU.out rfl Hor5.out (by omega) wr.heap.size g5 c5 X5 R5 M5 HM5.out Ho5.out (by omega) Hss.out hpos (by omega) rfl (by omega) ?_)
          intro v6 w6 own6 hgr6
          rw [← Hfs.out] at own6
          have Ho6 := Lib.hid own6
          have Hb6 := Lib.hid (Hb5.out.grown hgr6 hs5 (fun bb hb => (Hor5.out.1.lt bb hb).1))
          clear own6 hgr6 Hor5 Hb5
          go_wp2_with fail
          go_roundw
          case rel => exact ⟨q + 1, _, by omega, by rw [← Hx.out]; go_num, Ho6.out, fun h => absurd h Hne.out, Hb6.out⟩
          case measure => simp [intOf]; omega
      · obtain rfl : q = f - N0 := by omega
        have hxf : ¬ ((N0 + (f - N0) : Nat) : Int) < (f : Int) := by omega
        have Hl : Hid (lxT f m l (f - N0) = lx f (m + 1) l) := by show _ = _; rw [lx_succ, HN0.out]
        rw [Hl.out] at hor hnil
        have Hor := Lib.hid hor
        have Hnil := Lib.hid hnil
        clear hor hnil
        go_wp2_with fail
        go_ret
        first | exact ⟨_, X, rfl, Hor.out.weaken hbase, Hnil.out, hbel⟩ | exact ⟨_, rfl, ⟨X, Hor.out.weaken hbase⟩, Hnil.out, hbel⟩

theorem wiLists_any (f : Nat) (hf : f ≤ 10) : ∀ m, WLOk f m
  | 0 => wiLists_zero f
  | m + 1 => wiLists_succ f m hf (wiLists_any f hf m)

theorem wiLists_nil (w : World) (f m : Nat) (hf : f ≤ 10) (hm : m ≤ 10) :
    Calls Try.prog 70 #[.int .i64 (f : Int), .int .i64 (m : Int), .slice none 0 0] w fun e w' => ∃ v' X, e = .returned v' ∧ OwnSS w' w.heap.size v' X (lx f m []) ∧ (lx f m [] = [] → v' = .slice none 0 0) ∧ Below w.heap.size w w' :=
  wiLists_any f hf m w w.heap.size (.slice none 0 0) [] 0 rfl (by omega) (Nat.le_refl _) (World.ownsRow_nil _ _ _ _) (fun _ => rfl) (.inl rfl)

end Go.Proofs.Ytoigafjocckepaa
