/- The model's tree. -/
import Derived.Test.YtibjapfaljeclaaDoorCo
namespace Go.Proofs.YtibjapfaljeclaaDoor
open Go.ChangeShapes Go.WideShapes Go.ChangeAt Go.RowKit
set_option linter.unusedVariables false

theorem own_apos' {w : World} {base : Nat} {e : TypeId} {size : Nat} {v : Value} {n : Nat} {xs : List Value} (h : w.ownsRow base e size v n xs) (hn : 0 < n) : ∃ g cap, v = .slice (some ⟨g, 0, none⟩) n cap := by
  rcases h.2 with ⟨_, h0⟩ | ⟨g, cap, cur, rfl, _⟩
  · omega
  · exact ⟨g, cap, rfl⟩

theorem l1Own_any (b off cap n : Nat) (l : List Int) (w : World) (Hn : Hid (n = l.length)) (h0 : 0 < n) (hl : n ≤ 1048576) (Hc : Hid (∀ i, i < n → w.cell? ⟨b, off + i, none⟩ = some (.int .i64 (na l i)))) :
    Calls Tryd.prog 34 #[.slice (some ⟨b, off, none⟩) n cap] w fun e w' => ∃ g cap', e = .returned (.slice (some ⟨g, 0, none⟩) n cap') ∧ w'.ownsRow w.heap.size 3 1 (.slice (some ⟨g, 0, none⟩) n cap') n (ns l) ∧ Below w.heap.size w w' := by
  obtain ⟨i0, hi, hz0, hz1, hz2⟩ := info_parts info3
  have hown0 : (w.alloc (.cells #[] 3)).ownsRow w.heap.size 3 1 (.slice (some ⟨w.heap.size, 0, none⟩) 0 0) 0 [] := World.ownsRow_lit w #[] 0 (Nat.le_refl _) (by unfold maxLen; omega) rfl
  have Hown0 := Lib.hid hown0
  clear hown0
  have hbw : ∀ j u, (ns l)[j]? = some u → (w.alloc (.cells #[] 3)).cell? ((⟨b, off, none⟩ : Addr).add j) = some u := by
    intro j u hu
    have hj : j < n := by have := (List.getElem?_eq_some_iff.1 hu).1; rw [ns_length] at this; rw [Hn.out]; exact this
    have hc := Hc.out j hj
    rw [ns_get l j (by rw [← Hn.out]; exact hj)] at hu
    have ha : (⟨b, off, none⟩ : Addr).add j = ⟨b, off + j, none⟩ := by unfold Addr.add; split <;> simp_all
    rw [ha]
    have hb : b < w.heap.size := World.block_lt_of_cell? w _ hc
    rw [World.cell?_of_block (w := w) (Below.heap_alloc w _ _ hb), hc]
    exact hu
  have Hbw := Lib.hid hbw
  clear hbw
  go_enter Tryd.func34, Tryd.ntmps34
  go_wp2_with (at_builtin; refine wpList_append_own _ rfl _ _ 33 rfl w.heap.size 3 i0 (.int .i64 0) 1 8 Tryd.underlying33 hi hz0 hz1 hz2 rfl (by decide) _ _ _ rfl Hown0.out ⟨b, off, none⟩ n cap (ns l) rfl ?c0 ?c1 ?c2 ?c3 ?c4 ?c5 ?_)
  case c0 => rw [ns_length, Nat.mul_one, ← Hn.out]
  case c1 => exact Hbw.out
  case c2 => exact ns_one _
  case c3 => unfold maxLen; omega
  case c4 => omega
  case c5 => simp
  intro v' w1 hown' hgr hnil
  have Hs := Lib.hid (own_apos' hown' h0)
  obtain ⟨g, cap', hv⟩ := Hs.out
  rw [hv] at hown'
  have Hown := Lib.hid hown'
  have Hbel := Lib.hid (((Below.refl w.heap.size w).alloc (Nat.le_refl _) (.cells #[] 3)).grown hgr (by simp) (fun b hb => (Hown0.out.lt b hb).1))
  rw [hv]
  clear hown' hgr hv Hs hnil
  go_wp2_with fail
  go_ret
  exact ⟨g, cap', rfl, Hown.out, Hbel.out⟩

/-- Who is in, in their order. -/
def inT (l : List (Int × Int)) (F t0 : Nat) (b0 : List Int) : Nat → List Int
  | 0 => b0
  | k + 1 => match nxt l F (trs l F t0 k).1 with
    | none => inT l F t0 b0 k
    | some (x, _) => inT l F t0 b0 k ++ [(x : Int)]
theorem na_left (L : List Int) (x : Int) {i : Nat} (h : i < L.length) : na (L ++ [x]) i = na L i := by
  unfold na
  rw [List.getD_eq_getElem?_getD, List.getD_eq_getElem?_getD, List.getElem?_append_left h]
theorem na_end (L : List Int) (x : Int) : na (L ++ [x]) L.length = x := by simp [na, List.getD_eq_getElem?_getD]
theorem seen_snoc (L : List Int) (x u : Int) : seen (L ++ [x]) (L ++ [x]).length u = (seen L L.length u || (x == u)) := by
  rw [Bool.eq_iff_iff]
  simp only [seen, List.any_eq_true, List.mem_range, Bool.or_eq_true, List.length_append, List.length_cons, List.length_nil]
  constructor
  · rintro ⟨i, hi, h⟩
    by_cases e : i < L.length
    · exact .inl ⟨i, e, by rw [← na_left L x e]; exact h⟩
    · have : i = L.length := by omega
      subst this
      exact .inr (by rw [na_end] at h; exact h)
  · rintro (⟨i, hi, h⟩ | h)
    · exact ⟨i, by omega, by rw [na_left L x hi]; exact h⟩
    · exact ⟨L.length, by omega, by rw [na_end]; exact h⟩
structure IN (l : List (Int × Int)) (F t0 : Nat) (b0 : List Int) (k : Nat) : Prop where
  len : (inT l F t0 b0 k).length = b0.length + k
  has : ∀ u : Nat, seen (inT l F t0 b0 k) (inT l F t0 b0 k).length u = (trs l F t0 k).1.testBit u
theorem in_step {l : List (Int × Int)} {F t0 k x y : Nat} {b0 : List Int} (h : IN l F t0 b0 k) (e : nxt l F (trs l F t0 k).1 = some (x, y)) : IN l F t0 b0 (k + 1) ∧ inT l F t0 b0 (k + 1) = inT l F t0 b0 k ++ [(x : Int)] := by
  have hs : inT l F t0 b0 (k + 1) = inT l F t0 b0 k ++ [(x : Int)] := by rw [inT, e]
  have ht : (trs l F t0 (k + 1)).1 = (trs l F t0 k).1 ||| 2 ^ x := by rw [trs, tst, e]
  refine ⟨⟨by rw [hs, List.length_append, h.len]; simp; omega, fun u => ?_⟩, hs⟩
  rw [hs, seen_snoc, h.has, ht, Nat.testBit_or, Nat.testBit_two_pow]
  congr 1
  rw [Bool.eq_iff_iff]
  simp
  omega
/-- What the model's inner search has found. -/
def YS (o : Option Nat) (x : Nat) (p q : Int) : Prop := match o with
  | none => p = -1 ∧ q = -1
  | some u => p = x ∧ q = u
def XS (l : List (Int × Int)) (F t : Nat) (o : Option Nat) (p q : Int) : Prop := match o with
  | none => p = -1 ∧ q = -1
  | some v => p = v ∧ q = (((frst (nb l t v) F).getD 0 : Nat) : Int)
theorem frst_after {p : Nat → Bool} {k i : Nat} (h : frst p k = some i) : ∀ m, frst p (k + m) = some i
  | 0 => h
  | m + 1 => frst_keep (frst_after h m)
theorem frst_to {p : Nat → Bool} {k i F : Nat} (h : frst p k = some i) (hk : k ≤ F) : frst p F = some i := by
  have := frst_after h (F - k)
  rwa [show k + (F - k) = F by omega] at this

set_option maxHeartbeats 8000000 in
set_option maxRecDepth 20000 in
theorem neTree_any (F : Nat) (ao : Option Addr) (cap : Nat) (l : List (Int × Int)) (n : Nat) (bb bo bc m : Nat) (b0 : List Int) (t0 : Nat) (w : World) (Hn : Hid (n = l.length)) (hs : n ≤ 1048576) (Hg : Hid (gdB (F : Int) l = true)) (HJ : Hid (joinB F l = true)) (HA : Hid (CallsAt w ao l))
    (Hm : Hid (m = b0.length)) (hm : m = pc t0) (hm0 : 0 < m) (ht : t0 < 2 ^ F) (Hb : Hid (∀ u : Nat, seen b0 b0.length u = t0.testBit u)) (HB : Hid (∀ i, i < m → w.cell? ⟨bb, bo + i, none⟩ = some (.int .i64 (na b0 i)))) :
    Calls Tryd.prog 16 #[.int .i64 F, .slice ao n cap, .slice (some ⟨bb, bo, none⟩) m bc] w fun e w' => ∃ v, e = .returned v ∧ w'.ownsRow w.heap.size 35 2 v (tre l F t0).length (cs (tre l F t0)) ∧ Below w.heap.size w w' := by
  obtain ⟨i0, hi, iz0, iz1, iz2⟩ := info_parts info35
  obtain ⟨i1, ji, jz0, jz1, jz2⟩ := info_parts info3
  have hF := gd_fr Hg.out
  have hpw := pw (F := F) (by omega)
  have HI0 := Lib.hid (ti_zero l (F := F) (t0 := t0) ht)
  have hmF := ti_le (by omega) HI0.out
  have HN0 : Hid (IN l F t0 b0 0) := Lib.hid ⟨rfl, Hb.out⟩
  have hm10 : m ≤ 10 := by
    have h7 := (full_pc ⟨F, by omega⟩ ⟨t0, by omega⟩ ht).1
    simp only at h7
    omega
  have Hmp := Lib.hid hm
  clear hm
  go_enter Tryd.func16, Tryd.ntmps16
  go_wp2_with fail
  refine (l1Own_any bb bo bc m b0 w Hm hm0 (by omega) HB).mono ?_
  rintro e w1 ⟨g0, c0, rfl, own0, hb1⟩
  have Own0 := Lib.hid own0
  have Hb1 := Lib.hid hb1
  clear own0 hb1
  go_wp2_with fail
  go_loopw [7, 8] (fun iv ov wr => ∃ (k N M : Nat) (gi ci : Nat) (Go : Option Addr) (co : Nat), iv = .slice (some ⟨gi, 0, none⟩) M ci ∧ ov = .slice Go N co ∧ Hid (TI l F t0 k) ∧ Hid (IN l F t0 b0 k) ∧ Hid (N = k) ∧ Hid (M = m + k) ∧ M ≤ 10 ∧ N ≤ 10 ∧
      Hid (wr.ownsRow w.heap.size 3 1 (.slice (some ⟨gi, 0, none⟩) M ci) M (ns (inT l F t0 b0 k))) ∧ Hid (wr.ownsRow w.heap.size 35 2 (.slice Go N co) N (cs (trs l F t0 k).2)) ∧ Hid (∀ a, Go = some a → a.block ≠ gi) ∧ Below w.heap.size w wr) (fun iv _ _ => 11 - (match iv with | .slice _ x _ => x | _ => 0))
  case atStart => exact ⟨0, 0, m, g0, c0, none, 0, rfl, rfl, HI0, HN0, Lib.hid rfl, Lib.hid rfl, hm10, by omega, Own0, Lib.hid (World.ownsRow_nil _ _ _ _), Lib.hid (fun a h => by cases h), Hb1.out⟩
  case round =>
    clear Own0 Hb1
    obtain ⟨k, N, M, gi, ci, Go, co, rfl, rfl, HI, HIN, HNk, HMk, hM10, hN10, Hin, Hout, Hap, hbel⟩ := hrel
    by_cases hMF : M < F
    · have hMF2 : (M : Int) < F := by omega
      obtain ⟨x0, y0, hnx⟩ : ∃ x0 y0, nxt l F (trs l F t0 k).1 = some (x0, y0) := by
        have h := nxt_more Hg.out HJ.out (by have := Hmp.out; omega) HI.out (by have := Hmp.out; have := HMk.out; omega)
        cases e : nxt l F (trs l F t0 k).1 with
        | none => exact absurd e h
        | some p => exact ⟨p.1, p.2, rfl⟩
      obtain ⟨hI2, hst, hx0, hy0, hxy, _, _⟩ := ti_step (by omega) HI.out hnx
      obtain ⟨hIN2, hin2⟩ := in_step HIN.out hnx
      have hk2 := ti_le (by omega) hI2
      have HI2 := Lib.hid hI2
      have HIN2 := Lib.hid hIN2
      have Hst : Hid ((trs l F t0 (k + 1)).2 = (trs l F t0 k).2 ++ [cmm x0 y0]) := Lib.hid (by rw [hst])
      have Hin2 := Lib.hid hin2
      have Hx1 := Lib.hid (nxt_is hnx)
      obtain ⟨t, ht'⟩ : ∃ t, (trs l F t0 k).1 = t := ⟨_, rfl⟩
      obtain ⟨L, hL⟩ : ∃ L, inT l F t0 b0 k = L := ⟨_, rfl⟩
      have Hseen : Hid (∀ u : Nat, seen L M u = t.testBit u) := Lib.hid (fun u => by
        have h1 := HIN.out.has u
        rw [HIN.out.len, hL, ht'] at h1
        rw [← h1, HMk.out, Hm.out])
      have HLM : Hid (M = L.length) := Lib.hid (by rw [← hL, HIN.out.len, HMk.out, Hm.out])
      rw [hL] at Hin
      rw [hL] at Hin2
      rw [ht'] at Hx1
      clear hnx hI2 hst hIN2 hin2 ht' hL
      go_wp2_with fail
      go_loopw [9, 10, 11] (fun pv qv i wr => ∃ (x : Nat) (p q : Int), x ≤ F ∧ pv = .int .i64 p ∧ qv = .int .i64 q ∧ i = .int .i64 x ∧ Hid (XS l F t (frst (nx l F t) x) p q) ∧
          Hid (wr.ownsRow w.heap.size 3 1 (.slice (some ⟨gi, 0, none⟩) M ci) M (ns L)) ∧ Hid (wr.ownsRow w.heap.size 35 2 (.slice Go N co) N (cs (trs l F t0 k).2)) ∧ Below w.heap.size w wr) (fun _ _ i _ => F - (intOf i).toNat)
      case atStart => exact ⟨0, -1, -1, Nat.zero_le _, rfl, rfl, rfl, Lib.hid ⟨rfl, rfl⟩, Hin, Hout, hbel⟩
      case round =>
        clear Hin Hout hbel
        obtain ⟨x, p, q, hx, rfl, rfl, rfl, HX, Hin, Hout, hbel⟩ := hrel
        cases ex : frst (nx l F t) x with
        | some v =>
          have hv := frst_to ex hx
          rw [Hx1.out.1] at hv
          have hv2 : x0 = v := Option.some.inj hv
          have hp : p = (x0 : Int) ∧ q = (y0 : Int) := by
            have h := HX.out
            rw [ex] at h
            have h' : p = (v : Int) ∧ q = (((frst (nb l t v) F).getD 0 : Nat) : Int) := h
            rw [← hv2, Hx1.out.2] at h'
            exact h'
          obtain ⟨rfl, rfl⟩ := hp
          clear ex hv hv2 HX
          by_cases hxF : x < F
          · have hxF2 : (x : Int) < F := by omega
            have hsz := hbel.size
            go_wp2_with (at_builtin; refine wpList_append_lies _ rfl _ _ 33 rfl w.heap.size 3 i1 (.int .i64 0) 1 8 Tryd.underlying33 ji jz0 jz1 jz2 rfl (by decide) _ M _ rfl (Hin.out.alloc (.cells #[.int .i64 x0] 3)) ⟨wr.heap.size, 0, none⟩ 1 1 [.int .i64 x0] rfl rfl ?c1 ?c2 (by omega) ?c3 ?c4 ?c5 (wr.heap.size + 1) ?c6 ?_)
            case c1 => exact World.news_of_block (cs := #[.int .i64 x0]) (t := 3) (fr := (0, 0)) (heap_alloc_new _ _)
            case c2 => intro u hu; simp at hu; subst hu; rfl
            case c3 => unfold maxLen; omega
            case c4 => omega
            case c5 => first | omega | (simp; omega)
            case c6 => simp
            intro g cap6 w6 hown hgr hat _
            have hbA : Below wr.heap.size wr (wr.alloc (.cells #[.int .i64 x0] 3)) := bel_alloc _
            have Hin6 : Hid (w6.ownsRow w.heap.size 3 1 (.slice (some ⟨g, 0, none⟩) (M + 1) cap6) (M + 1) (ns (inT l F t0 b0 (k + 1)))) := Lib.hid (by rw [Hin2.out, ns_append]; exact hown)
            have hout6 := (own_later Hout.out hbA).kept hgr (by
              cases Go with
              | none => exact .inl rfl
              | some a => exact .inr (fun h => Hap.out a rfl (Option.some.inj h)))
            have hap6 : ∀ a, Go = some a → a.block ≠ g := fun a ha => by
              have h1 := (Hout.out.lt a.block (by rw [ha]; rfl)).2
              rcases hat with h | h
              · have h2 : gi = g := Option.some.inj h
                rw [← h2]; exact Hap.out a ha
              · omega
            have hb6 := (hbel.alloc hsz (.cells #[.int .i64 x0] 3)).grown hgr (by simp; omega) (fun b hb => (Hin.out.lt b hb).1)
            have hg6 : g < w6.heap.size := (Hin6.out.lt g rfl).2
            have Hout6 := Lib.hid hout6
            have Hap6 := Lib.hid hap6
            have Hb6 := Lib.hid hb6
            have hs6 := hb6.size
            clear hown hgr hat hbA hout6 hap6 hb6 Hin Hout Hap hbel
            go_wp2_with fail
            refine (caPair_any (x0 : Int) (y0 : Int) w6).mono ?_
            rintro e w7 ⟨rfl, rfl⟩
            obtain ⟨A, hA⟩ : ∃ A, min (x0 : Int) y0 = A := ⟨_, rfl⟩
            obtain ⟨C, hC⟩ : ∃ C, max (x0 : Int) y0 = C := ⟨_, rfl⟩
            have HAC : Hid (cmm x0 y0 = (A, C)) := Lib.hid (by rw [← hA, ← hC]; unfold cmm; simp only [Prod.mk.injEq]; omega)
            rw [hA, hC]
            obtain ⟨w7, hw7⟩ : ∃ w7, w6.alloc (.cells #[.int .i64 A, .int .i64 C] 35) = w7 := ⟨_, rfl⟩
            have hb7 : Below w6.heap.size w6 w7 := by rw [← hw7]; exact bel_alloc _
            have Hin7 := Lib.hid (own_later Hin6.out hb7)
            have Hout7 := Lib.hid (own_later Hout6.out hb7)
            have hbel7 := Hb6.out.trans (hb7.mono hs6)
            have hs7 := hbel7.size
            have hg7 : g < w7.heap.size := (Hin7.out.lt g rfl).2
            rw [hw7]
            clear hA hC hw7 hb7 Hin6 Hout6 Hb6
            go_wp2_with (at_builtin; refine wpList_append_lies _ rfl _ _ 24 rfl w.heap.size 35 i0 (.agg #[.int .i64 0, .int .i64 0]) 2 16 Tryd.underlying24 hi iz0 iz1 iz2 rfl (by decide) _ N _ rfl (Hout7.out.alloc (.cells #[.int .i64 A, .int .i64 C] 35)) ⟨w7.heap.size, 0, none⟩ 1 1 [.int .i64 A, .int .i64 C] rfl rfl ?c1 ?c2 (by omega) ?c3 ?c4 ?c5 (w7.heap.size + 1) ?c6 ?_)
            case c1 => exact World.news_of_block (cs := #[.int .i64 A, .int .i64 C]) (t := 35) (fr := (0, 0)) (heap_alloc_new _ _)
            case c2 => intro u hu; simp at hu; rcases hu with rfl | rfl <;> rfl
            case c3 => unfold maxLen; omega
            case c4 => omega
            case c5 => first | omega | (simp; omega)
            case c6 => simp
            intro g2 cap8 w8 hown hgr hat _
            have hbA : Below w7.heap.size w7 (w7.alloc (.cells #[.int .i64 A, .int .i64 C] 35)) := bel_alloc _
            have Hout8 : Hid (w8.ownsRow w.heap.size 35 2 (.slice (some ⟨g2, 0, none⟩) (N + 1) cap8) (N + 1) (cs (trs l F t0 (k + 1)).2)) := Lib.hid (by rw [Hst.out, HAC.out, cs_append]; exact hown)
            have Hin8 := Lib.hid ((own_later Hin7.out hbA).kept hgr (.inr (fun h => by
              cases Go with
              | none => cases h
              | some a => exact Hap6.out a rfl (Option.some.inj h).symm)))
            have Hap8 : Hid (∀ a, (some ⟨g2, 0, none⟩ : Option Addr) = some a → a.block ≠ g) := Lib.hid (fun a ha => by
              cases ha
              show g2 ≠ g
              rcases hat with h | h
              · cases Go with
                | none => cases h
                | some a => have h2 : a.block = g2 := Option.some.inj h; rw [← h2]; exact Hap6.out a rfl
              · omega)
            have Hb8 := Lib.hid ((hbel7.alloc hs7 (.cells #[.int .i64 A, .int .i64 C] 35)).grown hgr (by simp; omega) (fun b hb => (Hout7.out.lt b hb).1))
            have HN8 : Hid (N + 1 = k + 1) := Lib.hid (by rw [HNk.out])
            have HM8 : Hid (M + 1 = m + (k + 1)) := Lib.hid (by rw [HMk.out]; omega)
            clear hown hgr hat hbA Hin7 Hout7 hbel7
            go_wp2_with fail
            go_roundw
            case rel => exact ⟨k + 1, N + 1, M + 1, g, cap6, some ⟨g2, 0, none⟩, cap8, rfl, rfl, HI2, HIN2, HN8, HM8, by omega, by have := HNk.out; omega, Hin8, Hout8, Hap8, Hb8.out⟩
            case measure => simp; omega
          · have hxF2 : ¬ ((x : Int) < F) := by omega
            have hsz := hbel.size
            go_wp2_with (at_builtin; refine wpList_append_lies _ rfl _ _ 33 rfl w.heap.size 3 i1 (.int .i64 0) 1 8 Tryd.underlying33 ji jz0 jz1 jz2 rfl (by decide) _ M _ rfl (Hin.out.alloc (.cells #[.int .i64 x0] 3)) ⟨wr.heap.size, 0, none⟩ 1 1 [.int .i64 x0] rfl rfl ?c1 ?c2 (by omega) ?c3 ?c4 ?c5 (wr.heap.size + 1) ?c6 ?_)
            case c2 => rfl
            case c3 => unfold maxLen; omega
            case c4 => omega
            case c5 => first | omega | (simp; omega)
            intro g cap6 w6 hown hgr hat _
            have hbA : Below wr.heap.size wr (wr.alloc (.cells #[.int .i64 x0] 3)) := bel_alloc _
            have Hin6 : Hid (w6.ownsRow w.heap.size 3 1 (.slice (some ⟨g, 0, none⟩) (M + 1) cap6) (M + 1) (ns (inT l F t0 b0 (k + 1)))) := Lib.hid (by rw [Hin2.out, ns_append]; exact hown)
            have hout6 := (own_later Hout.out hbA).kept hgr (by
              cases Go with
              | none => exact .inl rfl
              | some a => exact .inr (fun h => Hap.out a rfl (Option.some.inj h)))
            have hap6 : ∀ a, Go = some a → a.block ≠ g := fun a ha => by
              have h1 := (Hout.out.lt a.block (by rw [ha]; rfl)).2
              rcases hat with h | h
              · have h2 : gi = g := Option.some.inj h
                rw [← h2]; exact Hap.out a ha
              · omega
            have hb6 := (hbel.alloc hsz (.cells #[.int .i64 x0] 3)).grown hgr (by simp; omega) (fun b hb => (Hin.out.lt b hb).1)
            have hg6 : g < w6.heap.size := (Hin6.out.lt g rfl).2
            have Hout6 := Lib.hid hout6
            have Hap6 := Lib.hid hap6
            have Hb6 := Lib.hid hb6
            have hs6 := hb6.size
            clear hown hgr hat hbA hout6 hap6 hb6 Hin Hout Hap hbel
            go_wp2_with fail
            refine (caPair_any (x0 : Int) (y0 : Int) w6).mono ?_
            rintro e w7 ⟨rfl, rfl⟩
            obtain ⟨A, hA⟩ : ∃ A, min (x0 : Int) y0 = A := ⟨_, rfl⟩
            obtain ⟨C, hC⟩ : ∃ C, max (x0 : Int) y0 = C := ⟨_, rfl⟩
            have HAC : Hid (cmm x0 y0 = (A, C)) := Lib.hid (by rw [← hA, ← hC]; unfold cmm; simp only [Prod.mk.injEq]; omega)
            rw [hA, hC]
            obtain ⟨w7, hw7⟩ : ∃ w7, w6.alloc (.cells #[.int .i64 A, .int .i64 C] 35) = w7 := ⟨_, rfl⟩
            have hb7 : Below w6.heap.size w6 w7 := by rw [← hw7]; exact bel_alloc _
            have Hin7 := Lib.hid (own_later Hin6.out hb7)
            have Hout7 := Lib.hid (own_later Hout6.out hb7)
            have hbel7 := Hb6.out.trans (hb7.mono hs6)
            have hs7 := hbel7.size
            have hg7 : g < w7.heap.size := (Hin7.out.lt g rfl).2
            rw [hw7]
            clear hA hC hw7 hb7 Hin6 Hout6 Hb6
            go_wp2_with (at_builtin; refine wpList_append_lies _ rfl _ _ 24 rfl w.heap.size 35 i0 (.agg #[.int .i64 0, .int .i64 0]) 2 16 Tryd.underlying24 hi iz0 iz1 iz2 rfl (by decide) _ N _ rfl (Hout7.out.alloc (.cells #[.int .i64 A, .int .i64 C] 35)) ⟨w7.heap.size, 0, none⟩ 1 1 [.int .i64 A, .int .i64 C] rfl rfl ?e1 ?e2 (by omega) ?e3 ?e4 ?e5 (w7.heap.size + 1) ?e6 ?_)
            case e1 => exact World.news_of_block (cs := #[.int .i64 A, .int .i64 C]) (t := 35) (fr := (0, 0)) (heap_alloc_new _ _)
            case e2 => intro u hu; simp at hu; rcases hu with rfl | rfl <;> rfl
            case e3 => unfold maxLen; omega
            case e4 => omega
            case e5 => first | omega | (simp; omega)
            case e6 => simp
            intro g2 cap8 w8 hown hgr hat _
            have hbA : Below w7.heap.size w7 (w7.alloc (.cells #[.int .i64 A, .int .i64 C] 35)) := bel_alloc _
            have Hout8 : Hid (w8.ownsRow w.heap.size 35 2 (.slice (some ⟨g2, 0, none⟩) (N + 1) cap8) (N + 1) (cs (trs l F t0 (k + 1)).2)) := Lib.hid (by rw [Hst.out, HAC.out, cs_append]; exact hown)
            have Hin8 := Lib.hid ((own_later Hin7.out hbA).kept hgr (.inr (fun h => by
              cases Go with
              | none => cases h
              | some a => exact Hap6.out a rfl (Option.some.inj h).symm)))
            have Hap8 : Hid (∀ a, (some ⟨g2, 0, none⟩ : Option Addr) = some a → a.block ≠ g) := Lib.hid (fun a ha => by
              cases ha
              show g2 ≠ g
              rcases hat with h | h
              · cases Go with
                | none => cases h
                | some a => have h2 : a.block = g2 := Option.some.inj h; rw [← h2]; exact Hap6.out a rfl
              · omega)
            have Hb8 := Lib.hid ((hbel7.alloc hs7 (.cells #[.int .i64 A, .int .i64 C] 35)).grown hgr (by simp; omega) (fun b hb => (Hout7.out.lt b hb).1))
            have HN8 : Hid (N + 1 = k + 1) := Lib.hid (by rw [HNk.out])
            have HM8 : Hid (M + 1 = m + (k + 1)) := Lib.hid (by rw [HMk.out]; omega)
            clear hown hgr hat hbA Hin7 Hout7 hbel7
            go_wp2_with fail
            go_roundw
            case rel => exact ⟨k + 1, N + 1, M + 1, g, cap6, some ⟨g2, 0, none⟩, cap8, rfl, rfl, HI2, HIN2, HN8, HM8, by omega, by have := HNk.out; omega, Hin8, Hout8, Hap8, Hb8.out⟩
            case measure => simp; omega
        | none =>
          by_cases hxF : x < F
          · have hp : p = -1 ∧ q = -1 := by have h := HX.out; rw [ex] at h; exact h
            obtain ⟨rfl, rfl⟩ := hp
            have Hex := Lib.hid ex
            have hxF2 : (x : Int) < F := by omega
            clear ex HX
            go_wp2_with fail
            go_loopw [9, 10, 12] (fun pv qv i wr => ∃ (y : Nat) (p q : Int), y ≤ F ∧ pv = .int .i64 p ∧ qv = .int .i64 q ∧ i = .int .i64 y ∧ Hid (YS (frst (nb l t x) y) x p q) ∧ Hid (0 < y → t.testBit x = false) ∧
                Hid (wr.ownsRow w.heap.size 3 1 (.slice (some ⟨gi, 0, none⟩) M ci) M (ns L)) ∧ Hid (wr.ownsRow w.heap.size 35 2 (.slice Go N co) N (cs (trs l F t0 k).2)) ∧ Below w.heap.size w wr) (fun _ _ i _ => F - (intOf i).toNat)
            case atStart => exact ⟨0, -1, -1, Nat.zero_le _, rfl, rfl, rfl, Lib.hid ⟨rfl, rfl⟩, Lib.hid (fun h => absurd h (Nat.lt_irrefl 0)), Hin, Hout, hbel⟩
            case round =>
              clear Hin Hout hbel
              obtain ⟨y, p, q, hy, rfl, rfl, rfl, HY, Hnb, Hin, Hout, hbel⟩ := hrel
              cases ey : frst (nb l t x) y with
              | some u =>
                have hyy := frst_to ey hy
                have hy0' : 0 < y := by have := (frst_some y ey).1; omega
                have hp : p = (x : Int) ∧ q = (u : Int) := by have h := HY.out; rw [ey] at h; exact h
                obtain ⟨rfl, rfl⟩ := hp
                have HX' : Hid (XS l F t (frst (nx l F t) (x + 1)) (x : Int) (u : Int)) := Lib.hid (by
                  rw [frst_yes Hex.out (by rw [nx, Hnb.out hy0', hyy]; rfl)]
                  exact ⟨rfl, by rw [hyy]; rfl⟩)
                clear ey hyy HY hy0'
                by_cases hyF : y < F
                · have hyF2 : (y : Int) < F := by omega
                  go_wp2_with fail
                  go_roundw
                  case rel => exact ⟨x + 1, x, u, by omega, rfl, rfl, by go_num, HX', Hin, Hout, hbel⟩
                  case measure => simp [intOf]; omega
                · obtain rfl : y = F := by omega
                  go_wp2_with fail
                  go_roundw
                  case rel => exact ⟨x + 1, x, u, by omega, rfl, rfl, by go_num, HX', Hin, Hout, hbel⟩
                  case measure => simp [intOf]; omega
              | none =>
                have hp : p = -1 ∧ q = -1 := by have h := HY.out; rw [ey] at h; exact h
                obtain ⟨rfl, rfl⟩ := hp
                have Hey := Lib.hid ey
                clear ey HY
                by_cases hyF : y < F
                · have hyF2 : (y : Int) < F := by omega
                  have HLc : Hid (∀ i, i < M → wr.cell? ⟨gi, 0 + i, none⟩ = some (.int .i64 (na L i))) := Lib.hid (fun i hi => by rw [Nat.zero_add]; exact row_num Hin.out HLM.out i hi)
                  have hsz := hbel.size
                  cases hbx : t.testBit x
                  · have Hbx := Lib.hid hbx
                    cases hby : t.testBit y
                    · have Hs : Hid (YS (frst (nb l t x) (y + 1)) x (-1) (-1)) := Lib.hid (by rw [frst_no Hey.out (by rw [nb, hby]; rfl)]; exact ⟨rfl, rfl⟩)
                      have Hby := Lib.hid hby
                      clear hbx hby
                      go_wp2_with fail
                      refine (l1Has_pos gi 0 ci L M (x : Int) wr (by omega) HLc).mono ?_
                      rintro e w' ⟨rfl, rfl⟩
                      rw [Hseen.out, Hbx.out]
                      go_wp2_with fail
                      refine (l1Has_pos gi 0 ci L M (y : Int) wr (by omega) HLc).mono ?_
                      rintro e w' ⟨rfl, rfl⟩
                      rw [Hseen.out, Hby.out]
                      go_wp2_with fail
                      go_roundw
                      case rel => exact ⟨y + 1, -1, -1, by omega, rfl, rfl, by go_num, Hs, Lib.hid (fun _ => by first | exact Hbx.out | trivial), Hin, Hout, hbel⟩
                      case measure => simp [intOf]; omega
                    · have Hby := Lib.hid hby
                      cases ha : adj l x y
                      · have Hs : Hid (YS (frst (nb l t x) (y + 1)) x (-1) (-1)) := Lib.hid (by rw [frst_no Hey.out (by rw [nb, ha]; simp)]; exact ⟨rfl, rfl⟩)
                        have Ha := Lib.hid ha
                        clear hbx hby ha
                        go_wp2_with fail
                        refine (l1Has_pos gi 0 ci L M (x : Int) wr (by omega) HLc).mono ?_
                        rintro e w' ⟨rfl, rfl⟩
                        rw [Hseen.out, Hbx.out]
                        go_wp2_with fail
                        refine (l1Has_pos gi 0 ci L M (y : Int) wr (by omega) HLc).mono ?_
                        rintro e w' ⟨rfl, rfl⟩
                        rw [Hseen.out, Hby.out]
                        go_wp2_with fail
                        refine (neIs_any ao cap l n x y wr Hn hs (HA.out.kept hbel)).mono ?_
                        rintro e w5 ⟨rfl, hb5⟩
                        have ea : hasC l (min (x : Int) y) (max (x : Int) y) = false := Ha.out
                        rw [ea]
                        have Hin5 := Lib.hid (own_later Hin.out hb5)
                        have Hout5 := Lib.hid (own_later Hout.out hb5)
                        have hb6 := hbel.trans (hb5.mono hsz)
                        clear hb5 hbel ea Hin Hout HLc
                        go_wp2_with fail
                        go_roundw
                        case rel => exact ⟨y + 1, -1, -1, by omega, rfl, rfl, by go_num, Hs, Lib.hid (fun _ => by first | exact Hbx.out | trivial), Hin5, Hout5, hb6⟩
                        case measure => simp [intOf]; omega
                      · have Hs : Hid (YS (frst (nb l t x) (y + 1)) x (x : Int) (y : Int)) := Lib.hid (by rw [frst_yes Hey.out (by rw [nb, hby, ha]; rfl)]; exact ⟨rfl, rfl⟩)
                        have Ha := Lib.hid ha
                        clear hbx hby ha
                        go_wp2_with fail
                        refine (l1Has_pos gi 0 ci L M (x : Int) wr (by omega) HLc).mono ?_
                        rintro e w' ⟨rfl, rfl⟩
                        rw [Hseen.out, Hbx.out]
                        go_wp2_with fail
                        refine (l1Has_pos gi 0 ci L M (y : Int) wr (by omega) HLc).mono ?_
                        rintro e w' ⟨rfl, rfl⟩
                        rw [Hseen.out, Hby.out]
                        go_wp2_with fail
                        refine (neIs_any ao cap l n x y wr Hn hs (HA.out.kept hbel)).mono ?_
                        rintro e w5 ⟨rfl, hb5⟩
                        have ea : hasC l (min (x : Int) y) (max (x : Int) y) = true := Ha.out
                        rw [ea]
                        have Hin5 := Lib.hid (own_later Hin.out hb5)
                        have Hout5 := Lib.hid (own_later Hout.out hb5)
                        have hb6 := hbel.trans (hb5.mono hsz)
                        clear hb5 hbel ea Hin Hout HLc
                        go_wp2_with fail
                        go_roundw
                        case rel => exact ⟨y + 1, x, y, by omega, rfl, rfl, by go_num, Hs, Lib.hid (fun _ => by first | exact Hbx.out | trivial), Hin5, Hout5, hb6⟩
                        case measure => simp [intOf]; omega
                  · have Hbx := Lib.hid hbx
                    have HX' : Hid (XS l F t (frst (nx l F t) (x + 1)) (-1) (-1)) := Lib.hid (by rw [frst_no Hex.out (by rw [nx, hbx]; rfl)]; exact ⟨rfl, rfl⟩)
                    clear hbx
                    go_wp2_with fail
                    refine (l1Has_pos gi 0 ci L M (x : Int) wr (by omega) HLc).mono ?_
                    rintro e w' ⟨rfl, rfl⟩
                    rw [Hseen.out, Hbx.out]
                    go_wp2_with fail
                    go_roundw
                    case rel => exact ⟨x + 1, -1, -1, by omega, rfl, rfl, by go_num, HX', Hin, Hout, hbel⟩
                    case measure => simp [intOf]; omega
                · obtain rfl : y = F := by omega
                  have HX' : Hid (XS l y t (frst (nx l y t) (x + 1)) (-1) (-1)) := Lib.hid (by rw [frst_no Hex.out (by rw [nx, Hey.out]; simp)]; exact ⟨rfl, rfl⟩)
                  go_wp2_with fail
                  go_roundw
                  case rel => exact ⟨x + 1, -1, -1, by omega, rfl, rfl, by go_num, HX', Hin, Hout, hbel⟩
                  case measure => simp [intOf]; omega
          · exfalso
            have : x = F := by omega
            rw [this, Hx1.out.1] at ex
            cases ex
    · have Hfin : Hid (wr.ownsRow w.heap.size 35 2 (.slice Go N co) (tre l F t0).length (cs (tre l F t0))) := Lib.hid (by
        have hn := nxt_full (by omega) HI.out (by have := Hmp.out; have := HMk.out; omega)
        have h := Hout.out
        have e := HNk.out
        rw [tre_stop (by omega) HI.out hn, HI.out.len]
        subst e
        exact h)
      go_wp2_with fail
      go_ret
      exact ⟨_, rfl, Hfin.out, hbel⟩

end Go.Proofs.YtibjapfaljeclaaDoor
