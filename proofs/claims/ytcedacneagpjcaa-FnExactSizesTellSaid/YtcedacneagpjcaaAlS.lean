/- All groupings: the model. -/
import Derived.Test.YtcedacneagpjcaaAlP
namespace Go.Proofs.Ytcedacneagpjcaa
open Go.ChangeShapes Go.WideShapes Go.ChangeAt Go.RowKit
set_option linter.unusedVariables false


theorem l1Most_any (x y : Int) (w : World) : Calls Try.prog 70 #[.int .i64 x, .int .i64 y] w fun e w' => e = .returned (.int .i64 (max x y)) ∧ w = w' := by
  by_cases h : x > y
  · rw [show max x y = x by omega]
    go_enter Try.func70, Try.ntmps70
    go_wp2_with fail
    go_ret
    exact ⟨rfl, rfl⟩
  · rw [show max x y = y by omega]
    go_enter Try.func70, Try.ntmps70
    go_wp2_with fail
    go_ret
    exact ⟨rfl, rfl⟩

/-- What the model lists, with r wires more. -/
def AllOk (W r : Nat) : Prop :=
  ∀ (w : World) (base : Nat) (v : Value) (l : List Int) (n : Nat), Hid (n = l.length) → n + r = W → w.ownsRow base 3 1 v n (ns l) → (n = 0 → v = .slice none 0 0) → Hid (grTo l l.length = true) →
    Calls Try.prog 58 #[v, .int .i64 (W : Int)] w fun e w' => ∃ v' X, e = .returned v' ∧ OwnSS w' w.heap.size v' X (allF l r) ∧ Below w.heap.size w w'

set_option maxRecDepth 20000 in
theorem cbAll_zero (W : Nat) (hW : W ≤ 7) : AllOk W 0 := by
  intro w base v l n Hn hnW hown h0 Hg
  obtain rfl : n = W := by omega
  obtain ⟨ao, cap, rfl, _⟩ := nums_shape hown Hn.out
  have hte : ((n : Int) == (n : Int)) = true := by simp
  have HO := Lib.hid (l1Own_any base _ l n w Hn (by omega) hown h0)
  clear hown h0
  go_enter Try.func58, Try.ntmps58
  go_wp2_with fail
  refine HO.out.mono ?_
  rintro e w1 ⟨v1, rfl, own1, hb1⟩
  have hs1 := hb1.size
  obtain ⟨a1, c1, rfl, _⟩ := nums_shape own1 Hn.out
  have hlit := World.ownsRow_lit (base := w.heap.size) (e := 22) (size := 1) w1 #[.slice a1 n c1] 1 hs1 (by unfold maxLen; omega) rfl
  have bd : Below w1.heap.size w1 (w1.alloc (.cells #[.slice a1 n c1] 22)) := (Below.refl _ _).alloc (Nat.le_refl _) _
  have H0 : Hid (OwnSS (w1.alloc (.cells #[.slice a1 n c1] 22)) w.heap.size (.slice (some ⟨w1.heap.size, 0, none⟩) 1 1) [.slice a1 n c1] (allF l 0)) := by
    refine ⟨hlit, rfl, fun i x m hx hl => ?_, fun i j x y b hij hx hy => ?_⟩
    · cases i with
      | zero =>
        simp at hx
        simp [allF] at hl
        subst hx; subst hl
        refine ⟨by rw [← Hn.out]; exact own_later own1 bd, fun b hb e => ?_⟩
        have h2 := (own1.lt b hb).2
        have e2 : w1.heap.size = b := by simpa [Value.ownBlock] using e
        omega
      | succ i => simp at hx
    · have h1 := (List.getElem?_eq_some_iff.1 hx).1
      have h2 := (List.getElem?_eq_some_iff.1 hy).1
      simp at h1 h2; omega
  have Hb := Lib.hid (hb1.trans (bd.mono hs1))
  clear hlit bd own1 hb1
  go_wp2_with fail
  go_ret
  first | exact ⟨_, _, rfl, H0.out, Hb.out⟩ | exact ⟨_, rfl, ⟨_, H0.out⟩, Hb.out⟩

set_option maxHeartbeats 3200000 in
set_option maxRecDepth 20000 in
theorem cbAll_succ (W r : Nat) (hW : W ≤ 7) (IH : AllOk W r) : AllOk W (r + 1) := by
  intro w base v l n Hn hnW hown h0 Hg
  obtain ⟨i3, hi3, hz30, hz31, hz32⟩ := info_parts info3
  obtain ⟨i22, hi22, hz220, hz221, hz222⟩ := info_parts info22
  have HIH := Lib.hid IH
  have Hrow := Lib.hid hown
  have Hv0 := Lib.hid h0
  have hte : ((n : Int) == (W : Int)) = false := by simp; omega
  have Hnums : Hid (∀ k, k < n → ∃ b off, v.ownBlock = some b ∧ off = 0 ∧ True) := fun k hk => by
    obtain ⟨g, cap, rfl, _⟩ := own_pos hown (by omega)
    exact ⟨g, 0, rfl, rfl, trivial⟩
  have hgd : ∀ k, k < n → 0 ≤ na l k ∧ na l k ≤ nx l k := fun k hk => by
    have := Hg.out
    unfold grTo at this
    rw [List.all_eq_true] at this
    simpa using this k (List.mem_range.2 (by rw [← Hn.out]; exact hk))
  have Hgd := Lib.hid hgd
  have Hng : Hid (nx l n = (ngN l : Nat)) := by show _ = _; unfold ngN; rw [← Hn.out]; have := nx_nonneg l n; omega
  have hngb := ngN_le l
  have hngn : ngN l ≤ n := by rw [Hn.out]; exact hngb
  have hp8 := pow8 r (by omega)
  obtain ⟨ao, cap, hv, hna⟩ := nums_shape hown Hn.out
  have HV := Lib.hid hv
  have Hna := Lib.hid hna
  clear hown h0 IH hgd hngb hna hv
  rw [HV.out]
  go_enter Try.func58, Try.ntmps58
  go_wp2_with fail
  go_loop [5, 19] (fun u i => ∃ k : Nat, k ≤ n ∧ i = .int .i64 k ∧ u = .int .i64 (nx l k)) (fun _ i => n - (intOf i).toNat)
  case atStart => exact ⟨0, Nat.zero_le _, rfl, rfl⟩
  case round =>
    obtain ⟨k, hk, rfl, rfl⟩ := hrel
    by_cases hlt : k < n
    · obtain ⟨b, off, hao, hc0⟩ : ∃ b off, ao = some ⟨b, off, none⟩ ∧ w.cell? ⟨b, off + k, none⟩ = some (.int .i64 (na l k)) := by
        rcases Hna.out with h | ⟨b, off, h, hc⟩
        · subst h; have := Hn.out; simp at this; omega
        · exact ⟨b, off, h, hc k (by rw [← Hn.out]; exact hlt)⟩
      subst hao
      have hg := Hgd.out k hlt
      have hle := nx_le l k
      have hmx : max (nx l k) (na l k + 1) = nx l (k + 1) := by
        simp only [nx]
        by_cases he : na l k = nx l k
        · rw [if_pos he]; omega
        · rw [if_neg he]; omega
      have Hmx := Lib.hid hmx
      have hw1 : IntKind.i64.wrap (na l k + 1) = na l k + 1 := IntWalk.i64_in _ (by omega)
      clear hmx
      go_wp2_with fail
      refine (l1Most_any (nx l k) (na l k + 1) w).mono ?_
      rintro e w' ⟨rfl, rfl⟩
      rw [Hmx.out]
      go_wp2_with fail
      go_round
      case rel => exact ⟨k + 1, by omega, by go_num, rfl⟩
      case measure => simp [intOf]; omega
    · obtain rfl : k = n := by omega
      rw [Hng.out]
      go_wp2_with fail
      go_loopw [8, 9] (fun u i wr => ∃ (q : Nat) (X : List Value), q ≤ ngN l + 1 ∧ i = .int .i64 q ∧ OwnSS wr w.heap.size u X (fF l r q) ∧ Below w.heap.size w wr) (fun _ i _ => ngN l + 1 - (intOf i).toNat)
      case atStart => exact ⟨0, [], Nat.zero_le _, rfl, OwnSS.nil _ _, Below.refl _ _⟩
      case round =>
        obtain ⟨q, X, hq, rfl, hor, hbel⟩ := hrel
        by_cases hql : q < ngN l + 1
        · have hsz := hbel.size
          have hle2 : (q : Int) ≤ ((ngN l : Nat) : Int) := by omega
          obtain ⟨aoU, capU, rfl, _⟩ := hor.reads
          obtain ⟨LU, hLU⟩ : ∃ LU, (fF l r q).length = LU := ⟨_, rfl⟩
          have hLUb : LU ≤ 20000000 := by rw [← hLU]; have := fF_len l r q (by omega) (by have := Hn.out; omega); omega
          rw [hLU] at hor ⊢
          have HLU := Lib.hid hLU
          have Hown1 := Lib.hid (l1Own_any base v l k wr Hn (by omega) (own_later Hrow.out hbel) Hv0.out)
          rw [HV.out] at Hown1
          have Hor := Lib.hid hor
          have Hbel := Lib.hid hbel
          have Hfs := Lib.hid (fF_succ l r q)
          have Hg2 : Hid (grTo (l ++ [(q : Int)]) (l ++ [(q : Int)]).length = true) := by
            show _ = _
            rw [List.length_append]
            exact grTo_app Hg.out ⟨by omega, by have h1 := Hng.out; rw [Hn.out] at h1; rw [h1]; omega⟩
          obtain ⟨LL, hLL⟩ : ∃ LL, fF l r q = LL := ⟨_, rfl⟩
          rw [hLL] at Hor HLU Hfs
          clear hor hbel hLU hLL
          go_wp2_with fail
          refine Hown1.out.mono ?_
          rintro e w3 ⟨v3, rfl, own3, hb3⟩
          obtain ⟨a3, c3, rfl, _⟩ := nums_shape own3 Hn.out
          have Hb3 := Lib.hid (Hbel.out.trans (hb3.mono hsz))
          have Hor3 := Lib.hid (Hor.out.later hb3)
          have hs3 := hb3.size
          have bd : Below w3.heap.size w3 (w3.alloc (.cells #[.int .i64 (q : Int)] 3)) := (Below.refl w3.heap.size w3).alloc (Nat.le_refl _) _
          have Hr7 := Lib.hid (own_later own3 bd)
          have Hor7 := Lib.hid (Hor3.out.later bd)
          have Hb7 := Lib.hid (Hb3.out.trans (bd.mono Hb3.out.size))
          have hszW : (w3.alloc (.cells #[.int .i64 (q : Int)] 3)).heap.size = w3.heap.size + 1 := by simp
          have hck : (w3.alloc (.cells #[.int .i64 (q : Int)] 3)).cell? ⟨w3.heap.size, 0, none⟩ = some (.int .i64 (q : Int)) := by rw [cell_of_row _ _ _ _ _ _ (heap_alloc_new w3 _)]; rfl
          have Hck := Lib.hid hck
          clear own3 hb3 bd hck Hown1 Hor3 Hb3
          go_wp2_with (at_builtin; refine push_num _ rfl _ _ 22 rfl wr.heap.size i3 Try.underlying22 hi3 hz30 hz31 hz32 (.slice a3 k c3) l k rfl Hr7.out (by omega) (q : Int) 1 w3.heap.size rfl Hck.out (by rw [hszW]; omega) ?_)
          intro g9 cap9 w9 own9 hgr9 hat9
          have hor9 : OwnSS w9 w.heap.size (.slice aoU LU capU) X LL := Hor7.out.kept2 hgr9 Hor.out.lt (fun bb hb => (Hr7.out.lt bb hb).1)
          have hb9 := Hb7.out.grown hgr9 (by rw [hszW]; omega) (fun bb hb => by have := (Hr7.out.lt bb hb).1; omega)
          have hs9 : wr.heap.size ≤ w9.heap.size := by have := hgr9.size; omega
          have Hn9 : Hid (k + 1 = (l ++ [(q : Int)]).length) := by show _ = _; rw [List.length_append, ← Hn.out]; rfl
          have HR := Lib.hid (HIH.out w9 wr.heap.size _ (l ++ [(q : Int)]) (k + 1) Hn9 (by omega) own9 (fun h => by omega) Hg2)
          have Hor9 := Lib.hid hor9
          have Hb9 := Lib.hid hb9
          have hal := allF_len r (l ++ [(q : Int)]) (by rw [← Hn9.out]; omega)
          have hss : SSlt (.slice aoU LU capU) X wr.heap.size := Hor.out.lt
          have Hss : Hid (SSlt (.slice aoU LU capU) X w9.heap.size) := fun bb hb => Nat.lt_of_lt_of_le (hss bb hb) hs9
          clear own9 hgr9 hat9 hor9 hb9 hss Hr7 Hor7 Hb7 Hck Hor Hbel
          go_wp2_with fail
          refine HR.out.mono ?_
          rintro e w5 ⟨v5, X5, rfl, hO5, hb5⟩
          obtain ⟨g5, c5, rfl, _⟩ := hO5.outer hal.2
          have Ho5 := Lib.hid hO5
          have Hor5 := Lib.hid (Hor9.out.later hb5)
          have Hb5 := Lib.hid (Hb9.out.trans (hb5.mono Hb9.out.size))
          have hs5 := Hb5.out.size
          have hs95 := hb5.size
          obtain ⟨M5, hM5⟩ : ∃ M, (allF (l ++ [(q : Int)]) r).length = M := ⟨_, rfl⟩
          rw [hM5] at Ho5 hal ⊢
          have HM5 := Lib.hid hM5
          clear hO5 hb5 HR Hor9 Hb9 hM5
          go_wp2_with (at_builtin; refine push_rows _ rfl _ _ 39 rfl w.heap.size i22 Try.underlying39 hi22 hz220 hz221 hz222 _ X LL LU HLU.out rfl Hor5.out (by omega) w9.heap.size g5 c5 X5 (allF (l ++ [(q : Int)]) r) M5 HM5.out Ho5.out (by omega) Hss.out hal.2 (by omega) rfl (by omega) ?_)
          intro v6 w6 own6 hgr6
          rw [← Hfs.out] at own6
          have Ho6 := Lib.hid own6
          have Hb6 := Lib.hid (Hb5.out.grown hgr6 hs5 (fun bb hb => (Hor5.out.1.lt bb hb).1))
          clear own6 hgr6 Hor5 Hb5
          go_wp2_with fail
          go_roundw
          case rel => exact ⟨q + 1, _, by omega, by go_num, Ho6.out, Hb6.out⟩
          case measure => simp [intOf]; omega
        · obtain rfl : q = ngN l + 1 := by omega
          have hle2 : ¬ ((ngN l + 1 : Nat) : Int) ≤ ((ngN l : Nat) : Int) := by omega
          have Hor : Hid (OwnSS wr w.heap.size u8 X (allF l (r + 1))) := hor
          clear hor
          go_wp2_with fail
          go_ret
          first | exact ⟨_, X, rfl, Hor.out, hbel⟩ | exact ⟨_, rfl, ⟨X, Hor.out⟩, hbel⟩

theorem cbAll_any (W : Nat) (hW : W ≤ 7) : ∀ r, AllOk W r
  | 0 => cbAll_zero W hW
  | r + 1 => cbAll_succ W r hW (cbAll_any W hW r)

/-- All groupings of so many wires, by the model. -/
theorem cbAll_nil (w : World) (W : Nat) (hW : W ≤ 7) :
    Calls Try.prog 58 #[.slice none 0 0, .int .i64 (W : Int)] w fun e w' => ∃ v' X, e = .returned v' ∧ OwnSS w' w.heap.size v' X (allG W) ∧ Below w.heap.size w w' := by
  have h := cbAll_any W hW W w 0 (.slice none 0 0) [] 0 rfl (by omega) (World.ownsRow_nil _ _ _ _) (fun _ => rfl) rfl
  rw [allF_all] at h
  exact h

end Go.Proofs.Ytcedacneagpjcaa
