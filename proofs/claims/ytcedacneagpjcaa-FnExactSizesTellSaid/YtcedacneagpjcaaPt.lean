/- Partners: what they are; the program and the model. -/
import Derived.Test.YtcedacneagpjcaaTe
import Derived.Test.YtcedacneagpjcaaAlI
import Derived.Test.YtcedacneagpjcaaAlS
namespace Go.Proofs.Ytcedacneagpjcaa
open Go.ChangeShapes Go.WideShapes Go.ChangeAt Go.RowKit
set_option linter.unusedVariables false


/-- Those among the first k that tell all wires together with a grouping. -/
def ptI (a : List Int) (L : List (List Int)) (k : Nat) : List Nat := (List.range k).filter fun i => telB a (row L i)

theorem ptI_succ (a : List Int) (L : List (List Int)) (k : Nat) : ptI a L (k + 1) = if telB a (row L k) = true then ptI a L k ++ [k] else ptI a L k := by
  unfold ptI
  rw [List.range_succ, List.filter_append]
  by_cases h : telB a (row L k) = true
  · rw [if_pos h]; simp [h]
  · rw [if_neg h]; simp [h]

theorem ptI_len (a : List Int) (L : List (List Int)) (k : Nat) : (ptI a L k).length ≤ k := by
  unfold ptI
  have := List.length_filter_le (fun i => telB a (row L i)) (List.range k)
  rw [List.length_range] at this; exact this

theorem ptI_lt {a : List Int} {L : List (List Int)} {k i : Nat} (h : i ∈ ptI a L k) : i < k := List.mem_range.1 (List.mem_filter.1 h).1

theorem ptI_pre (a : List Int) (L : List (List Int)) (k : Nat) : ∀ d, ∃ R, ptI a L (k + d) = ptI a L k ++ R
  | 0 => ⟨[], by simp⟩
  | d + 1 => by
    obtain ⟨R, hR⟩ := ptI_pre a L k d
    rw [← Nat.add_assoc, ptI_succ, hR]
    split
    · exact ⟨R ++ [k + d], by rw [List.append_assoc]⟩
    · exact ⟨R, rfl⟩

/-- What a search for so many finds. -/
def PtR (a : List Int) (L : List (List Int)) (M : Int) (P : List Nat) : Prop :=
  P = ptI a L L.length ∨ ∃ k, k ≤ L.length ∧ P = ptI a L k ∧ (P.length : Int) = M

theorem PtR.all {a : List Int} {L : List (List Int)} {P : List Nat} (h : PtR a L 9223372036854775807 P) (hL : L.length ≤ 1000) : P = ptI a L L.length := by
  rcases h with h | ⟨k, hk, rfl, h⟩
  · exact h
  · have := ptI_len a L k; omega

theorem PtR.one {a : List Int} {L : List (List Int)} {P : List Nat} (h : PtR a L 1 P) : P.head? = (ptI a L L.length).head? := by
  rcases h with h | ⟨k, hk, rfl, h⟩
  · rw [h]
  · obtain ⟨R, hR⟩ := ptI_pre a L k (L.length - k)
    rw [show k + (L.length - k) = L.length by omega] at hR
    rw [hR]
    cases hp : ptI a L k with
    | nil => rw [hp] at h; simp at h
    | cons x xs => rfl

/-- The cells of the partners found. -/
def ptX (X : List Value) (P : List Nat) : List Value := P.map fun i => X.getD i (.bool false)

/-- One value more. -/
theorem push_val {P : Program} (w : World) {ops : Array Oper} {rest : List Oper} {o : Oper} {a : Act} {Q : Exit → Act → World → Prop} (hgd : o.guard = none) (s x : Operand) (t : TypeId)
    (ho : o.op = .call { callee := .builtin .append, args := #[s, x], argTypes := #[t, t] })
    (base : Nat) (i : TypeInfo) (ht : P.underlying t = some (.slice 22)) (hi : P.info? 22 = some i) (hz : i.zero = some (.slice none 0 0))
    (hsize : i.size = 1) (hby : i.bytes = 24)
    (v : Value) (xs : List Value) (k : Nat) (hs : a.eval s = v) (hown : w.ownsRow base 22 1 v k xs) (hsml : k ≤ 1000000)
    (r : Value) (c : Nat) (ad : Nat) (hx : a.eval x = .slice (some ⟨ad, 0, none⟩) 1 c) (had : w.cell? ⟨ad, 0, none⟩ = some r) (h1 : r.oneCell' = true) (hbase : base ≤ w.heap.size)
    (h : ∀ g cap w', w'.ownsRow base 22 1 (.slice (some ⟨g, 0, none⟩) (k + 1) cap) (k + 1) (xs ++ [r]) → w.grownBy w' v.ownBlock → wpList P ops Q rest (a.put o.dst (.slice (some ⟨g, 0, none⟩) (k + 1) cap)) w') : wpList P ops Q (o :: rest) a w := by
  refine wpList_append_lies w hgd s x t ho base 22 i (.slice none 0 0) 1 24 ht hi hz hsize hby rfl (by decide) v k xs hs hown ⟨ad, 0, none⟩ 1 c [r] hx rfl ?_ ?_ (by omega) (by unfold maxLen; omega) (by omega) hbase w.heap.size rfl ?_
  · intro j u hu
    cases j with
    | zero => simp at hu; subst hu; exact had
    | succ j => simp at hu
  · intro u hu
    simp at hu
    subst hu
    exact h1
  · intro g cap w' hown' hgr _ _
    exact h g cap w' hown' hgr

set_option maxHeartbeats 3200000 in
set_option maxRecDepth 20000 in
theorem partnersOf_pos (w : World) (b off ka : Nat) (a : List Int) (n : Nat) (Hn : Hid (n = a.length)) (Hg : Hid (grB a = true)) (Hc : Hid (∀ i, i < n → w.cell? ⟨b, off + i, none⟩ = some (.int .i64 (na a i))))
    (base g0 cap0 : Nat) (XI : List Value) (L : List (List Int)) (N : Nat) (HN : Hid (N = L.length)) (hN : N ≤ 1000) (HI : Hid (OwnSS w base (.slice (some ⟨g0, 0, none⟩) N cap0) XI L)) (HL : Hid (∀ i, i < N → (row L i).length = n ∧ grB (row L i) = true)) (M : Int) (hM0 : 0 < M) (hM1 : M ≤ 9223372036854775807) :
    Calls Try.prog 47 #[.slice (some ⟨b, off, none⟩) n ka, .slice (some ⟨g0, 0, none⟩) N cap0, .int .i64 M] w fun e w' => ∃ v P, e = .returned v ∧ PtR a L M P ∧ w'.ownsRow w.heap.size 22 1 v P.length (ptX XI P) ∧ Below w.heap.size w w' := by
  obtain ⟨i22, hi22, hz220, hz221, hz222⟩ := info_parts info22
  go_enter Try.func47, Try.ntmps47
  go_wp2_with fail
  go_loopw [7, 12] (fun v i wr => ∃ (k q : Nat), k ≤ N ∧ i = .int .i64 k ∧ Hid (q = (ptI a L k).length) ∧ wr.ownsRow w.heap.size 22 1 v q (ptX XI (ptI a L k)) ∧ Below w.heap.size w wr) (fun _ i _ => N - (intOf i).toNat)
  case atStart => exact ⟨0, 0, Nat.zero_le _, rfl, rfl, World.ownsRow_nil _ _ _ _, Below.refl _ _⟩
  case round =>
    obtain ⟨k, q, hk, rfl, HQ, hor, hbel⟩ := hrel
    have hqk : q ≤ k := by rw [HQ.out]; exact ptI_len a L k
    obtain ⟨aq, cq, hvq⟩ : ∃ aq cq, u7 = .slice aq q cq := by
      rcases hor.2 with ⟨hv, h0⟩ | ⟨g, cap, cur, hv, _⟩
      · exact ⟨none, 0, by rw [hv, h0]⟩
      · exact ⟨_, cap, hv⟩
    by_cases hlt : k < N
    · have hsz := hbel.size
      have hkL : k < L.length := by rw [← HN.out]; exact hlt
      obtain ⟨a1, c1, hx1, hc0, own1⟩ := HI.out.cellOf HN.out k hkL
      have hc1 := cell_old hbel hc0
      have hgd := HL.out k hlt
      rw [hgd.1] at hc1 own1 hx1
      obtain ⟨b1, d1, hv1, _⟩ := own_pos own1 (by have h1 := grB_len hgd.2; omega)
      simp only [Value.slice.injEq, true_and] at hv1
      obtain ⟨hv1, hw1⟩ := hv1
      subst hv1
      by_cases hbr : (q : Int) = M
      · have hte : ((q : Int) == M) = true := by simpa using hbr
        have HP : Hid (PtR a L M (ptI a L k)) := .inr ⟨k, by omega, rfl, by rw [← HQ.out]; exact hbr⟩
        have Hor := Lib.hid hor
        clear hor hbr hx1 hc0 hgd own1 hw1
        subst hvq
        go_wp2_with fail
        go_ret
        exact ⟨_, _, rfl, HP.out, by rw [← HQ.out]; exact Hor.out, hbel⟩
      · have hte : ((q : Int) == M) = false := by simpa using hbr
        have Hm : Hid (n = (row L k).length) := hgd.1.symm
        have Hgm : Hid (grB (row L k) = true) := hgd.2
        have HT := Lib.hid (tellAll_pos wr b off ka b1 0 c1 a (row L k) n Hn Hm Hg Hgm (fun i hi => cell_old hbel (Hc.out i hi)) (fun i hi => by rw [Nat.zero_add]; exact own_num (own_later own1 hbel) Hm.out i hi))
        have Hps := Lib.hid (ptI_succ a L k)
        have Hxk : Hid (XI.getD k (.bool false) = .slice (some ⟨b1, 0, none⟩) n c1) := by show _ = _; rw [List.getD_eq_getElem?_getD, hx1]; rfl
        have Hor := Lib.hid hor
        have Hbel := Lib.hid hbel
        clear hor hbel hbr hx1 hc0 hgd own1 hw1
        subst hvq
        go_wp2_with fail
        refine HT.out.mono ?_
        rintro e w3 ⟨rfl, hb3⟩
        have Hb3 := Lib.hid (Hbel.out.trans (hb3.mono hsz))
        have Hor3 := Lib.hid (own_later Hor.out hb3)
        have hs3 := Hb3.out.size
        clear hb3 HT Hor Hbel
        cases ht : telB a (row L k)
        · have hp1 : ptI a L (k + 1) = ptI a L k := by rw [Hps.out, if_neg (by rw [ht]; simp)]
          have Hp1 := Lib.hid hp1
          clear hp1 ht
          go_wp2_with fail
          go_roundw
          case rel => exact ⟨k + 1, q, by omega, by go_num, by show q = _; rw [Hp1.out]; exact HQ.out, by rw [Hp1.out]; exact Hor3.out, Hb3.out⟩
          case measure => simp [intOf]; omega
        · have hp1 : ptI a L (k + 1) = ptI a L k ++ [k] := by rw [Hps.out, if_pos ht]
          have Hp1 := Lib.hid hp1
          have bd : Below w3.heap.size w3 (w3.alloc (.cells #[.slice (some ⟨b1, 0, none⟩) n c1] 22)) := (Below.refl w3.heap.size w3).alloc (Nat.le_refl _) _
          have Hor7 := Lib.hid (own_later Hor3.out bd)
          have Hb7 := Lib.hid (Hb3.out.trans (bd.mono hs3))
          have hszW : (w3.alloc (.cells #[.slice (some ⟨b1, 0, none⟩) n c1] 22)).heap.size = w3.heap.size + 1 := by simp
          have hck : (w3.alloc (.cells #[.slice (some ⟨b1, 0, none⟩) n c1] 22)).cell? ⟨w3.heap.size, 0, none⟩ = some (.slice (some ⟨b1, 0, none⟩) n c1) := by rw [cell_of_row _ _ _ _ _ _ (heap_alloc_new w3 _)]; rfl
          have Hck := Lib.hid hck
          clear hp1 ht bd hck Hor3 Hb3
          go_wp2_with (at_builtin; refine push_val _ rfl _ _ 39 rfl w.heap.size i22 Try.underlying39 hi22 hz220 hz221 hz222 _ _ q rfl Hor7.out (by omega) (.slice (some ⟨b1, 0, none⟩) n c1) 1 w3.heap.size rfl Hck.out rfl (by rw [hszW]; omega) ?_)
          intro g9 cap9 w9 own9 hgr9
          have Ho9 : Hid (w9.ownsRow w.heap.size 22 1 (.slice (some ⟨g9, 0, none⟩) (q + 1) cap9) (q + 1) (ptX XI (ptI a L (k + 1)))) := by
            show World.ownsRow _ _ _ _ _ _ _
            rw [Hp1.out]
            unfold ptX
            rw [List.map_append]
            simp only [List.map_cons, List.map_nil]
            rw [Hxk.out]
            exact own9
          have Hb9 := Lib.hid (Hb7.out.grown hgr9 (by rw [hszW]; omega) (fun bb hb => (Hor7.out.lt bb hb).1))
          clear own9 hgr9 Hor7 Hb7
          go_wp2_with fail
          go_roundw
          case rel => exact ⟨k + 1, q + 1, by omega, by go_num, by show q + 1 = _; rw [Hp1.out, List.length_append, ← HQ.out]; rfl, Ho9.out, Hb9.out⟩
          case measure => simp [intOf]; omega
    · obtain rfl : k = N := by omega
      have HP : Hid (PtR a L M (ptI a L k)) := .inl (by rw [HN.out])
      have Hor := Lib.hid hor
      clear hor
      subst hvq
      go_wp2_with fail
      go_ret
      exact ⟨_, _, rfl, HP.out, by rw [← HQ.out]; exact Hor.out, hbel⟩

set_option maxHeartbeats 3200000 in
set_option maxRecDepth 20000 in
theorem cbPartners_pos (w : World) (b off ka : Nat) (a : List Int) (n : Nat) (Hn : Hid (n = a.length)) (Hg : Hid (grB a = true)) (hn7 : n ≤ 7) (Hc : Hid (∀ i, i < n → w.cell? ⟨b, off + i, none⟩ = some (.int .i64 (na a i)))) :
    Calls Try.prog 43 #[.slice (some ⟨b, off, none⟩) n ka] w fun e w' => ∃ v vC XC, e = .returned v ∧ OwnSS w' w.heap.size vC XC (allG n) ∧ w'.ownsRow w.heap.size 22 1 v (ptI a (allG n) (allG n).length).length (ptX XC (ptI a (allG n) (allG n).length)) ∧ Below w.heap.size w w' := by
  obtain ⟨i22, hi22, hz220, hz221, hz222⟩ := info_parts info22
  have hlen := allG_len ⟨n, by omega⟩
  simp only at hlen
  have hn1 := grB_len Hg.out
  have hnn := Hn.out
  obtain ⟨L, hL⟩ : ∃ L, L = allG n := ⟨_, rfl⟩
  have HL : Hid (∀ i, i < L.length → (row L i).length = n ∧ grB (row L i) = true) := fun i hi => by
    subst hL
    have h := allG_row hi
    exact ⟨h.1, good_of h.2 (by omega) (by omega)⟩
  obtain ⟨N, hN⟩ : ∃ N, N = L.length := ⟨_, rfl⟩
  have HN := Lib.hid hN
  have HLL := Lib.hid hL
  rw [← hL] at hlen ⊢
  rw [← hN] at hlen ⊢
  clear hnn hL hN
  go_enter Try.func43, Try.ntmps43
  go_wp2_with fail
  refine (cbAll_nil w n hn7).mono ?_
  rintro e w1 ⟨vC, XC, rfl, hOC, hb1⟩
  rw [← HLL.out] at hOC
  obtain ⟨g0, cap0, rfl, hg0⟩ := hOC.outer (by rw [← HN.out]; exact hlen.2)
  rw [← HN.out] at hOC ⊢
  have hs1 := hb1.size
  have HI := Lib.hid hOC
  have Hb1 := Lib.hid hb1
  clear hOC hb1
  go_wp2_with fail
  go_loopw [3, 10] (fun v i wr => ∃ (k q : Nat), k ≤ N ∧ i = .int .i64 k ∧ Hid (q = (ptI a L k).length) ∧ wr.ownsRow w1.heap.size 22 1 v q (ptX XC (ptI a L k)) ∧ Below w1.heap.size w1 wr) (fun _ i _ => N - (intOf i).toNat)
  case atStart => exact ⟨0, 0, Nat.zero_le _, rfl, rfl, World.ownsRow_nil _ _ _ _, Below.refl _ _⟩
  case round =>
    obtain ⟨k, q, hk, rfl, HQ, hor, hbel⟩ := hrel
    have hqk : q ≤ k := by rw [HQ.out]; exact ptI_len a L k
    obtain ⟨aq, cq, hvq⟩ : ∃ aq cq, u3 = .slice aq q cq := by
      rcases hor.2 with ⟨hv, h0⟩ | ⟨g, cap, cur, hv, _⟩
      · exact ⟨none, 0, by rw [hv, h0]⟩
      · exact ⟨_, cap, hv⟩
    by_cases hlt : k < N
    · have hsz := hbel.size
      have hkL : k < L.length := by rw [← HN.out]; exact hlt
      obtain ⟨a1, c1, hx1, hc0, own1⟩ := HI.out.cellOf HN.out k hkL
      have hc1 := cell_old hbel hc0
      have hgd := HL.out k hkL
      rw [hgd.1] at hc1 own1 hx1
      obtain ⟨b1, d1, hv1, _⟩ := own_pos own1 (by have h1 := grB_len hgd.2; omega)
      simp only [Value.slice.injEq, true_and] at hv1
      obtain ⟨hv1, hw1⟩ := hv1
      subst hv1
      have Hm : Hid (n = (row L k).length) := hgd.1.symm
      have Hgm : Hid (grB (row L k) = true) := hgd.2
      have hbw := Hb1.out.trans (hbel.mono hs1)
      have HT := Lib.hid (cbLike_pos wr b off ka b1 0 c1 a (row L k) n Hn Hm Hg Hgm (fun i hi => cell_old hbw (Hc.out i hi)) (fun i hi => by rw [Nat.zero_add]; exact own_num (own_later own1 hbel) Hm.out i hi))
      have htl := tel_like (l := a) (m := row L k)
      rw [← Hn.out] at htl
      have Htl := Lib.hid htl
      have Hps := Lib.hid (ptI_succ a L k)
      have Hxk : Hid (XC.getD k (.bool false) = .slice (some ⟨b1, 0, none⟩) n c1) := by show _ = _; rw [List.getD_eq_getElem?_getD, hx1]; rfl
      have Hor := Lib.hid hor
      have Hbel := Lib.hid hbel
      clear hor hbel hx1 hc0 hgd own1 hw1 hbw htl
      subst hvq
      go_wp2_with fail
      refine HT.out.mono ?_
      rintro e w3 ⟨v3, X3, rfl, hO3, hb3⟩
      obtain ⟨ao3, cap3, rfl, _⟩ := hO3.reads
      have Hb3 := Lib.hid (Hbel.out.trans (hb3.mono hsz))
      have Hor3 := Lib.hid (own_later Hor.out hb3)
      have hs3 := Hb3.out.size
      clear hO3 hb3 HT Hor Hbel
      obtain ⟨Z, hZ⟩ : ∃ Z, (lkL a (row L k) n n).length = Z := ⟨_, rfl⟩
      have HZ := Lib.hid hZ
      rw [hZ]
      clear hZ
      by_cases hz : Z = 0
      · have ht : telB a (row L k) = true := Htl.out.1 (by rw [HZ.out]; exact hz)
        have hze : ((Z : Int) == 0) = true := by simp; omega
        have hp1 : ptI a L (k + 1) = ptI a L k ++ [k] := by rw [Hps.out, if_pos ht]
        have Hp1 := Lib.hid hp1
        have bd : Below w3.heap.size w3 (w3.alloc (.cells #[.slice (some ⟨b1, 0, none⟩) n c1] 22)) := (Below.refl w3.heap.size w3).alloc (Nat.le_refl _) _
        have Hor7 := Lib.hid (own_later Hor3.out bd)
        have Hb7 := Lib.hid (Hb3.out.trans (bd.mono hs3))
        have hszW : (w3.alloc (.cells #[.slice (some ⟨b1, 0, none⟩) n c1] 22)).heap.size = w3.heap.size + 1 := by simp
        have hck : (w3.alloc (.cells #[.slice (some ⟨b1, 0, none⟩) n c1] 22)).cell? ⟨w3.heap.size, 0, none⟩ = some (.slice (some ⟨b1, 0, none⟩) n c1) := by rw [cell_of_row _ _ _ _ _ _ (heap_alloc_new w3 _)]; rfl
        have Hck := Lib.hid hck
        clear hp1 ht bd hck Hor3 Hb3 hz
        go_wp2_with (at_builtin; refine push_val _ rfl _ _ 39 rfl w1.heap.size i22 Try.underlying39 hi22 hz220 hz221 hz222 _ _ q rfl Hor7.out (by omega) (.slice (some ⟨b1, 0, none⟩) n c1) 1 w3.heap.size rfl Hck.out rfl (by rw [hszW]; omega) ?_)
        intro g9 cap9 w9 own9 hgr9
        have Ho9 : Hid (w9.ownsRow w1.heap.size 22 1 (.slice (some ⟨g9, 0, none⟩) (q + 1) cap9) (q + 1) (ptX XC (ptI a L (k + 1)))) := by
          show World.ownsRow _ _ _ _ _ _ _
          rw [Hp1.out]
          unfold ptX
          rw [List.map_append]
          simp only [List.map_cons, List.map_nil]
          rw [Hxk.out]
          exact own9
        have Hb9 := Lib.hid (Hb7.out.grown hgr9 (by rw [hszW]; omega) (fun bb hb => (Hor7.out.lt bb hb).1))
        clear own9 hgr9 Hor7 Hb7
        go_wp2_with fail
        go_roundw
        case rel => exact ⟨k + 1, q + 1, by omega, by go_num, by show q + 1 = _; rw [Hp1.out, List.length_append, ← HQ.out]; rfl, Ho9.out, Hb9.out⟩
        case measure => simp [intOf]; omega
      · have ht : ¬ telB a (row L k) = true := fun h => hz (by rw [← HZ.out]; exact Htl.out.2 h)
        have hze : ((Z : Int) == 0) = false := by simp; omega
        have hp1 : ptI a L (k + 1) = ptI a L k := by rw [Hps.out, if_neg ht]
        have Hp1 := Lib.hid hp1
        clear hp1 ht hz
        go_wp2_with fail
        go_roundw
        case rel => exact ⟨k + 1, q, by omega, by go_num, by show q = _; rw [Hp1.out]; exact HQ.out, by rw [Hp1.out]; exact Hor3.out, Hb3.out⟩
        case measure => simp [intOf]; omega
    · obtain rfl : k = N := by omega
      have Hor := Lib.hid (own_base hs1 hor)
      have HIf := Lib.hid (HI.out.later hbel)
      have Hbf := Lib.hid (Hb1.out.trans (hbel.mono hs1))
      clear hor
      subst hvq
      go_wp2_with fail
      go_ret
      exact ⟨_, _, XC, rfl, HIf.out, by rw [← HQ.out]; exact Hor.out, Hbf.out⟩

end Go.Proofs.Ytcedacneagpjcaa
