/- Groups told anew: the model. -/
import Derived.Test.YtoaobdeigangfaaAn
namespace Go.Proofs.Ytoaobdeigangfaa
open Go.ChangeShapes Go.WideShapes Go.ChangeAt Go.RowKit
set_option linter.unusedVariables false


theorem own_pos {w : World} {base n : Nat} {e : TypeId} {size : Nat} {v : Value} {xs : List Value} (h : w.ownsRow base e size v n xs) (h0 : 0 < n) : ∃ g cap, v = .slice (some ⟨g, 0, none⟩) n cap ∧ base ≤ g := by
  rcases h.2 with ⟨_, hh⟩ | ⟨g, cap, cur, rfl, hb, _⟩
  · omega
  · exact ⟨g, cap, rfl, hb⟩

theorem own_num {w : World} {base g n cap : Nat} {l : List Int} (h : w.ownsRow base 3 1 (.slice (some ⟨g, 0, none⟩) n cap) n (ns l)) (hn : n = l.length) (j : Nat) (hj : j < n) : w.cell? ⟨g, j, none⟩ = some (.int .i64 (na l j)) := by
  have h1 := h.cellAt j (by omega)
  rw [ns_get l j (by omega)] at h1
  exact h1

/-- What has been found, and the place of what is sought once it has been passed. -/
def mid (A : List Int) (q j : Nat) : List Int := if q < j then A ++ [(q : Int)] else A

theorem mid_len (A : List Int) (q j : Nat) : (mid A q j).length ≤ A.length + 1 := by unfold mid; split <;> simp

theorem ord_at (l : List Int) (k j : Nat) (hj : j < (ord l (k + 1)).length) : na (ord l (k + 1)) j = na l k ↔ j = (ord l (k + 1)).idxOf (na l k) := by
  have hm := ord_mem l k
  have hq := List.idxOf_lt_length_of_mem hm
  have hat : na (ord l (k + 1)) ((ord l (k + 1)).idxOf (na l k)) = na l k := by rw [← na_get _ _ hq]; exact List.getElem_idxOf hq
  constructor
  · intro h
    have h2 : (ord l (k + 1))[j] = (ord l (k + 1))[(ord l (k + 1)).idxOf (na l k)] := by rw [na_get _ _ hj, na_get _ _ hq, h, hat]
    have hp := List.pairwise_iff_getElem.1 (ord_nodup l (k + 1))
    rcases Nat.lt_trichotomy j ((ord l (k + 1)).idxOf (na l k)) with h3 | h3 | h3
    · exact absurd h2 (hp _ _ _ _ h3)
    · exact h3
    · exact absurd h2.symm (hp _ _ _ _ h3)
  · intro h
    rw [h]; exact hat

theorem an_take (l : List Int) (k : Nat) (h : k < l.length) : (anL l).take (k + 1) = (anL l).take k ++ [(((ord l (k + 1)).idxOf (na l k) : Nat) : Int)] := by
  rw [List.take_succ_eq_append_getElem (by rw [anL_length]; exact h), na_get _ _ (by rw [anL_length]; exact h), anL_at l k h]

theorem seen_mem (l : List Int) (x : Int) : seen l l.length x = decide (x ∈ l) := by
  rw [Bool.eq_iff_iff]
  unfold seen
  simp only [List.any_eq_true, List.mem_range, beq_iff_eq, decide_eq_true_eq]
  constructor
  · rintro ⟨i, hi, e⟩; rw [← e]; exact na_mem hi
  · intro h
    obtain ⟨i, hi, e⟩ := List.getElem_of_mem h
    exact ⟨i, hi, by rw [← na_get l i hi]; exact e⟩

theorem has_any2 (ao : Option Addr) (cap : Nat) (l : List Int) (n : Nat) (x : Int) (w : World) (Hn : Hid (n = l.length)) (hn : n ≤ 1048576) (hc : NumsAt w ao l) :
    Calls Try.prog 68 #[.slice ao n cap, .int .i64 x] w fun e w' => e = .returned (.bool (decide (x ∈ l))) ∧ w = w' := by
  rw [← seen_mem, ← Hn.out]
  rcases hc with h | ⟨b, off, rfl, hc⟩
  · subst h
    obtain rfl : n = 0 := Hn.out
    exact l1Has_zero ao cap x w
  · exact l1Has_pos b off cap l n x w hn (by rw [Hn.out]; exact hc)

set_option maxHeartbeats 1600000 in
set_option maxRecDepth 20000 in
theorem cbAnew_pos (b off cap : Nat) (l : List Int) (n : Nat) (w : World) (Hn : Hid (n = l.length)) (hl : n ≤ 1000)
    (Hc : Hid (∀ i, i < n → w.cell? ⟨b, off + i, none⟩ = some (.int .i64 (na l i)))) :
    Calls Try.prog 55 #[.slice (some ⟨b, off, none⟩) n cap] w fun e w' => ∃ v, e = .returned v ∧ w'.ownsRow w.heap.size 3 1 v n (ns (anL l)) ∧ Below w.heap.size w w' := by
  obtain ⟨i3, hi3, hz30, hz31, hz32⟩ := info_parts info3
  go_enter Try.func55, Try.ntmps55
  go_wp2_with fail
  go_loopw [3, 4, 11] (fun v u i wr => ∃ (k m : Nat), k ≤ n ∧ i = .int .i64 k ∧ Hid (m = (ord l k).length) ∧ wr.ownsRow w.heap.size 3 1 v m (ns (ord l k)) ∧ wr.ownsRow w.heap.size 3 1 u k (ns ((anL l).take k)) ∧ Ap v u ∧ Below w.heap.size w wr) (fun _ _ i _ => n - (intOf i).toNat)
  case atStart => exact ⟨0, 0, Nat.zero_le _, rfl, rfl, World.ownsRow_nil _ _ _ _, World.ownsRow_nil _ _ _ _, Ap.nil _, Below.refl _ _⟩
  case round =>
    obtain ⟨k, m, hk, rfl, HL, hor, hot, hap, hbel⟩ := hrel
    by_cases hlt : k < n
    · have hkl : k < l.length := by have := Hn.out; omega
      have h0 := cell_old hbel (Hc.out k hlt)
      obtain ⟨x, hx⟩ : ∃ x, na l k = x := ⟨_, rfl⟩
      have HX := Lib.hid hx
      rw [hx] at h0
      have hmk : m ≤ k := by rw [HL.out]; exact ord_len l k
      obtain ⟨Q, hQ⟩ : ∃ Q, (ord l (k + 1)).idxOf x = Q := ⟨_, rfl⟩
      have HQ := Lib.hid hQ
      obtain ⟨ao6, cap6, rfl, hna⟩ := nums_shape hor HL.out
      have HNa := Lib.hid hna
      have Ho6 := Lib.hid hor
      have Ht6 := Lib.hid hot
      have Hap6 := Lib.hid hap
      have hsz := hbel.size
      have Hb6 := Lib.hid hbel
      have Hhas : Hid (Calls Try.prog 68 #[.slice ao6 m cap6, .int .i64 x] wr fun e w' => e = .returned (.bool (decide (x ∈ ord l k))) ∧ wr = w') := has_any2 ao6 cap6 (ord l k) m x wr HL (by omega) hna
      clear hor hot hap hbel hna hx hQ
      go_wp2_with fail
      refine Hhas.out.mono ?_
      rintro e w' ⟨rfl, rfl⟩
      by_cases hm : x ∈ ord l k
      · have hR : decide (x ∈ ord l k) = true := by simpa using hm
        rw [hR]
        have hoe : ord l (k + 1) = ord l k := by simp only [ord, HX.out, hm, if_true]
        have HLo : Hid (m = (ord l (k + 1)).length) := by show _ = _; rw [hoe]; exact HL.out
        rw [← hoe] at Ho6
        obtain ⟨m6, hm6⟩ : ∃ m6, m6 = m := ⟨_, rfl⟩
        subst hm6
        clear hR hoe hm HNa Hhas
        obtain ⟨g6, hvg, hbg⟩ : ∃ g6, ao6 = some ⟨g6, 0, none⟩ ∧ w.heap.size ≤ g6 := by
          obtain ⟨gg, cc, hv, hb⟩ := own_pos Ho6.out (by rw [HLo.out]; exact List.length_pos_of_mem (ord_mem l k))
          simp only [Value.slice.injEq, true_and] at hv
          exact ⟨gg, hv.1, hb⟩
        subst hvg
        have HIx : Hid (∀ j, j < m6 → (na (ord l (k + 1)) j = x ↔ j = Q)) := fun j hj => by
          have := ord_at l k j (by rw [← HLo.out]; exact hj)
          rw [HX.out, HQ.out] at this; exact this
        have HQm : Hid (Q < m6) := by show _ < _; rw [← HQ.out, HLo.out, ← HX.out]; exact List.idxOf_lt_length_of_mem (ord_mem l k)
        generalize hO : ord l (k + 1) = O at Ho6 HLo HIx
        have HO := Lib.hid hO
        generalize hT : (anL l).take k = T at Ht6
        have HT := Lib.hid hT
        have HTl : Hid (T.length = k) := by show _ = _; rw [← hT, List.length_take, anL_length]; omega
        clear hO hT
        go_wp2_with fail
        go_loopw [4, 25] (fun v i wr => ∃ (j mm : Nat), j ≤ m6 ∧ i = .int .i64 j ∧ Hid (mm = (mid T Q j).length) ∧ wr.ownsRow w.heap.size 3 1 v mm (ns (mid T Q j)) ∧ wr.ownsRow w.heap.size 3 1 (.slice (some ⟨g6, 0, none⟩) m6 cap6) m6 (ns O) ∧ Ap (.slice (some ⟨g6, 0, none⟩) m6 cap6) v ∧ Below w.heap.size w wr) (fun _ i _ => m6 - (intOf i).toNat)
        case atStart => exact ⟨0, k, Nat.zero_le _, rfl, by show k = _; unfold mid; rw [if_neg (Nat.not_lt_zero _), HTl.out], by unfold mid; rw [if_neg (Nat.not_lt_zero _)]; exact Ht6.out, Ho6.out, Hap6.out, Hb6.out⟩
        case round =>
          obtain ⟨j, mm, hj, rfl, HM, hot, hon, hap, hbel⟩ := hrel
          by_cases hjl : j < m6
          · have hcj := own_num hon HLo.out j hjl
            obtain ⟨aoT, capT, rfl, _⟩ := nums_shape hot HM.out
            have hmml : mm ≤ k + 1 := by rw [HM.out]; have := mid_len T Q j; have := HTl.out; omega
            have Hot := Lib.hid hot
            have Hon := Lib.hid hon
            have Hap := Lib.hid hap
            have hsz := hbel.size
            have Hbel := Lib.hid hbel
            have hix := HIx.out j hjl
            clear hot hon hap hbel
            by_cases hjq : j = Q
            · have hte : (na O j == x) = true := by simp; exact hix.2 hjq
              have Hm1 : Hid (mid T Q j = T) := by show _ = _; unfold mid; rw [if_neg (by omega)]
              have Hm2 : Hid (mid T Q (j + 1) = T ++ [(j : Int)]) := by show _ = _; unfold mid; rw [if_pos (by omega), hjq]
              have hot2 := Hot.out
              rw [Hm1.out] at hot2
              have hmk : mm = k := by rw [HM.out, Hm1.out, HTl.out]
              have Hmk := Lib.hid hmk
              have bd : Below wr.heap.size wr (wr.alloc (.cells #[.int .i64 (j : Int)] 3)) := (Below.refl wr.heap.size wr).alloc (Nat.le_refl _) _
              have Hrow7 := Lib.hid (own_later hot2 bd)
              have Hon7 := Lib.hid (own_later Hon.out bd)
              have Hb7 := Lib.hid (Hbel.out.trans (bd.mono hsz))
              have hszW : (wr.alloc (.cells #[.int .i64 (j : Int)] 3)).heap.size = wr.heap.size + 1 := by simp
              have hck : (wr.alloc (.cells #[.int .i64 (j : Int)] 3)).cell? ⟨wr.heap.size, 0, none⟩ = some (.int .i64 (j : Int)) := by rw [cell_of_row _ _ _ _ _ _ (heap_alloc_new wr _)]; rfl
              have Hck := Lib.hid hck
              clear hix hjq hot2 hmk bd hck Hot Hon Hbel
              go_wp2_with (at_builtin; refine push_num _ rfl _ _ 22 rfl w.heap.size i3 Try.underlying22 hi3 hz30 hz31 hz32 (.slice aoT mm capT) T mm rfl Hrow7.out (by omega) (j : Int) 1 wr.heap.size rfl Hck.out (by rw [hszW]; omega) ?_)
              intro g9 cap9 w9 own9 hgr9 hat9
              have Hon9 := Lib.hid (Hap.out.symm.kept Hon7.out hgr9)
              have Hap9 := Lib.hid (Hap.out.symm.grow (m := mm + 1) (c := cap9) Hon7.out hat9 (by rw [hszW]; exact Nat.le_refl _)).symm
              have Hb9 := Lib.hid (Hb7.out.grown hgr9 (by rw [hszW]; omega) (fun bb hb => (Hrow7.out.lt bb hb).1))
              rw [← Hm2.out] at own9
              have Ho9 := Lib.hid own9
              have HM9 : Hid (mm + 1 = (mid T Q (j + 1)).length) := by show _ = _; rw [Hm2.out, List.length_append, HTl.out, Hmk.out]; rfl
              clear own9 hgr9 hat9 Hrow7 Hon7 Hb7
              go_wp2_with fail
              go_roundw
              case rel => exact ⟨j + 1, mm + 1, by omega, by go_num, HM9, Ho9.out, Hon9.out, Hap9.out, Hb9.out⟩
              case measure => simp [intOf]; omega
            · have hte : (na O j == x) = false := by simp; exact fun e => hjq (hix.1 e)
              have hm1 : mid T Q (j + 1) = mid T Q j := by
                unfold mid
                by_cases h : Q < j
                · rw [if_pos h, if_pos (by omega)]
                · rw [if_neg h, if_neg (by omega)]
              have Hm1 := Lib.hid hm1
              clear hix hjq hm1
              go_wp2_with fail
              go_roundw
              case rel => exact ⟨j + 1, mm, by omega, by go_num, by show mm = _; rw [Hm1.out]; exact HM.out, by rw [Hm1.out]; exact Hot.out, Hon.out, Hap.out, Hbel.out⟩
              case measure => simp [intOf]; omega
          · obtain rfl : j = m6 := by omega
            have hm1 : mid T Q j = (anL l).take (k + 1) := by
              unfold mid
              rw [if_pos HQm.out, an_take l k hkl, HT.out, HX.out, HQ.out]
            rw [hm1] at hot
            have hmk : mm = k + 1 := by rw [HM.out, hm1, List.length_take, anL_length]; omega
            subst hmk
            rw [← HO.out] at hon
            have Hot := Lib.hid hot
            have Hon := Lib.hid hon
            have Hap := Lib.hid hap
            have HLo2 : Hid (j = (ord l (k + 1)).length) := by show _ = _; rw [HO.out]; exact HLo.out
            clear hot hon hap hm1 HM
            go_wp2_with fail
            go_roundw
            case rel => exact ⟨k + 1, j, by omega, by go_num, HLo2, Hon.out, Hot.out, Hap.out, hbel⟩
            case measure => simp [intOf]; omega
      · have hR : decide (x ∈ ord l k) = false := by simpa using hm
        rw [hR]
        have hoe : ord l (k + 1) = ord l k ++ [x] := by simp only [ord, HX.out, hm, if_false]
        have HOE := Lib.hid hoe
        have bd : Below wr.heap.size wr (wr.alloc (.cells #[.int .i64 x] 3)) := (Below.refl wr.heap.size wr).alloc (Nat.le_refl _) _
        have Hrow7 := Lib.hid (own_later Ho6.out bd)
        have Ht7 := Lib.hid (own_later Ht6.out bd)
        have Hb7 := Lib.hid (Hb6.out.trans (bd.mono hsz))
        have hszW : (wr.alloc (.cells #[.int .i64 x] 3)).heap.size = wr.heap.size + 1 := by simp
        have hck : (wr.alloc (.cells #[.int .i64 x] 3)).cell? ⟨wr.heap.size, 0, none⟩ = some (.int .i64 x) := by rw [cell_of_row _ _ _ _ _ _ (heap_alloc_new wr _)]; rfl
        have Hck := Lib.hid hck
        obtain ⟨ap0, hap0⟩ : ∃ q, q = (Value.slice ao6 m cap6) := ⟨_, rfl⟩
        clear hR hoe hm bd hck Ho6 Ht6 Hb6 HNa Hhas
        go_wp2_with (at_builtin; refine push_num _ rfl _ _ 22 rfl w.heap.size i3 Try.underlying22 hi3 hz30 hz31 hz32 (.slice ao6 m cap6) (ord l k) m rfl Hrow7.out (by omega) x 1 wr.heap.size rfl Hck.out (by rw [hszW]; omega) ?_)
        intro g9 cap9 w6 own9 hgr9 hat9
        rw [← HOE.out] at own9
        have Ht6 := Lib.hid (Hap6.out.kept Ht7.out hgr9)
        have Hap9 := Lib.hid (Hap6.out.grow (m := m + 1) (c := cap9) Ht7.out hat9 (by rw [hszW]; exact Nat.le_refl _))
        have Hb6 := Lib.hid (Hb7.out.grown hgr9 (by rw [hszW]; omega) (fun bb hb => (Hrow7.out.lt bb hb).1))
        have Ho6 := Lib.hid own9
        have HLo : Hid (m + 1 = (ord l (k + 1)).length) := by show _ = _; rw [HOE.out, List.length_append, ← HL.out]; rfl
        have hsz := Hb6.out.size
        clear own9 hgr9 hat9 Hrow7 Ht7 Hb7 Hap6 hap0 ap0
        have Hap6 := Hap9
        clear Hap9
        obtain ⟨m6, hm6⟩ : ∃ m6, m6 = m + 1 := ⟨_, rfl⟩
        rw [← hm6] at Ho6 HLo Hap6 ⊢
        have hm6b : m6 ≤ 1001 := by omega
        clear hm6
        obtain ⟨ao6, hao6⟩ : ∃ a : Option Addr, a = some ⟨g9, 0, none⟩ := ⟨_, rfl⟩
        rw [← hao6] at Ho6 Hap6 ⊢
        clear hao6
        obtain ⟨cap6, hcap6⟩ : ∃ c, c = cap9 := ⟨_, rfl⟩
        subst hcap6
        obtain ⟨wr, hwr⟩ : ∃ q, q = w6 := ⟨_, rfl⟩
        subst hwr
        clear hszW Hck
        obtain ⟨g6, hvg, hbg⟩ : ∃ g6, ao6 = some ⟨g6, 0, none⟩ ∧ w.heap.size ≤ g6 := by
          obtain ⟨gg, cc, hv, hb⟩ := own_pos Ho6.out (by rw [HLo.out]; exact List.length_pos_of_mem (ord_mem l k))
          simp only [Value.slice.injEq, true_and] at hv
          exact ⟨gg, hv.1, hb⟩
        subst hvg
        have HIx : Hid (∀ j, j < m6 → (na (ord l (k + 1)) j = x ↔ j = Q)) := fun j hj => by
          have := ord_at l k j (by rw [← HLo.out]; exact hj)
          rw [HX.out, HQ.out] at this; exact this
        have HQm : Hid (Q < m6) := by show _ < _; rw [← HQ.out, HLo.out, ← HX.out]; exact List.idxOf_lt_length_of_mem (ord_mem l k)
        generalize hO : ord l (k + 1) = O at Ho6 HLo HIx
        have HO := Lib.hid hO
        generalize hT : (anL l).take k = T at Ht6
        have HT := Lib.hid hT
        have HTl : Hid (T.length = k) := by show _ = _; rw [← hT, List.length_take, anL_length]; omega
        clear hO hT
        go_wp2_with fail
        go_loopw [4, 25] (fun v i wr => ∃ (j mm : Nat), j ≤ m6 ∧ i = .int .i64 j ∧ Hid (mm = (mid T Q j).length) ∧ wr.ownsRow w.heap.size 3 1 v mm (ns (mid T Q j)) ∧ wr.ownsRow w.heap.size 3 1 (.slice (some ⟨g6, 0, none⟩) m6 cap6) m6 (ns O) ∧ Ap (.slice (some ⟨g6, 0, none⟩) m6 cap6) v ∧ Below w.heap.size w wr) (fun _ i _ => m6 - (intOf i).toNat)
        case atStart => exact ⟨0, k, Nat.zero_le _, rfl, by show k = _; unfold mid; rw [if_neg (Nat.not_lt_zero _), HTl.out], by unfold mid; rw [if_neg (Nat.not_lt_zero _)]; exact Ht6.out, Ho6.out, Hap6.out, Hb6.out⟩
        case round =>
          obtain ⟨j, mm, hj, rfl, HM, hot, hon, hap, hbel⟩ := hrel
          by_cases hjl : j < m6
          · have hcj := own_num hon HLo.out j hjl
            obtain ⟨aoT, capT, rfl, _⟩ := nums_shape hot HM.out
            have hmml : mm ≤ k + 1 := by rw [HM.out]; have := mid_len T Q j; have := HTl.out; omega
            have Hot := Lib.hid hot
            have Hon := Lib.hid hon
            have Hap := Lib.hid hap
            have hsz := hbel.size
            have Hbel := Lib.hid hbel
            have hix := HIx.out j hjl
            clear hot hon hap hbel
            by_cases hjq : j = Q
            · have hte : (na O j == x) = true := by simp; exact hix.2 hjq
              have Hm1 : Hid (mid T Q j = T) := by show _ = _; unfold mid; rw [if_neg (by omega)]
              have Hm2 : Hid (mid T Q (j + 1) = T ++ [(j : Int)]) := by show _ = _; unfold mid; rw [if_pos (by omega), hjq]
              have hot2 := Hot.out
              rw [Hm1.out] at hot2
              have hmk : mm = k := by rw [HM.out, Hm1.out, HTl.out]
              have Hmk := Lib.hid hmk
              have bd : Below wr.heap.size wr (wr.alloc (.cells #[.int .i64 (j : Int)] 3)) := (Below.refl wr.heap.size wr).alloc (Nat.le_refl _) _
              have Hrow7 := Lib.hid (own_later hot2 bd)
              have Hon7 := Lib.hid (own_later Hon.out bd)
              have Hb7 := Lib.hid (Hbel.out.trans (bd.mono hsz))
              have hszW : (wr.alloc (.cells #[.int .i64 (j : Int)] 3)).heap.size = wr.heap.size + 1 := by simp
              have hck : (wr.alloc (.cells #[.int .i64 (j : Int)] 3)).cell? ⟨wr.heap.size, 0, none⟩ = some (.int .i64 (j : Int)) := by rw [cell_of_row _ _ _ _ _ _ (heap_alloc_new wr _)]; rfl
              have Hck := Lib.hid hck
              clear hix hjq hot2 hmk bd hck Hot Hon Hbel
              go_wp2_with (at_builtin; refine push_num _ rfl _ _ 22 rfl w.heap.size i3 Try.underlying22 hi3 hz30 hz31 hz32 (.slice aoT mm capT) T mm rfl Hrow7.out (by omega) (j : Int) 1 wr.heap.size rfl Hck.out (by rw [hszW]; omega) ?_)
              intro g9 cap9 w9 own9 hgr9 hat9
              have Hon9 := Lib.hid (Hap.out.symm.kept Hon7.out hgr9)
              have Hap9 := Lib.hid (Hap.out.symm.grow (m := mm + 1) (c := cap9) Hon7.out hat9 (by rw [hszW]; exact Nat.le_refl _)).symm
              have Hb9 := Lib.hid (Hb7.out.grown hgr9 (by rw [hszW]; omega) (fun bb hb => (Hrow7.out.lt bb hb).1))
              rw [← Hm2.out] at own9
              have Ho9 := Lib.hid own9
              have HM9 : Hid (mm + 1 = (mid T Q (j + 1)).length) := by show _ = _; rw [Hm2.out, List.length_append, HTl.out, Hmk.out]; rfl
              clear own9 hgr9 hat9 Hrow7 Hon7 Hb7
              go_wp2_with fail
              go_roundw
              case rel => exact ⟨j + 1, mm + 1, by omega, by go_num, HM9, Ho9.out, Hon9.out, Hap9.out, Hb9.out⟩
              case measure => simp [intOf]; omega
            · have hte : (na O j == x) = false := by simp; exact fun e => hjq (hix.1 e)
              have hm1 : mid T Q (j + 1) = mid T Q j := by
                unfold mid
                by_cases h : Q < j
                · rw [if_pos h, if_pos (by omega)]
                · rw [if_neg h, if_neg (by omega)]
              have Hm1 := Lib.hid hm1
              clear hix hjq hm1
              go_wp2_with fail
              go_roundw
              case rel => exact ⟨j + 1, mm, by omega, by go_num, by show mm = _; rw [Hm1.out]; exact HM.out, by rw [Hm1.out]; exact Hot.out, Hon.out, Hap.out, Hbel.out⟩
              case measure => simp [intOf]; omega
          · obtain rfl : j = m6 := by omega
            have hm1 : mid T Q j = (anL l).take (k + 1) := by
              unfold mid
              rw [if_pos HQm.out, an_take l k hkl, HT.out, HX.out, HQ.out]
            rw [hm1] at hot
            have hmk : mm = k + 1 := by rw [HM.out, hm1, List.length_take, anL_length]; omega
            subst hmk
            rw [← HO.out] at hon
            have Hot := Lib.hid hot
            have Hon := Lib.hid hon
            have Hap := Lib.hid hap
            have HLo2 : Hid (j = (ord l (k + 1)).length) := by show _ = _; rw [HO.out]; exact HLo.out
            clear hot hon hap hm1 HM
            go_wp2_with fail
            go_roundw
            case rel => exact ⟨k + 1, j, by omega, by go_num, HLo2, Hon.out, Hot.out, Hap.out, hbel⟩
            case measure => simp [intOf]; omega
    · obtain rfl : k = n := by omega
      have hpe : (anL l).take k = anL l := by
        have h2 : k = (anL l).length := by rw [anL_length]; exact Hn.out
        rw [h2]; exact List.take_length
      rw [hpe] at hot
      have Hot := Lib.hid hot
      clear hot hpe hor hap
      go_wp2_with fail
      go_ret
      exact ⟨_, rfl, Hot.out, hbel⟩

end Go.Proofs.Ytoaobdeigangfaa
