/- The model's search: one call more. -/
import Derived.Test.YtmgmkgjefplfdaaHlS
import Derived.Test.YtmgmkgjefplfdaaHlI
namespace Go.Proofs.Ytmgmkgjefplfdaa
open Go.ChangeShapes Go.WideShapes Go.ChangeAt Go.RowKit
set_option linter.unusedVariables false


theorem pre_len : ∀ F : Fin 5, ∀ a : Fin 4, ∀ m : Fin 4, a.val < m.val → m.val < F.val → (wholeP (pr 3 0 F.val) F.val a.val ++ rowP (pr 3 0 F.val) a.val m.val).length + 1 ≤ 6 := by decide +kernel
/-- What all lists that begin so and go on by some calls are. -/
def fl1 (p : List (Int × Int) → Bool) (C : List (Int × Int)) (k : Nat) (l : List (Int × Int)) (D : List (Int × Int)) : List (List (Int × Int)) := D.flatMap fun c => lk p C k (l ++ [c])
theorem fl1_one (p : List (Int × Int) → Bool) (C : List (Int × Int)) (k : Nat) (l D : List (Int × Int)) (c : Int × Int) : fl1 p C k l (D ++ [c]) = fl1 p C k l D ++ lk p C k (l ++ [c]) := by simp [fl1]
theorem fl1_len (p : List (Int × Int) → Bool) {C : List (Int × Int)} (hC : C.length ≤ 6) (k : Nat) (l D : List (Int × Int)) : (fl1 p C k l D).length ≤ D.length * 6 ^ k := flat_len _ _ (fun c _ => lk_len p hC k (l ++ [c]))
set_option maxHeartbeats 3200000 in
set_option maxRecDepth 20000 in
theorem look_succ (w0 : World) (o base F N : Nat) (ac : Option Addr) (cc NC : Nat) (cl : List Clu) (p1 : Clu → List (Int × Int) → Bool) (hF : 2 ≤ F ∧ F ≤ 4) (hN : N ≤ 3) (h0 : w0.heap.size ≤ o) (hob : o < base) (k : Nat) (IH : LkOk w0 o base F N ac cc NC cl p1 k) :
    LkOk w0 o base F N ac cc NC cl p1 (k + 1) := by
  intro w v X L bv l n Hn hnk Hin hL hb0 hrow hbase hO hbv hn0 Hdis
  have HIH := Lib.hid IH
  obtain ⟨i0, hi, hz0, hz1, hz2⟩ := info_parts infoC
  obtain ⟨ao, cap, hbve, hca, hca0, hcab⟩ := own_shape hbv Hn.out
  have hC := (chs_len ⟨F, by omega⟩).1
  simp only at hC
  obtain ⟨P, hP⟩ : ∃ P, fitsB p1 cl = P := ⟨_, rfl⟩
  have Hfl := fun a m => fl1_len P hC k l (wholeP (pr 3 0 F) F a ++ rowP (pr 3 0 F) a m)
  have HflL := Lib.hid Hfl
  have HBV := Lib.hid hbv
  have Hb0 := Lib.hid hb0
  have HBE := Lib.hid hbve
  have Hn0 := Lib.hid hn0
  have hk3 : k ≤ 2 := by omega
  obtain ⟨K1, hK1⟩ : ∃ K1 : Int, ((k + 1 : Nat) : Int) = K1 := ⟨_, rfl⟩
  have hte : (K1 == 0) = false := by simp; omega
  have hsub : IntKind.i64.wrap (K1 - 1) = (k : Int) := by rw [show K1 - 1 = (k : Int) by omega]; exact IntWalk.i64_in _ (by omega)
  rw [hK1]
  have HK1 := Lib.hid hK1
  clear hK1
  have HS0 : Hid (w.heap[o]? = some (.cells #[v] 50 (0, 0)) ∧ OwnCS w base v X (L ++ fl1 P (chs F) k l (wholeP (pr 3 0 F) F 0)) ∧ Frm o v w v w) := ⟨hrow, by simpa [fl1, wholeP] using hO, Frm.refl _ _ _⟩
  have hEnd : Hid (fl1 P (chs F) k l (wholeP (pr 3 0 F) F F) = lk P (chs F) (k + 1) l) := rfl
  rw [hbve]
  clear IH hbv hb0 hrow hO Hfl hca hca0 hcab hn0 hbve
  go_enter Try.func103, Try.ntmps103
  go_wp2_with fail
  go_loopw [12] (fun i wr => ∃ (a : Nat) (v1 : Value) (X1 : List Value), a ≤ F ∧ i = .int .i64 a ∧ Hid (wr.heap[o]? = some (.cells #[v1] 50 (0, 0)) ∧ OwnCS wr base v1 X1 (L ++ fl1 P (chs F) k l (wholeP (pr 3 0 F) F a)) ∧ Frm o v w v1 wr)) (fun i _ => F - (intOf i).toNat)
  case atStart => exact ⟨0, v, X, Nat.zero_le _, rfl, HS0⟩
  case round =>
    obtain ⟨a, v1, X1, ha, rfl, HS⟩ := hrel
    by_cases hlt : a < F
    · have hw1 : IntKind.i64.wrap ((a : Int) + 1) = ((a + 1 : Nat) : Int) := by rw [show ((a : Int) + 1) = ((a + 1 : Nat) : Int) by omega]; exact IntWalk.i64_in _ (by omega)
      go_wp2_with fail
      go_loopw [13] (fun i wr => ∃ (m : Nat) (v1 : Value) (X1 : List Value), a + 1 ≤ m ∧ m ≤ F ∧ i = .int .i64 m ∧ Hid (wr.heap[o]? = some (.cells #[v1] 50 (0, 0)) ∧ OwnCS wr base v1 X1 (L ++ fl1 P (chs F) k l (wholeP (pr 3 0 F) F a ++ rowP (pr 3 0 F) a m)) ∧ Frm o v w v1 wr)) (fun i _ => F - (intOf i).toNat)
      case atStart => exact ⟨a + 1, v1, X1, Nat.le_refl _, hlt, rfl, by rw [rowP_low _ _ _ (Nat.le_refl _), List.append_nil]; exact HS⟩
      case round =>
        clear HS
        obtain ⟨m, v2, X2, hm1, hm, rfl, HS⟩ := hrel
        by_cases hlm : m < F
        · have hpl := pre_len ⟨F, by omega⟩ ⟨a, by omega⟩ ⟨m, by omega⟩ (by show a < m; omega) hlm
          simp only at hpl
          have Hs : Hid (rowP (pr 3 0 F) a (m + 1) = rowP (pr 3 0 F) a m ++ [((a : Int), (m : Int))]) := Lib.hid (rowP_yes (by omega) (by simp [pr]))
          have hbnd : (L ++ fl1 P (chs F) k l (wholeP (pr 3 0 F) F a ++ rowP (pr 3 0 F) a m)).length + 6 ^ k ≤ 1000 := by
            have h1 := HflL.out a m
            have h2 : ((wholeP (pr 3 0 F) F a ++ rowP (pr 3 0 F) a m).length + 1) * 6 ^ k ≤ 6 * 6 ^ k := Nat.mul_le_mul_right _ hpl
            rw [Nat.add_mul] at h2
            rw [Nat.pow_succ] at hL
            rw [List.length_append]; omega
          have Hbnd := Lib.hid hbnd
          clear hbnd hpl
          have hszw : base ≤ wr.heap.size := Nat.le_trans hbase HS.out.2.2.2.2.2.1
          have hbbw : Below w0.heap.size w0 wr := Hb0.out.trans (HS.out.2.2.below h0 Hb0.out.size (fun b hb => (by
            have h9 : OwnCS w base v X (L ++ fl1 P (chs F) k l (wholeP (pr 3 0 F) F 0)) := HS0.out.2.1
            have := (h9.1.lt b hb).1; omega)))
          have hrowR := HS.out.2.2.row HBV.out hob (fun b hb => (Hdis.out b hb).1)
          rw [HBE.out] at hrowR
          by_cases hn0 : n = 0
          · have hv0 := Hn0.out hn0
            rw [HBE.out] at hv0
            simp only [Value.slice.injEq] at hv0
            obtain ⟨rfl, _, rfl⟩ := hv0
            subst hn0
            have bA : Below wr.heap.size wr (wr.alloc (.cells #[] 83)) := (Below.refl _ _).alloc (Nat.le_refl _) _
            have sA : (wr.alloc (.cells #[] 83)).heap.size = wr.heap.size + 1 := by simp
            have hown0 : (wr.alloc (.cells #[] 83)).ownsRow wr.heap.size 83 2 (.slice (some ⟨wr.heap.size, 0, none⟩) 0 0) 0 [] := World.ownsRow_lit wr #[] 0 (Nat.le_refl _) (by unfold maxLen; omega) rfl
            have Hown0 := Lib.hid hown0
            
            obtain rfl : l = [] := List.eq_nil_of_length_eq_zero Hn.out.symm
            have hs7 := bA.size
            have Own7 : Hid ((wr.alloc (.cells #[] 83)).ownsRow wr.heap.size 83 2 (.slice (some ⟨wr.heap.size, 0, none⟩) 0 0) 0 (cs [])) := Hown0
            have Hb7 := Lib.hid bA
            clear hown0 bA Hown0
            
            have bB : Below (wr.alloc (.cells #[] 83)).heap.size (wr.alloc (.cells #[] 83)) ((wr.alloc (.cells #[] 83)).alloc (.cells #[.int .i64 (a : Int), .int .i64 (m : Int)] 83)) := (Below.refl _ _).alloc (Nat.le_refl _) _
            have sB : ((wr.alloc (.cells #[] 83)).alloc (.cells #[.int .i64 (a : Int), .int .i64 (m : Int)] 83)).heap.size = (wr.alloc (.cells #[] 83)).heap.size + 1 := by simp
            have HownB := Lib.hid (own_later Own7.out bB)
            have hbB := Hb7.out.trans (bB.mono hs7)
            have HbB := Lib.hid hbB
            clear hbB bB
            have HD0 : Hid (∀ j u, ([.int .i64 (a : Int), .int .i64 (m : Int)] : List Value)[j]? = some u → ((wr.alloc (.cells #[] 83)).alloc (.cells #[.int .i64 (a : Int), .int .i64 (m : Int)] 83)).cell? ((⟨(wr.alloc (.cells #[] 83)).heap.size, 0, none⟩ : Addr).add j) = some u) := World.news_of_block (cs := #[.int .i64 (a : Int), .int .i64 (m : Int)]) (t := 83) (fr := (0, 0)) (heap_alloc_new _ _)
            have HD1 : Hid (∀ u ∈ ([.int .i64 (a : Int), .int .i64 (m : Int)] : List Value), u.oneCell' = true) := fun u hu => by simp at hu; rcases hu with rfl | rfl <;> rfl
            have HD3 : Hid (0 + 1 ≤ maxLen) := by show _ ≤ _; unfold maxLen; omega
            have HD4 : Hid ((0 + 1) * 16 ≤ 140737488355328) := by show _ ≤ _; omega
            have HD5 : Hid (wr.heap.size ≤ ((wr.alloc (.cells #[] 83)).alloc (.cells #[.int .i64 (a : Int), .int .i64 (m : Int)] 83)).heap.size) := by show _ ≤ _; rw [sB]; omega
            have HsB := Lib.hid sB
            have HD0z := HD0
            rw [sA] at HD0z
            go_wp2_with (at_builtin; refine wpList_append_lies _ rfl _ _ 46 rfl wr.heap.size 83 i0 (.agg #[.int .i64 0, .int .i64 0]) 2 16 Try.underlying46 hi hz0 hz1 hz2 rfl (by decide) _ _ _ rfl HownB.out ⟨wr.heap.size + 1, 0, none⟩ 1 1 [.int .i64 (a : Int), .int .i64 (m : Int)] rfl rfl HD0z.out HD1.out Nat.one_pos HD3.out HD4.out HD5.out ((wr.alloc (.cells #[] 83)).heap.size + 1) HsB.out ?_)
            intro g9 c9 w9 own9 hgr9 hat9 _
            have hb9 := HbB.out.grown hgr9 (by rw [sB]; omega) (fun b hb => (HownB.out.lt b hb).1)
            have e1 : cs ([] ++ [((a : Int), (m : Int))]) = cs [] ++ [.int .i64 (a : Int), .int .i64 (m : Int)] := cs_append_one [] _
            rw [← e1] at own9
            have Hn9 : Hid (0 + 1 = ([] ++ [((a : Int), (m : Int))]).length) := by show _ = _; rw [List.length_append, ← Hn.out]; rfl
            have Hin9 : Hid (callsIn F ([] ++ [((a : Int), (m : Int))])) := fun x hx => by
              rcases List.mem_append.1 hx with h | h
              · exact Hin.out x h
              · simp at h; subst h; exact ⟨by simp, by simp; omega, by simp; omega⟩
            have hrow9 := (hb9.block o (Array.getElem?_eq_some_iff.1 HS.out.1).1).trans HS.out.1
            have hO9 := HS.out.2.1.later hb9
            have hge9 := (own9.lt g9 rfl).1
            have Hdis9 : Hid (∀ b, (Value.slice (some ⟨g9, 0, none⟩) 1 c9).ownBlock = some b → v2.ownBlock ≠ some b ∧ ∀ (i : Nat) (y : Value), X2[i]? = some y → y.ownBlock ≠ some b) := fun b hb => by
              have e3 : g9 = b := by simpa [Value.ownBlock] using hb
              refine ⟨fun e => ?_, fun i y hy e => ?_⟩
              · have := (HS.out.2.1.1.lt b e).2; omega
              · have hi := (List.getElem?_eq_some_iff.1 hy).1
                have := ((HS.out.2.1.2.2.1 i y _ hy (List.getElem?_eq_getElem (by rw [← HS.out.2.1.2.1]; exact hi))).1.lt b e).2
                omega
            have HR := Lib.hid (HIH.out w9 v2 X2 _ (.slice (some ⟨g9, 0, none⟩) 1 c9) ([] ++ [((a : Int), (m : Int))]) 1 Hn9 (by omega) Hin9 Hbnd.out (hbbw.trans (hb9.mono hbbw.size)) hrow9 (Nat.le_trans hszw hb9.size) hO9 (own_base hszw own9) (fun h => by omega) Hdis9)
            have HF9 := Lib.hid (HS.out.2.2.later hb9)
            clear own9 hgr9 hat9 hb9 hrow9 hO9 hrowR e1 HownB HbB Own7 Hb7
            go_wp2_with fail
            refine HR.out.mono ?_
            rintro e w5 ⟨rfl, v5, X5, hr5, hO5, hF5⟩
            have HS5 : Hid (w5.heap[o]? = some (.cells #[v5] 50 (0, 0)) ∧ OwnCS w5 base v5 X5 (L ++ fl1 P (chs F) k [] (wholeP (pr 3 0 F) F a ++ rowP (pr 3 0 F) a (m + 1))) ∧ Frm o v w v5 w5) := ⟨hr5, by rw [Hs.out, ← List.append_assoc (wholeP (pr 3 0 F) F a), fl1_one, ← List.append_assoc]; rw [hP] at hO5; exact hO5, HF9.out.trans hF5⟩
            clear hr5 hO5 hF5 HR
            go_wp2_with fail
            go_roundw
            case rel => exact ⟨m + 1, v5, X5, by omega, by omega, by go_num, HS5⟩
            case measure => simp [intOf]; omega
          · obtain ⟨gb, cb', hgb, _⟩ := own_pos hrowR (by omega)
            simp only [Value.slice.injEq] at hgb
            obtain ⟨rfl, _, rfl⟩ := hgb
            have bA : Below wr.heap.size wr (wr.alloc (.cells #[] 83)) := (Below.refl _ _).alloc (Nat.le_refl _) _
            have sA : (wr.alloc (.cells #[] 83)).heap.size = wr.heap.size + 1 := by simp
            have hown0 : (wr.alloc (.cells #[] 83)).ownsRow wr.heap.size 83 2 (.slice (some ⟨wr.heap.size, 0, none⟩) 0 0) 0 [] := World.ownsRow_lit wr #[] 0 (Nat.le_refl _) (by unfold maxLen; omega) rfl
            have Hown0 := Lib.hid hown0
            
            have Hbw : Hid (∀ j u, (cs l)[j]? = some u → (wr.alloc (.cells #[] 83)).cell? ((⟨gb, 0, none⟩ : Addr).add j) = some u) := fun j u hu => by
              obtain ⟨ax, cx, hvx, _, _, holds, _⟩ := own_forms hrowR
              obtain ⟨rfl, _, rfl⟩ : some ⟨gb, 0, none⟩ = ax ∧ n = n ∧ cap = cx := by simpa using hvx
              exact cell_old bA (holds _ rfl j u hu)
            clear hown0
            go_wp2_with (at_builtin; refine wpList_append_own _ rfl _ _ 46 rfl wr.heap.size 83 i0 (.agg #[.int .i64 0, .int .i64 0]) 2 16 Try.underlying46 hi hz0 hz1 hz2 rfl (by decide) _ _ _ rfl Hown0.out ⟨gb, 0, none⟩ n cap (cs l) rfl ?c0 ?c1 ?c2 ?c3 ?c4 ?c5 ?_)
            case c0 => rw [cs_length, ← Hn.out]
            case c1 => exact Hbw.out
            case c2 => exact cs_one _
            case c3 => unfold maxLen; omega
            case c4 => omega
            case c5 => simp
            intro v7 w7 own7 hgr7 _
            obtain ⟨g7, c7, rfl, _⟩ := own_pos own7 (by omega)
            have hb7 := bA.grown hgr7 (by omega) (fun b hb => (Hown0.out.lt b hb).1)
            have hs7 := hb7.size
            have Own7 := Lib.hid own7
            have Hb7 := Lib.hid hb7
            clear own7 hgr7 hb7
            have bB : Below w7.heap.size w7 (w7.alloc (.cells #[.int .i64 (a : Int), .int .i64 (m : Int)] 83)) := (Below.refl _ _).alloc (Nat.le_refl _) _
            have sB : (w7.alloc (.cells #[.int .i64 (a : Int), .int .i64 (m : Int)] 83)).heap.size = w7.heap.size + 1 := by simp
            have HownB := Lib.hid (own_later Own7.out bB)
            have hbB := Hb7.out.trans (bB.mono hs7)
            have HbB := Lib.hid hbB
            clear hbB bB
            have HD0 : Hid (∀ j u, ([.int .i64 (a : Int), .int .i64 (m : Int)] : List Value)[j]? = some u → (w7.alloc (.cells #[.int .i64 (a : Int), .int .i64 (m : Int)] 83)).cell? ((⟨w7.heap.size, 0, none⟩ : Addr).add j) = some u) := World.news_of_block (cs := #[.int .i64 (a : Int), .int .i64 (m : Int)]) (t := 83) (fr := (0, 0)) (heap_alloc_new _ _)
            have HD1 : Hid (∀ u ∈ ([.int .i64 (a : Int), .int .i64 (m : Int)] : List Value), u.oneCell' = true) := fun u hu => by simp at hu; rcases hu with rfl | rfl <;> rfl
            have HD3 : Hid (n + 1 ≤ maxLen) := by show _ ≤ _; unfold maxLen; omega
            have HD4 : Hid ((n + 1) * 16 ≤ 140737488355328) := by show _ ≤ _; omega
            have HD5 : Hid (wr.heap.size ≤ (w7.alloc (.cells #[.int .i64 (a : Int), .int .i64 (m : Int)] 83)).heap.size) := by show _ ≤ _; rw [sB]; omega
            have HsB := Lib.hid sB
            go_wp2_with (at_builtin; refine wpList_append_lies _ rfl _ _ 46 rfl wr.heap.size 83 i0 (.agg #[.int .i64 0, .int .i64 0]) 2 16 Try.underlying46 hi hz0 hz1 hz2 rfl (by decide) _ _ _ rfl HownB.out ⟨w7.heap.size, 0, none⟩ 1 1 [.int .i64 (a : Int), .int .i64 (m : Int)] rfl rfl HD0.out HD1.out Nat.one_pos HD3.out HD4.out HD5.out (w7.heap.size + 1) HsB.out ?_)
            intro g9 c9 w9 own9 hgr9 hat9 _
            have hb9 := HbB.out.grown hgr9 (by rw [sB]; omega) (fun b hb => (HownB.out.lt b hb).1)
            have e1 : cs (l ++ [((a : Int), (m : Int))]) = cs l ++ [.int .i64 (a : Int), .int .i64 (m : Int)] := cs_append_one l _
            rw [← e1] at own9
            have Hn9 : Hid (n + 1 = (l ++ [((a : Int), (m : Int))]).length) := by show _ = _; rw [List.length_append, ← Hn.out]; rfl
            have Hin9 : Hid (callsIn F (l ++ [((a : Int), (m : Int))])) := fun x hx => by
              rcases List.mem_append.1 hx with h | h
              · exact Hin.out x h
              · simp at h; subst h; exact ⟨by simp, by simp; omega, by simp; omega⟩
            have hrow9 := (hb9.block o (Array.getElem?_eq_some_iff.1 HS.out.1).1).trans HS.out.1
            have hO9 := HS.out.2.1.later hb9
            have hge9 := (own9.lt g9 rfl).1
            have Hdis9 : Hid (∀ b, (Value.slice (some ⟨g9, 0, none⟩) (n + 1) c9).ownBlock = some b → v2.ownBlock ≠ some b ∧ ∀ (i : Nat) (y : Value), X2[i]? = some y → y.ownBlock ≠ some b) := fun b hb => by
              have e3 : g9 = b := by simpa [Value.ownBlock] using hb
              refine ⟨fun e => ?_, fun i y hy e => ?_⟩
              · have := (HS.out.2.1.1.lt b e).2; omega
              · have hi := (List.getElem?_eq_some_iff.1 hy).1
                have := ((HS.out.2.1.2.2.1 i y _ hy (List.getElem?_eq_getElem (by rw [← HS.out.2.1.2.1]; exact hi))).1.lt b e).2
                omega
            have HR := Lib.hid (HIH.out w9 v2 X2 _ (.slice (some ⟨g9, 0, none⟩) (n + 1) c9) (l ++ [((a : Int), (m : Int))]) (n + 1) Hn9 (by omega) Hin9 Hbnd.out (hbbw.trans (hb9.mono hbbw.size)) hrow9 (Nat.le_trans hszw hb9.size) hO9 (own_base hszw own9) (fun h => by omega) Hdis9)
            have HF9 := Lib.hid (HS.out.2.2.later hb9)
            clear own9 hgr9 hat9 hb9 hrow9 hO9 hrowR e1 HownB HbB Own7 Hb7
            go_wp2_with fail
            refine HR.out.mono ?_
            rintro e w5 ⟨rfl, v5, X5, hr5, hO5, hF5⟩
            have HS5 : Hid (w5.heap[o]? = some (.cells #[v5] 50 (0, 0)) ∧ OwnCS w5 base v5 X5 (L ++ fl1 P (chs F) k l (wholeP (pr 3 0 F) F a ++ rowP (pr 3 0 F) a (m + 1))) ∧ Frm o v w v5 w5) := ⟨hr5, by rw [Hs.out, ← List.append_assoc (wholeP (pr 3 0 F) F a), fl1_one, ← List.append_assoc]; rw [hP] at hO5; exact hO5, HF9.out.trans hF5⟩
            clear hr5 hO5 hF5 HR
            go_wp2_with fail
            go_roundw
            case rel => exact ⟨m + 1, v5, X5, by omega, by omega, by go_num, HS5⟩
            case measure => simp [intOf]; omega
        · obtain rfl : m = F := by omega
          go_wp2_with fail
          go_roundw
          case rel => exact ⟨a + 1, v2, X2, by omega, by go_num, HS⟩
          case measure => simp [intOf]; omega
    · obtain rfl : a = F := by omega
      rw [hEnd.out] at HS
      subst hP
      go_wp2_with fail
      exact bodyPost_end (results_none rfl _ _ _) rfl ⟨rfl, v1, X1, HS.out.1, HS.out.2.1, HS.out.2.2⟩

end Go.Proofs.Ytmgmkgjefplfdaa
