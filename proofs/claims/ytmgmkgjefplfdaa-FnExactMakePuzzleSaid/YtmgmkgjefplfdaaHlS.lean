/- All hidden lists that fit, by the model. -/
import Derived.Test.YtmgmkgjefplfdaaPsh
import Derived.Test.YtmgmkgjefplfdaaClu
namespace Go.Proofs.Ytmgmkgjefplfdaa
open Go.ChangeShapes Go.WideShapes Go.ChangeAt Go.RowKit
set_option linter.unusedVariables false


/-- What the frame of a search says: of what was there only the variable and its list turn. -/
def Frm (o : Nat) (v : Value) (w : World) (v' : Value) (w' : World) : Prop :=
  w'.os = w.os ∧ w'.tape = w.tape ∧ w'.output = w.output ∧ w.heap.size ≤ w'.heap.size ∧ (∀ b, b < w.heap.size → b ≠ o → v.ownBlock ≠ some b → w'.heap[b]? = w.heap[b]?) ∧ (∀ b, v'.ownBlock = some b → v.ownBlock = some b ∨ w.heap.size ≤ b)
theorem Frm.refl (o : Nat) (v : Value) (w : World) : Frm o v w v w := ⟨rfl, rfl, rfl, Nat.le_refl _, fun _ _ _ _ => rfl, fun _ h => .inl h⟩
theorem Frm.trans {o : Nat} {v1 v2 v3 : Value} {w1 w2 w3 : World} (h : Frm o v1 w1 v2 w2) (k : Frm o v2 w2 v3 w3) : Frm o v1 w1 v3 w3 := by
  obtain ⟨a1, a2, a3, a4, a5, a6⟩ := h
  obtain ⟨b1, b2, b3, b4, b5, b6⟩ := k
  refine ⟨b1.trans a1, b2.trans a2, b3.trans a3, Nat.le_trans a4 b4, fun b hb ho hv => ?_, fun b hb => ?_⟩
  · rw [b5 b (by omega) ho (fun e => by
      rcases a6 b e with h | h
      · exact hv h
      · omega)]
    exact a5 b hb ho hv
  · rcases b6 b hb with h | h
    · exact a6 b h
    · exact .inr (by omega)
theorem Frm.later {o : Nat} {v1 v2 : Value} {w1 w2 w3 : World} (h : Frm o v1 w1 v2 w2) (hb : Below w2.heap.size w2 w3) : Frm o v1 w1 v2 w3 :=
  h.trans ⟨hb.os, hb.tape, hb.output, hb.size, fun b hlt _ _ => hb.block b hlt, fun _ h => .inl h⟩
theorem Frm.below {o B : Nat} {v v' : Value} {w w' : World} (h : Frm o v w v' w') (hB : B ≤ o) (hw : B ≤ w.heap.size) (hv : ∀ b, v.ownBlock = some b → B ≤ b) : Below B w w' :=
  ⟨h.1, h.2.1, h.2.2.1, h.2.2.2.1, fun b hb => h.2.2.2.2.1 b (by omega) (by omega) (fun e => by have := hv b e; omega)⟩
theorem Frm.row {o base : Nat} {v v' : Value} {w w' : World} (h : Frm o v w v' w') {e : TypeId} {size n : Nat} {x : Value} {xs : List Value} (hx : w.ownsRow base e size x n xs) (ho : o < base) (hne : ∀ b, x.ownBlock = some b → v.ownBlock ≠ some b) : w'.ownsRow base e size x n xs :=
  own_same hx (fun k hk => h.2.2.2.2.1 k (hx.lt k hk).2 (by have := (hx.lt k hk).1; omega) (hne k hk))
theorem Frm.grown {o : Nat} {v v' : Value} {w w' : World} (hg : w.grownBy w' v.ownBlock) (hat : v'.ownBlock = v.ownBlock ∨ v'.ownBlock = some w.heap.size) : Frm o v w v' w' := by
  refine ⟨hg.os, hg.tape, hg.output, hg.size, fun b hb _ hv => hg.block b hb (fun e => hv e.symm), fun b hb => ?_⟩
  rcases hat with h | h
  · exact .inl (by rw [← h]; exact hb)
  · rw [h] at hb
    exact .inr (by simp at hb; omega)
theorem Frm.store (o : Nat) (v u : Value) (w : World) : Frm o v w v (w.setCell ⟨o, 0, none⟩ u) :=
  ⟨rfl, rfl, rfl, by simp [World.setCell], fun b _ ho _ => Below.heap_setCell _ _ _ _ ho, fun _ h => .inl h⟩
theorem set_row {w : World} {o : Nat} {v u : Value} {t : TypeId} (h : w.heap[o]? = some (.cells #[v] t (0, 0))) : (w.setCell ⟨o, 0, none⟩ u).heap[o]? = some (.cells #[u] t (0, 0)) := by
  simp [World.setCell, Array.getElem?_modify, h]
/-- What is known of a test of lists of N calls by the model. -/
def FitOk (w0 : World) (F N : Nat) (cl : List Clu) (p1 : Clu → List (Int × Int) → Bool) : Prop :=
  ∀ (q : Nat) (w : World) (ao : Option Addr) (cap : Nat) (l : List (Int × Int)), q < cl.length → Below w0.heap.size w0 w → callsIn F l → l.length = N → N ≤ cap → CallsAt w ao l →
    Calls Try.prog 76 #[.int .i64 (F : Int), .agg #[.int .i64 (k0 cl q), .int .i64 (k1 cl q), .int .i64 (k2 cl q), .int .i64 (k3 cl q)], .slice ao N cap] w fun e w' => e = .returned (.bool (p1 (k0 cl q, k1 cl q, k2 cl q, k3 cl q) l)) ∧ Below w.heap.size w w'
/-- Whether a list fits all clues. -/
def fitsB (p1 : Clu → List (Int × Int) → Bool) (cl : List Clu) (l : List (Int × Int)) : Bool := cl.all fun c => p1 c l
theorem fits_no {p1 : Clu → List (Int × Int) → Bool} {cl : List Clu} {l : List (Int × Int)} (k : Nat) (h : k < cl.length) (hm : p1 (k0 cl k, k1 cl k, k2 cl k, k3 cl k) l = false) : fitsB p1 cl l = false := by
  unfold fitsB
  rw [List.all_eq_false]
  refine ⟨cl[k], List.getElem_mem h, ?_⟩
  rw [k_get cl k h, hm]; simp
theorem fits_yes {p1 : Clu → List (Int × Int) → Bool} {cl : List Clu} {l : List (Int × Int)} (h : ∀ k, k < cl.length → p1 (k0 cl k, k1 cl k, k2 cl k, k3 cl k) l = true) : fitsB p1 cl l = true := by
  unfold fitsB
  rw [List.all_eq_true]
  intro c hc
  obtain ⟨k, hk, e⟩ := List.getElem_of_mem hc
  rw [← e, k_get cl k hk]
  exact h k hk
/-- What the model's search adds to its list. -/
def LkOk (w0 : World) (o base F N : Nat) (ac : Option Addr) (cc NC : Nat) (cl : List Clu) (p1 : Clu → List (Int × Int) → Bool) (k : Nat) : Prop :=
  ∀ (w : World) (v : Value) (X : List Value) (L : List (List (Int × Int))) (bv : Value) (l : List (Int × Int)) (n : Nat), Hid (n = l.length) → n + k = N → Hid (callsIn F l) → L.length + 6 ^ k ≤ 1000 →
    Below w0.heap.size w0 w → w.heap[o]? = some (.cells #[v] 50 (0, 0)) → base ≤ w.heap.size → OwnCS w base v X L → w.ownsRow base 83 2 bv n (cs l) → (n = 0 → bv = .slice none 0 0) →
    Hid (∀ b, bv.ownBlock = some b → v.ownBlock ≠ some b ∧ ∀ (i : Nat) (y : Value), X[i]? = some y → y.ownBlock ≠ some b) →
    Calls Try.prog 103 #[.int .i64 (F : Int), .int .i64 (k : Int), .slice ac NC cc, bv, .pointer (some ⟨o, 0, none⟩)] w fun e w' => e = .returned (.tuple #[]) ∧ ∃ v' X', w'.heap[o]? = some (.cells #[v'] 50 (0, 0)) ∧ OwnCS w' base v' X' (L ++ lk (fitsB p1 cl) (chs F) k l) ∧ Frm o v w v' w'

set_option maxHeartbeats 1600000 in
set_option maxRecDepth 20000 in
theorem look_zero (w0 : World) (o base F N : Nat) (ac : Option Addr) (cc NC : Nat) (cl : List Clu) (p1 : Clu → List (Int × Int) → Bool) (HNC : Hid (NC = cl.length)) (hNC : NC ≤ 1048576) (HC : Hid (CluesAt w0 ac cl)) (hN : N ≤ 3) (h0 : w0.heap.size ≤ o) (hob : o < base) (HF : Hid (FitOk w0 F N cl p1)) :
    LkOk w0 o base F N ac cc NC cl p1 0 := by
  intro w v X L bv l n Hn hnk Hin hL hb0 hrow hbase hO hbv hn0 Hdis
  obtain rfl : n = N := by omega
  obtain ⟨j0, hj, hy0, hy1, hy2⟩ := info_parts info46
  obtain ⟨ao, cap, rfl, hca, hca0, hcab⟩ := own_shape hbv Hn.out
  have hcap := own_cap2 hbv
  obtain ⟨LN, hLN⟩ : ∃ LN, L.length = LN := ⟨_, rfl⟩
  have hLn : LN ≤ 1000 := by rw [← hLN]; omega
  have HLN := Lib.hid hLN
  have HR := Lib.hid hrow
  have HO := Lib.hid hO
  have HBV := Lib.hid hbv
  have Hca := Lib.hid hca
  have Hb0 := Lib.hid hb0
  clear hrow hO hbv hca hb0 hLN hn0 hca0 hcab
  go_enter Try.func103, Try.ntmps103
  go_wp2_with fail
  go_loopw [19] (fun i wr => ∃ q : Nat, q ≤ NC ∧ i = .int .i64 q ∧ Hid (∀ k, k < q → p1 (k0 cl k, k1 cl k, k2 cl k, k3 cl k) l = true) ∧ Below w.heap.size w wr) (fun i _ => NC - (intOf i).toNat)
  case atStart => exact ⟨0, Nat.zero_le _, rfl, fun k hk => by omega, Below.refl _ _⟩
  case round =>
    obtain ⟨q, hq, rfl, Hall, hbel⟩ := hrel
    by_cases hlt : q < NC
    · obtain ⟨b, off, rfl, hs⟩ : ∃ b off, ac = some ⟨b, off, none⟩ ∧ ∀ i, i < NC → Sat4 w0 b off cl i := by
        rcases HC.out with h | ⟨b, off, h, hs⟩
        · subst h; have := HNC.out; simp at this; omega
        · exact ⟨b, off, h, fun i hi => hs i (by rw [← HNC.out]; exact hi)⟩
      have hsz := hbel.size
      have hb0w : Below w0.heap.size w0 wr := Hb0.out.trans (hbel.mono Hb0.out.size)
      obtain ⟨h0, h1, h2, h7⟩ := (hs q hlt).kept hb0w
      obtain ⟨wr2, hwr⟩ : ∃ x, x = wr := ⟨_, rfl⟩
      subst hwr
      have bd : Below wr2.heap.size wr2 (wr2.alloc (.cells #[.int .i64 (k0 cl q), .int .i64 (k1 cl q), .int .i64 (k2 cl q), .int .i64 (k3 cl q)] 25)) := (Below.refl _ _).alloc (Nat.le_refl _) _
      have hFq := HF.out q _ ao cap l (by rw [← HNC.out]; exact hlt) (hb0w.trans (bd.mono hb0w.size)) Hin.out (by rw [← Hn.out]) hcap ((Hca.out.kept hbel).kept bd)
      have HFq := Lib.hid hFq
      clear hFq
      go_wp2_with fail
      refine HFq.out.mono ?_
      rintro e w3 ⟨rfl, hb3⟩
      have HB := Lib.hid (hbel.trans ((bd.trans (hb3.mono bd.size)).mono hsz))
      clear hb3 bd h0 h1 h2 h7 hs HFq hb0w
      cases hm : p1 (k0 cl q, k1 cl q, k2 cl q, k3 cl q) l
      · have Hno := Lib.hid (fits_no q (by rw [← HNC.out]; exact hlt) hm)
        clear hm
        go_wp2_with fail
        refine bodyPost_ret (results_none rfl _ _ _) rfl ⟨rfl, v, X, ?_, ?_, ?_⟩
        · exact (HB.out.block o (Array.getElem?_eq_some_iff.1 HR.out).1).trans HR.out
        · rw [lk, Hno.out]; simpa using HO.out.later HB.out
        · exact (Frm.refl _ _ _).later HB.out
      · have Hall2 : Hid (∀ k, k < q + 1 → p1 (k0 cl k, k1 cl k, k2 cl k, k3 cl k) l = true) := fun k hk => by
          rcases Nat.lt_or_ge k q with h | h
          · exact Hall.out k h
          · have e : k = q := by omega
            rw [e]; exact hm
        clear hm
        go_wp2_with fail
        refine ⟨⟨_, _, _, _, _, _, _, _, _, _, _, ⟨q + 1, by omega, ?_, Hall2, HB.out⟩, rfl⟩, ?_⟩
        · go_num
        · simp [intOf]; omega
    · obtain rfl : q = NC := by omega
      have Hyes := Lib.hid (fits_yes (p1 := p1) (cl := cl) (l := l) (by rw [← HNC.out]; exact Hall.out))
      have hrw := (hbel.block o (Array.getElem?_eq_some_iff.1 HR.out).1).trans HR.out
      have hcell : wr.cell? ⟨o, 0, none⟩ = some v := cell_of_row _ _ _ _ _ _ hrw
      have hfz : wr.frozen? ⟨o, 0, none⟩ = false := frozen_of_row _ _ _ _ _ hrw
      have hlt0 := (Array.getElem?_eq_some_iff.1 hrw).1
      have hO1 := HO.out.later hbel
      obtain ⟨av, capv, hv, _⟩ := hO1.reads
      rw [HLN.out] at hv
      subst hv
      have hov : (Value.slice av LN capv).ownBlock ≠ some o := fun e => by have := (hO1.1.lt o e).1; omega
      obtain ⟨W, hW⟩ : ∃ W, wr.alloc (.cells #[.slice ao n cap] 46) = W := ⟨_, rfl⟩
      have bW : Below wr.heap.size wr W := by rw [← hW]; exact (Below.refl _ _).alloc (Nat.le_refl _) _
      have hOW := hO1.later bW
      have hrW := (bW.block o hlt0).trans hrw
      have hbvW := own_later (own_later HBV.out hbel) bW
      have hcW : W.cell? ⟨wr.heap.size, 0, none⟩ = some (.slice ao n cap) := by rw [← hW, cell_of_row _ _ _ _ _ _ (heap_alloc_new wr _)]; rfl
      have hszW : base ≤ W.heap.size := by have := bW.size; have := hbel.size; omega
      have HF1 := Lib.hid (((Frm.refl o (Value.slice av LN capv) w).later hbel).later bW)
      have HbvW : Hid (W.ownsRow base 83 2 (.slice ao n cap) l.length (cs l)) := by show World.ownsRow _ _ _ _ _ _ _; rw [← Hn.out]; exact hbvW
      have HDis1 : Hid (∀ b, (Value.slice ao n cap).ownBlock = some b → (Value.slice av LN capv).ownBlock ≠ some b) := fun b hb => (Hdis.out b hb).1
      have HDis2 : Hid (∀ (i : Nat) (y : Value) (b : Nat), X[i]? = some y → y.ownBlock = some b → (Value.slice ao n cap).ownBlock ≠ some b) := fun i y b hy hb e => (Hdis.out b e).2 i y hy hb
      have HOW := Lib.hid hOW
      have HrW := Lib.hid hrW
      have HW := Lib.hid hW
      clear hW bW hO1 hOW hrW hbvW hbel hrw
      go_wp2_with (at_builtin; rw [HW.out]; refine push_row _ rfl _ _ 50 rfl base j0 Try.underlying50 hj hy0 hy1 hy2 _ X L LN HLN.out rfl HOW.out (by omega) (.slice ao n cap) l HbvW.out HDis1.out HDis2.out 1 wr.heap.size rfl hcW rfl hszW ?_)
      intro v6 w6 own6 hgr6 hat6
      have hr6 : w6.heap[o]? = some (.cells #[.slice av LN capv] 50 (0, 0)) := (hgr6.block o (Array.getElem?_eq_some_iff.1 HrW.out).1 (fun e => hov e.symm)).trans HrW.out
      have hcell6 : w6.cell? ⟨o, 0, none⟩ = some (.slice av LN capv) := cell_of_row _ _ _ _ _ _ hr6
      have hfz6 : w6.frozen? ⟨o, 0, none⟩ = false := frozen_of_row _ _ _ _ _ hr6
      have HF6 := Lib.hid ((HF1.out.trans (Frm.grown hgr6 hat6)).trans (Frm.store o v6 v6 w6))
      have HO6 : Hid (OwnCS (w6.setCell ⟨o, 0, none⟩ v6) base v6 (X ++ [.slice ao n cap]) (L ++ [l])) := own6.kept (grown_one w6 o 0 v6) (fun b e => by cases e; exact hob)
      have HR6 := Lib.hid (set_row (u := v6) hr6)
      obtain ⟨a6, c6, hv6, _⟩ := own6.reads
      obtain ⟨M6, hM6⟩ : ∃ M, (L ++ [l]).length = M := ⟨_, rfl⟩
      rw [hM6] at hv6
      subst hv6
      clear own6 hgr6 hat6 hr6 hov hM6
      go_wp2_with fail
      refine bodyPost_ret (results_none rfl _ _ _) rfl ⟨rfl, _, X ++ [.slice ao n cap], HR6.out, ?_, HF6.out⟩
      have e : lk (fitsB p1 cl) (chs F) 0 l = [l] := by rw [lk, Hyes.out]; rfl
      rw [e]
      exact HO6.out

end Go.Proofs.Ytmgmkgjefplfdaa
