/- All hidden lists, by the program. -/
import Derived.Test.YtmgmkgjefplfdaaPsh
import Derived.Deep.RegionLawGrows
namespace Go.Proofs.Ytmgmkgjefplfdaa
open Go.ChangeShapes Go.WideShapes Go.ChangeAt Go.RowKit
set_option linter.unusedVariables false


/-- One list more, as a step of a region that draws. -/
theorem step_push_row {P : Program} (w : World) {ops : Array Oper} {o : Oper} {a : Act} {K : Act → World → Prop} {Q : Exit → Act → World → Prop} {E : Prop} (hgd : o.guard = none) (s x : Operand) (t : TypeId)
    (ho : o.op = .call { callee := .builtin .append, args := #[s, x], argTypes := #[t, t] })
    (base : Nat) (i : TypeInfo) (ht : P.underlying t = some (.slice 46)) (hi : P.info? 46 = some i) (hz : i.zero = some (.slice none 0 0))
    (hsize : i.size = 1) (hby : i.bytes = 24)
    (v : Value) (X : List Value) (L : List (List (Int × Int))) (k : Nat) (hk : L.length = k) (hs : a.eval s = v) (hown : OwnCS w base v X L) (hsml : k ≤ 1000000)
    (r : Value) (l : List (Int × Int)) (hr : w.ownsRow base 83 2 r l.length (cs l)) (hrv : ∀ b, r.ownBlock = some b → v.ownBlock ≠ some b) (hrX : ∀ (i : Nat) (y : Value) (b : Nat), X[i]? = some y → y.ownBlock = some b → r.ownBlock ≠ some b)
    (c : Nat) (ad : Nat) (hx : a.eval x = .slice (some ⟨ad, 0, none⟩) 1 c) (had : w.cell? ⟨ad, 0, none⟩ = some r) (h1 : r.oneCell' = true) (hbase : base ≤ w.heap.size)
    (h : ∀ v' w', OwnCS w' base v' (X ++ [r]) (L ++ [l]) → w.grownBy w' v.ownBlock → (v'.ownBlock = v.ownBlock ∨ v'.ownBlock = some w.heap.size) → K (a.put o.dst v') w') :
    if Region.wanted o (yielded ops a.tmps) = true then Oper.wp P o a w K Q else E := by
  refine step_append_lies w hgd s x t ho base 46 i (.slice none 0 0) 1 24 ht hi hz hsize hby rfl (by decide) v k X hs (by rw [← hk]; exact hown.1) ⟨ad, 0, none⟩ 1 c [r] hx rfl ?_ ?_ (by omega) (by unfold maxLen; omega) (by omega) hbase w.heap.size rfl ?_
  · intro j u hu
    cases j with
    | zero => simp at hu; subst hu; exact had
    | succ j => simp at hu
  · intro u hu
    simp at hu
    subst hu
    exact h1
  · intro g cap w' hown' hgr hat _
    have hat2 : (Value.slice (some ⟨g, 0, none⟩) (k + 1) cap).ownBlock = v.ownBlock ∨ (Value.slice (some ⟨g, 0, none⟩) (k + 1) cap).ownBlock = some w.heap.size := by
      rcases hat with e | e
      · exact .inl e.symm
      · exact .inr (by rw [e]; rfl)
    exact h _ w' (OwnCS.push (v' := .slice (some ⟨g, 0, none⟩) (k + 1) cap) (H := w.heap.size) hown hr hrv hrX hgr (by rw [hk]; exact hown') hat2 (Nat.le_refl _)) hgr hat2
theorem own_pos {w : World} {base : Nat} {e : TypeId} {size : Nat} {v : Value} {n : Nat} {xs : List Value} (h : w.ownsRow base e size v n xs) (hn : 0 < n) : ∃ g cap, v = .slice (some ⟨g, 0, none⟩) n cap ∧ base ≤ g := by
  rcases h.2 with ⟨_, h0⟩ | ⟨g, cap, cur, h', hb, _⟩
  · omega
  · exact ⟨g, cap, h', hb⟩
theorem own_forms {w : World} {base : Nat} {e : TypeId} {v : Value} {n : Nat} {l : List (Int × Int)} (h : w.ownsRow base e 2 v n (cs l)) : ∃ ao cap, v = .slice ao n cap ∧ (ao = none → n = 0 ∧ cap = 0) ∧ n ≤ cap ∧ (∀ b, ao = some b → ∀ j u, (cs l)[j]? = some u → w.cell? (b.add j) = some u) ∧ (∀ b, ao = some b → b.block < w.heap.size ∧ b.off = 0 ∧ b.spot = none) := by
  rcases h.2 with ⟨rfl, h0⟩ | ⟨g, cap, cur, rfl, _, hg, hc, _⟩
  · exact ⟨none, 0, by rw [h0], fun _ => ⟨h0, rfl⟩, by omega, fun b hb => (by cases hb), fun b hb => (by cases hb)⟩
  · refine ⟨_, _, rfl, fun h => (by cases h), hc, fun b hb j u hu => ?_, fun b hb => ?_⟩
    · cases hb
      have hj := (List.getElem?_eq_some_iff.1 hu).1
      have h1 := h.1
      have h2 := h.cellAt j (by omega)
      rw [hu] at h2
      rw [show (⟨g, 0, none⟩ : Addr).add j = ⟨g, j, none⟩ by unfold Addr.add; split <;> simp_all]
      exact h2
    · cases hb
      exact ⟨(Array.getElem?_eq_some_iff.1 hg).1, rfl, rfl⟩
set_option maxHeartbeats 3200000 in
set_option maxRecDepth 20000 in
theorem hiddenLists_any (F n : Nat) (w : World) (hF : 2 ≤ F ∧ F ≤ 4) (hn : n ≤ 3) :
    Calls Try.prog 74 #[.int .i64 (F : Int), .int .i64 (n : Int)] w fun e w' => ∃ v X, e = .returned v ∧ OwnCS w' w.heap.size v X (lv (chs F) n) ∧ Below w.heap.size w w' := by
  obtain ⟨i0, hi, hz0, hz1, hz2⟩ := info_parts infoC
  obtain ⟨j0, hj, hy0, hy1, hy2⟩ := info_parts info46
  have hC := chs_len ⟨F, by omega⟩
  simp only at hC
  have hlit := World.ownsRow_lit (base := w.heap.size) (e := 46) (size := 1) w #[.slice none 0 0] 1 (Nat.le_refl _) (by unfold maxLen; omega) rfl
  have H0 : Hid (OwnCS (w.alloc (.cells #[.slice none 0 0] 46)) w.heap.size (.slice (some ⟨w.heap.size, 0, none⟩) 1 1) [.slice none 0 0] (lv (chs F) 0)) := by
    refine ⟨hlit, rfl, fun i x l hx hl => ?_, fun i j x y b hij hx hy => ?_⟩
    · cases i with
      | zero =>
        simp at hx
        simp [lv] at hl
        subst hx; subst hl
        exact ⟨World.ownsRow_nil _ _ _ _, fun b h => by cases h⟩
      | succ i => simp at hx
    · have h1 := (List.getElem?_eq_some_iff.1 hx).1
      have h2 := (List.getElem?_eq_some_iff.1 hy).1
      simp at h1 h2; omega
  have HB0 := Lib.hid ((Below.refl w.heap.size w).alloc (Nat.le_refl _) (.cells #[.slice none 0 0] 46))
  obtain ⟨wl, hwl⟩ : ∃ wl, wl = w.alloc (.cells #[.slice none 0 0] 46) := ⟨_, rfl⟩
  rw [← hwl] at H0 HB0
  have Hwl := Lib.hid hwl
  clear hlit hwl
  go_enter Try.func74, Try.ntmps74
  go_upto_region 2 with (fail)
  rw [← Hwl.out]
  clear Hwl
  go_wp2_with fail
  go_loopw [5, 13] (fun v i wr => ∃ (k : Nat) (X : List Value), k ≤ n ∧ i = .int .i64 k ∧ OwnCS wr w.heap.size v X (lv (chs F) k) ∧ Below w.heap.size w wr) (fun _ i _ => n - (intOf i).toNat)
  case atStart => exact ⟨0, _, Nat.zero_le _, rfl, H0.out, HB0.out⟩
  case round =>
    obtain ⟨k, XI, hk, rfl, hor, hbel⟩ := hrel
    by_cases hlt : k < n
    · have hsz := hbel.size
      have hlen : (lv (chs F) k).length ≤ 36 ∧ 0 < (lv (chs F) k).length := by
        refine ⟨Nat.le_trans (lv_len hC.1 k) (Nat.pow_le_pow_right (by omega) (show k ≤ 2 by omega)), lv_pos (hC.2 hF.1) k⟩
      have Hsucc : Hid ((lv (chs F) k).flatMap (fun l => (chs F).map fun c => l ++ [c]) = lv (chs F) (k + 1)) := rfl
      have HLn : Hid (∀ i, i < (lv (chs F) k).length → (crow (lv (chs F) k) i).length ≤ 3) := fun i hi => by
        have h := (ext_in (chs_in F) k [] (fun x hx => by simp at hx) _ (by rw [← lv_ext]; exact List.getElem_mem hi)).2
        rw [crow_get hi] at h
        rw [h]; simp; omega
      obtain ⟨L, hL⟩ : ∃ L, lv (chs F) k = L := ⟨_, rfl⟩
      rw [hL] at hor hlen Hsucc HLn
      clear hL
      obtain ⟨gI, capI, rfl, hgI⟩ := hor.outer hlen.2
      obtain ⟨NN, hNN⟩ : ∃ NN, L.length = NN := ⟨_, rfl⟩
      rw [hNN] at hor hlen HLn ⊢
      have HN : Hid (NN = L.length) := hNN.symm
      have HI := Lib.hid hor
      have Hbel := Lib.hid hbel
      have Hfl := fmL_len (chs F) hC.1 L
      clear hor hbel
      obtain ⟨wi, hwi⟩ : ∃ q, q = wr := ⟨_, rfl⟩
      subst hwi
      go_wp2_with fail
      go_loopw [6, 17] (fun v i wr => ∃ (q : Nat) (X : List Value), q ≤ NN ∧ i = .int .i64 q ∧ OwnCS wr wi.heap.size v X (fmL (chs F) L q) ∧ Below wi.heap.size wi wr) (fun _ i _ => NN - (intOf i).toNat)
      case atStart => exact ⟨0, [], Nat.zero_le _, rfl, OwnCS.nil _ _, Below.refl _ _⟩
      case round =>
        obtain ⟨q, X, hq, rfl, hor, hbel⟩ := hrel
        by_cases hlt2 : q < NN
        · obtain ⟨wa, hwa⟩ : ∃ x, x = wr := ⟨_, rfl⟩
          subst hwa
          have hsz2 := hbel.size
          have hqL : q < L.length := by rw [← HN.out]; exact hlt2
          obtain ⟨a1, c1, hx1, hc0, own1⟩ := HI.out.cellOf HN.out q hqL
          have hln := HLn.out q hlt2
          have Hfs := Lib.hid (fmL_succ (chs F) L hqL)
          obtain ⟨l, hl⟩ : ∃ l, crow L q = l := ⟨_, rfl⟩
          rw [hl] at hc0 own1 hln Hfs
          obtain ⟨m, hm⟩ : ∃ m, l.length = m := ⟨_, rfl⟩
          rw [hm] at hc0 own1 hln
          have hc1 := cell_old hbel hc0
          have Hm : Hid (m = l.length) := hm.symm
          have Own1 := Lib.hid own1
          have Hor := Lib.hid hor
          have Hbel2 := Lib.hid hbel
          clear hor hbel hx1 hc0 own1 hl hm
          go_wp2_with fail
          refine (allCalls_any F wa (by omega)).mono ?_
          rintro e w2 ⟨v2, rfl, own2, hb2⟩
          have ech : wholeP (pr 3 0 F) F F = chs F := rfl
          rw [ech] at own2
          clear ech
          obtain ⟨CC, hCC⟩ : ∃ CC, (chs F).length = CC := ⟨_, rfl⟩
          rw [hCC] at own2
          have HCC : Hid (CC = (chs F).length) := hCC.symm
          have hC6 : CC ≤ 6 := by rw [← hCC]; exact hC.1
          have hC0 : 0 < CC := by rw [← hCC]; exact hC.2 hF.1
          obtain ⟨g2, cap2, rfl, _⟩ := own_pos own2 hC0
          have Hb2 := Lib.hid (Hbel2.out.trans (hb2.mono hsz2))
          have Hor2 := Lib.hid (Hor.out.later hb2)
          have Own2 := Lib.hid own2
          have hs2 := hb2.size
          clear own2 hb2 hCC
          go_wp2_with fail
          go_loopw [6, 24] (fun v i wr => ∃ (p : Nat) (Y : List Value), p ≤ CC ∧ i = .int .i64 p ∧ OwnCS wr wi.heap.size v Y (fmL (chs F) L q ++ exL (chs F) l p) ∧ Below wi.heap.size wi wr ∧ Hid (wr.ownsRow wa.heap.size 83 2 (.slice (some ⟨g2, 0, none⟩) CC cap2) CC (cs (chs F))) ∧ Hid (v.ownBlock ≠ some g2)) (fun _ i _ => CC - (intOf i).toNat)
          case atStart => exact ⟨0, X, Nat.zero_le _, rfl, by simpa [exL] using Hor2.out, Hb2.out, Own2, fun e => by have h1 := (Hor.out.1.lt g2 e).2; have h2 := (Own2.out.lt g2 rfl).1; omega⟩
          case round =>
            obtain ⟨p, Y, hp, rfl, hor, hbel, Hrow, Hne⟩ := hrel
            by_cases hpC : p < CC
            · have hsz3 := hbel.size
              obtain ⟨aoY, capY, rfl, _⟩ := hor.reads
              obtain ⟨LU, hLU⟩ : ∃ LU, (fmL (chs F) L q ++ exL (chs F) l p).length = LU := ⟨_, rfl⟩
              have hLUb : LU ≤ 1000 := by
                have h1 := fmL_len (chs F) hC.1 L q
                have h2 := exL_len (chs F) hC.1 l p
                rw [← hLU, List.length_append]; have := HN.out; omega
              rw [hLU] at hor Hne ⊢
              have HLU := Lib.hid hLU
              have hpp : p < (chs F).length := by rw [← HCC.out]; exact hpC
              have Hex : Hid (fmL (chs F) L q ++ exL (chs F) l p ++ [l ++ [(ca (chs F) p, cb (chs F) p)]] = fmL (chs F) L q ++ exL (chs F) l (p + 1)) := by show _ = _; rw [exL_succ _ _ hpp, List.append_assoc]
              obtain ⟨LL, hLL⟩ : ∃ LL, fmL (chs F) L q ++ exL (chs F) l p = LL := ⟨_, rfl⟩
              rw [hLL] at hor HLU Hex
              obtain ⟨p0, p1⟩ := own_cells (Hrow.out) HCC.out p hpC
              obtain ⟨A, hA⟩ : ∃ A, ca (chs F) p = A := ⟨_, rfl⟩
              obtain ⟨B, hB⟩ : ∃ B, cb (chs F) p = B := ⟨_, rfl⟩
              rw [hA] at p0 Hex
              rw [hB] at p1 Hex
              have ownx := own_later Own1.out hbel
              have hg2lt := (Hrow.out.lt g2 rfl).2
              obtain ⟨ax, cx, hvx, hnone, hmc, holds, hblk⟩ := own_forms ownx
              obtain ⟨rfl, _, rfl⟩ : a1 = ax ∧ m = m ∧ c1 = cx := by simpa using hvx
              obtain ⟨Wn, hWn⟩ : ∃ x, wr.alloc (.cells #[.int .i64 A, .int .i64 B] 83) = x := ⟨_, rfl⟩
              have hcA : Wn.cell? ⟨wr.heap.size, 0, none⟩ = some (.int .i64 A) := by rw [← hWn]; simp
              have hcB : Wn.cell? ⟨wr.heap.size, 1, none⟩ = some (.int .i64 B) := by rw [← hWn]; simp
              have bW : Below wr.heap.size wr Wn := by rw [← hWn]; exact (Below.refl _ _).alloc (Nat.le_refl _) _
              have sW : Wn.heap.size = wr.heap.size + 1 := by rw [← hWn]; simp
              have holdsW : ∀ b, a1 = some b → ∀ j u, (cs l)[j]? = some u → Wn.cell? (b.add j) = some u := fun b hb j u hu => cell_old bW (holds b hb j u hu)
              have HoW := Lib.hid (hor.later bW)
              have HWn := Lib.hid hWn
              have HhW := Lib.hid holdsW
              have HbW := Lib.hid (hbel.trans (bW.mono hsz3))
              have hlv : ∀ b, (Value.slice aoY LU capY).ownBlock = some b → wi.heap.size ≤ b := fun b hb => (hor.1.lt b hb).1
              have Hlv := Lib.hid hlv
              have hm0 : (0 : Int) ≤ (m : Int) := by omega
              have hm1 : (m : Int) ≤ (c1 : Int) := by omega
              have Hlo : Hid ((cs l).length = m * 2) := by show _ = _; rw [cs_length, Hm.out]
              have Hno : Hid (a1 = none → m = 0 ∧ m = 0) := fun h => ⟨(hnone h).1, (hnone h).1⟩
              have HNew : Hid (∀ o, (Wn.alloc o).heap[wr.heap.size + 1]? = some o) := fun o => by have h := heap_alloc_new Wn o; rwa [sW] at h
              have HS9 : Hid (∀ o w9, (Wn.alloc o).drew.grownBy w9 none → wr.heap.size + 1 < w9.heap.size) := fun o w9 h => by have := h.size; simp [World.drew] at this; omega
              have Far : Hid ((Value.slice aoY LU capY).ownBlock ≠ some wr.heap.size) := fun h => by have := (hor.1.lt _ h).2; omega
              have HP2 : Hid (∀ o (v9 : Value) w9, (Wn.alloc o).drew.grownBy w9 none → w9.ownsRow (Wn.alloc o).drew.heap.size 83 2 v9 (m + 1) (cs l ++ [.int .i64 A, .int .i64 B]) → v9.oneCell' = true ∧ ∀ o2,
                  OwnCS (w9.alloc o2) wi.heap.size (.slice aoY LU capY) Y LL ∧ (w9.alloc o2).ownsRow wi.heap.size 83 2 v9 (l ++ [(A, B)]).length (cs (l ++ [(A, B)])) ∧ (∀ b, v9.ownBlock = some b → (Value.slice aoY LU capY).ownBlock ≠ some b) ∧ (∀ (i : Nat) (y : Value) (b : Nat), Y[i]? = some y → y.ownBlock = some b → v9.ownBlock ≠ some b) ∧ wi.heap.size ≤ (w9.alloc o2).heap.size) := fun o v9 w9 hg h9 => by
                have e1 : cs (l ++ [(A, B)]) = cs l ++ [.int .i64 A, .int .i64 B] := cs_append_one l (A, B)
                have e2 : (l ++ [(A, B)]).length = m + 1 := by rw [List.length_append, ← Hm.out]; rfl
                have hsz9 : wr.heap.size + 1 < w9.heap.size := HS9.out o w9 hg
                have hOW : OwnCS (Wn.alloc o).drew wi.heap.size (.slice aoY LU capY) Y LL := HoW.out.alloc o
                have hO9 : OwnCS w9 wi.heap.size (.slice aoY LU capY) Y LL := hOW.kept hg (fun b hb => by cases hb)
                obtain ⟨g9, c9, rfl, hg9⟩ := own_pos h9 (by omega)
                have hg9' : wr.heap.size + 2 ≤ g9 := by simp [World.drew] at hg9; omega
                refine ⟨rfl, fun o2 => ⟨hO9.alloc o2, ?_, ?_, ?_, ?_⟩⟩
                · rw [e1, e2]; exact own_base (by simp [World.drew]; omega) (own_later h9 ((Below.refl _ _).alloc (Nat.le_refl _) o2))
                · intro b hb e
                  have e3 : g9 = b := by simpa [Value.ownBlock] using hb
                  have h2 := (hor.1.lt b e).2
                  omega
                · intro i y b hy hb e
                  have e3 : g9 = b := by simpa [Value.ownBlock] using e
                  have hi := (List.getElem?_eq_some_iff.1 hy).1
                  have h2 := ((hor.2.2.1 i y _ hy (List.getElem?_eq_getElem (by rw [← hor.2.1]; exact hi))).1.lt b hb).2
                  omega
                · simp; omega
              have HrW := Lib.hid (own_later Hrow.out bW)
              clear hlv hWn holdsW hor hbel bW holds ownx hvx hnone hblk
              go_wp2_with fail
              rw [HWn.out]
              go_region_held3 (fun w' => w'.cell? ⟨wr.heap.size, 0, none⟩ = some (.int .i64 A) ∧ w'.cell? ⟨wr.heap.size, 1, none⟩ = some (.int .i64 B))
                (first
                  | exact ⟨hcA, hcB⟩
                  | go_keep
                  | (go_split_ands
                     refine ⟨?_, ?_⟩
                     · (rw [hgrow.cell_far _ (by simp; omega) (by first | exact Ne.symm Far.out | simp)]; assumption)
                     · (rw [hgrow.cell_far _ (by simp; omega) (by first | exact Ne.symm Far.out | simp)]; assumption)))
                (first
                  | (refine step_append_grows (by rfl) _ _ _ (by rfl) 83 i0 (.agg #[.int .i64 0, .int .i64 0]) 2 16 Try.underlying46 hi hz0 hz1 hz2 rfl (by omega) a1 m m (cs l) (by rfl) Hno.out Hlo.out (fun b hb j u hu => cell_old (((Below.refl _ _).alloc (Nat.le_refl _) _).drew) (HhW.out b hb j u hu))
                      ⟨wr.heap.size + 1, 0, none⟩ 1 1 [.int .i64 A, .int .i64 B] (by rfl) (by rfl) (World.news_of_block (cs := #[.int .i64 A, .int .i64 B]) (t := 83) (fr := (0, 0)) (HNew.out _)) (by intro u hu; simp at hu; rcases hu with rfl | rfl <;> rfl) (by omega) (by unfold maxLen; omega) (by omega) ?_; intro v9 w9 own9 hgrow; obtain ⟨g9, c9, rfl, hg9⟩ := own_pos own9 (by omega); have hg1 := hgrow; have s9 := HS9.out _ _ hgrow; have HP := Lib.hid (HP2.out _ _ _ hgrow own9))
                  | (refine step_push_row _ (by rfl) _ _ _ (by rfl) wi.heap.size j0 Try.underlying50 hj hy0 hy1 hy2 _ Y LL LU HLU.out (by rfl) (HP.out.2 _).1 (by omega) (.slice (some ⟨g9, 0, none⟩) (m + 1) c9) (l ++ [(A, B)]) (HP.out.2 _).2.1 (HP.out.2 (.cells #[] 0)).2.2.1 (HP.out.2 (.cells #[] 0)).2.2.2.1 1 w9.heap.size (by rfl) (by rw [cell_of_row _ _ _ _ _ _ (heap_alloc_new w9 _)]; rfl) HP.out.1 (HP.out.2 _).2.2.2.2 ?_; intro v6 w6 own6 hgrow hat6)
                  | fail)
              have bA : Below wi.heap.size wi (Wn.alloc (.cells #[.int .i64 A, .int .i64 B] 83)).drew := (HbW.out.alloc (by omega) _).drew
              have b9 : Below wi.heap.size wi w9 := bA.grown hg1 (by simp [World.drew]; omega) (fun b hb => by cases hb)
              have b9a := b9.alloc (by omega) (.cells #[.slice (some ⟨g9, 0, none⟩) (m + 1) c9] 46)
              have b6 := Lib.hid (b9a.grown hgrow (by simp; omega) (fun b hb => Hlv.out b hb))
              have r9 : w9.ownsRow wa.heap.size 83 2 (.slice (some ⟨g2, 0, none⟩) CC cap2) CC (cs (chs F)) := ((HrW.out.alloc _).drew).kept hg1 (.inr (by simp [Value.ownBlock]))
              have r6 := Lib.hid ((r9.alloc (.cells #[.slice (some ⟨g9, 0, none⟩) (m + 1) c9] 46)).kept hgrow (.inr (fun e => Hne.out e.symm)))
              have ne6 : Hid (v6.ownBlock ≠ some g2) := fun e => by
                rcases hat6 with h | h
                · rw [h] at e; exact Hne.out e
                · rw [h] at e; simp at e; omega
              rw [Hex.out] at own6
              have Ho6 := Lib.hid own6
              clear own6 hgrow hat6 b9 b9a bA r9 hg1 own9 HP
              go_wp2_with fail
              go_roundw
              case rel => exact ⟨p + 1, _, by omega, by go_num, Ho6.out, b6.out, r6, ne6⟩
              case measure => simp [intOf]; omega
            · obtain rfl : p = CC := by omega
              rw [HCC.out, ← Hfs.out] at hor
              have Hor3 := Lib.hid hor
              have Hb3 := Lib.hid hbel
              clear hor hbel
              go_wp2_with fail
              go_roundw
              case rel => exact ⟨q + 1, Y, by have := hlt2; omega, by go_num, Hor3.out, Hb3.out⟩
              case measure => have := hlt2; simp [intOf]; omega
        · obtain rfl : q = NN := by omega
          rw [HN.out, fmL_all, Hsucc.out] at hor
          have Hor : Hid (OwnCS wr w.heap.size _ X (lv (chs F) (k + 1))) := hor.weaken hsz
          have Hb2 := Lib.hid (Hbel.out.trans (hbel.mono hsz))
          clear hor hbel
          go_wp2_with fail
          go_roundw
          case rel => exact ⟨k + 1, X, by have := hlt; omega, by go_num, Hor.out, Hb2.out⟩
          case measure => have := hlt; simp [intOf]; omega
    · obtain rfl : k = n := by omega
      have Hor := Lib.hid hor
      clear hor
      go_wp2_with fail
      go_ret
      exact ⟨_, XI, rfl, Hor.out, hbel⟩

end Go.Proofs.Ytmgmkgjefplfdaa
