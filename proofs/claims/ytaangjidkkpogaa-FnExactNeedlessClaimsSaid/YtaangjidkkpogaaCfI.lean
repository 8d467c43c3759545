/- The casts that fit, the program's way. -/
import Derived.Test.YtaangjidkkpogaaAllI
namespace Go.Proofs.Ytaangjidkkpogaa
open Go.ChangeShapes Go.WideShapes Go.ChangeAt Go.RowKit
set_option linter.unusedVariables false


theorem filt_take {α : Type} (p : α → Bool) (L : List α) (k : Nat) (h : k < L.length) : (L.take (k + 1)).filter p = (L.take k).filter p ++ if p L[k] then [L[k]] else [] := by
  rw [List.take_succ_eq_append_getElem h, List.filter_append]
  congr 1
  cases hp : p L[k] <;> simp [hp]
theorem cl_in {f : Int} {l : List Snd} (h : clB f l = true) : ∃ n : Nat, f = (n : Int) ∧ 1 ≤ n ∧ n ≤ 8 := by
  have := (cl_parts h).1
  exact ⟨f.toNat, by omega, by omega, by omega⟩
theorem fitB_yes {f : Int} {l : List Snd} (h : clB f l = true) : fitB f l = (allC f.toNat).filter (fit l) := by unfold fitB; rw [if_pos h]; rfl
theorem fitB_no {f : Int} {l : List Snd} (h : clB f l = false) : fitB f l = [] := by unfold fitB; rw [h]; rfl
theorem fitB_len (f : Int) (l : List Snd) : (fitB f l).length ≤ 256 := by
  unfold fitB
  split
  · rename_i h; exact allF_len f l (by have := (cl_parts h).1; omega)
  · simp
theorem push_one {P : Program} (w : World) {ops : Array Oper} {rest : List Oper} {o : Oper} {a : Act} {Q : Exit → Act → World → Prop} (hgd : o.guard = none) (s x : Operand) (t e : TypeId)
    (ho : o.op = .call { callee := .builtin .append, args := #[s, x], argTypes := #[t, t] })
    (base : Nat) (i : TypeInfo) (ht : P.underlying t = some (.slice e)) (hi : P.info? e = some i) (hz : i.zero = some (.string ⟨#[]⟩))
    (hsize : i.size = 1) (hby : i.bytes = 16)
    (v : Value) (l : List ByteArray) (k : Nat) (hs : a.eval s = v) (hown : w.ownsRow base e 1 v k (ts l)) (hsml : k ≤ 1000000)
    (r : ByteArray) (c : Nat) (ad : Nat) (hx : a.eval x = .slice (some ⟨ad, 0, none⟩) 1 c) (had : w.cell? ⟨ad, 0, none⟩ = some (.string r)) (hbase : base ≤ w.heap.size)
    (h : ∀ g cap w', w'.ownsRow base e 1 (.slice (some ⟨g, 0, none⟩) (k + 1) cap) (k + 1) (ts (l ++ [r])) → w.grownBy w' v.ownBlock → (v.ownBlock = some g ∨ g = w.heap.size) → wpList P ops Q rest (a.put o.dst (.slice (some ⟨g, 0, none⟩) (k + 1) cap)) w') : wpList P ops Q (o :: rest) a w :=
  push_strs w hgd s x t e ho base i ht hi hz hsize hby v l k hs hown hsml [r] 1 rfl (by omega) (by omega) c ad hx (fun j hj => (show j = 0 by omega) ▸ by simpa [ta] using had) hbase h

set_option maxHeartbeats 400000 in
set_option maxRecDepth 20000 in
theorem implCF_yes (w : World) (n : Nat) (ao : Option Addr) (cap : Nat) (l : List Snd) (m : Nat) (Hm : Hid (m = l.length)) (hm : m ≤ 1048576) (hcl : clB (n : Int) l = true) (hn : n ≤ 8) (hc : SendsAt w ao l) :
    Calls Try.prog 46 #[.int .i64 (n : Int), .slice ao m cap] w fun e w' => ∃ v M, Hid (M = ((allC n).filter (fit l)).length) ∧ e = .returned (.tuple #[v, .bool true]) ∧ w'.ownsRow w.heap.size 60 1 v M (ts (tc ((allC n).filter (fit l)))) ∧ Below w.heap.size w w' := by
  obtain ⟨i0, hi, hz0, hz1, hz2⟩ := info_parts infoCT
  have HX := Lib.hid (implAC_any w (n : Int) ao cap l m Hm hm hc)
  rw [hcl] at HX
  have HL : Hid (∀ i, i < m → (0 ≤ sf l i ∧ sf l i < (n : Int)) ∧ (0 ≤ st l i ∧ st l i < (n : Int))) := Lib.hid (fun i hi => cl_at (cl_parts hcl).2.2 (by rw [← Hm.out]; exact hi))
  have HS := Lib.hid hc
  obtain ⟨H, hH⟩ : ∃ H, w.heap.size = H := ⟨_, rfl⟩
  rw [hH]
  have HH := Lib.hid hH
  obtain ⟨R, hR⟩ : ∃ R, (allC n).filter (fit l) = R := ⟨_, rfl⟩
  rw [hR]
  have HR := Lib.hid hR
  clear hH hcl hc hR
  go_enter Try.func46, Try.ntmps46
  go_wp2_with fail
  refine HX.out.mono ?_
  rintro e w1 ⟨rfl, hb1⟩
  have Hb1 := Lib.hid hb1
  clear hb1
  go_wp2_with fail
  refine (allCasts_any n _ hn).mono ?_
  rintro e w2 ⟨g, cap2, N, HN, rfl, own2, hb2⟩
  have Hb2 : Hid (Below H w w2) := Lib.hid (by rw [← HH.out]; exact Hb1.out.trans (hb2.mono Hb1.out.size))
  have hcap2 := own_cap3 own2
  have HLen : Hid (∀ c ∈ allC n, c.length = n) := allC_mem n
  have hN : N ≤ 256 := by rw [HN.out, allC_len]; exact Nat.le_trans (Nat.pow_le_pow_right (by omega) hn) (by decide)
  have hgs : g < w2.heap.size := (own2.lt g rfl).2
  obtain ⟨H2, hH2⟩ : ∃ q, w2.heap.size = q := ⟨_, rfl⟩
  have hHH : H ≤ H2 := by have := Hb2.out.size; have := HH.out; omega
  have HH2 := Lib.hid hH2
  have HC : Hid (∀ j, (hj : j < (allC n).length) → w2.cell? ⟨g, j, none⟩ = some (.string (cbs (allC n)[j]))) := Lib.hid (fun j hj => by
    have h1 := own2.cellAt j (by rw [HN.out]; omega)
    rw [ts_get _ j (by rw [tc_len]; exact hj), tc_get _ j hj] at h1
    exact h1)
  obtain ⟨L, hL⟩ : ∃ q, allC n = q := ⟨_, rfl⟩
  rw [hL] at HC HN HLen HR
  clear own2 hb2 hL hH2
  go_wp2_with fail
  go_loopw [6, 16] (fun v i wr => ∃ (j M : Nat), j ≤ N ∧ i = .int .i64 j ∧ Hid (M = ((L.take j).filter (fit l)).length) ∧ wr.ownsRow H2 60 1 v M (ts (tc ((L.take j).filter (fit l)))) ∧ Below H2 w2 wr) (fun _ i _ => N - (intOf i).toNat)
  case atStart => exact ⟨0, 0, Nat.zero_le _, rfl, Lib.hid rfl, World.ownsRow_nil _ _ _ _, by rw [← HH2.out]; exact Below.refl _ _⟩
  case round =>
    obtain ⟨j, M, hj, rfl, HM, hor, hb3⟩ := hrel
    by_cases hltj : j < N
    · have hjl : j < L.length := by rw [← HN.out]; exact hltj
      have hM : M ≤ j := by rw [HM.out]; refine Nat.le_trans (List.length_filter_le _ _) ?_; simp; omega
      have hsz : H2 ≤ wr.heap.size := by have := hb3.size; have := HH2.out; omega
      have hc := (hb3.cell (p := ⟨g, j, none⟩) (by have := HH2.out; show g < H2; omega)).trans (HC.out j hjl)
      have HT := Lib.hid (filt_take (fit l) L j hjl)
      have hln := HLen.out _ (List.getElem_mem hjl)
      have HSr := Lib.hid (HS.out.kept (by rw [HH.out]; exact Hb2.out.trans (hb3.mono hHH)))
      have HF := Lib.hid (fits_any wr L[j] ao cap l m Hm hm (Lib.hid (by rw [hln]; omega)) (Lib.hid (by rw [hln]; exact HL.out)) HSr.out)
      generalize hcj : L[j] = c at hc HT HF
      have Hor := Lib.hid hor
      have Hb3 := Lib.hid hb3
      clear hor hb3 hln hcj
      cases hp : fit l c
      · rw [hp] at HT HF
        have HT2 : Hid ((L.take (j + 1)).filter (fit l) = (L.take j).filter (fit l)) := Lib.hid (by rw [HT.out]; simp)
        clear hp HT
        go_wp2_with fail
        refine HF.out.mono ?_
        rintro e w3 ⟨rfl, hb4⟩
        have Hor3 := Lib.hid (own_later Hor.out hb4)
        have Hb4 := Lib.hid (Hb3.out.trans (hb4.mono hsz))
        clear hb4
        go_wp2_with fail
        go_roundw
        case rel => exact ⟨j + 1, M, by omega, by go_num, Lib.hid (by rw [HT2.out]; exact HM.out), by rw [HT2.out]; exact Hor3.out, Hb4.out⟩
        case measure => simp [intOf]; omega
      · rw [hp] at HT HF
        have HT2 : Hid ((L.take (j + 1)).filter (fit l) = (L.take j).filter (fit l) ++ [c]) := Lib.hid (by rw [HT.out]; rfl)
        clear hp HT
        have hF := Lib.hid HF.out
        go_wp2_with fail
        refine HF.out.mono ?_
        rintro e w3 ⟨rfl, hb4⟩
        have hsz3 : H2 ≤ w3.heap.size := Nat.le_trans hsz hb4.size
        have Hor3 := Lib.hid ((own_later Hor.out hb4).alloc (.cells #[.string (cbs c)] 60))
        have Hb4 := Lib.hid ((Hb3.out.trans (hb4.mono hsz)).alloc hsz3 (.cells #[.string (cbs c)] 60))
        have HCC : Hid ((w3.alloc (.cells #[.string (cbs c)] 60)).cell? ⟨w3.heap.size, 0, none⟩ = some (.string (cbs c))) := Lib.hid (by simp)
        clear hb4
        go_wp2_with (at_builtin; refine push_one _ rfl _ _ 54 60 rfl H2 i0 Try.underlying54 hi hz0 hz1 hz2 _ _ M rfl Hor3.out (by omega) (cbs c) _ w3.heap.size rfl HCC.out (by simp; omega) ?_)
        intro g3 cap3 w4 own4 gr4 _
        have Own4 : Hid (w4.ownsRow H2 60 1 (.slice (some ⟨g3, 0, none⟩) (M + 1) cap3) (M + 1) (ts (tc ((L.take (j + 1)).filter (fit l))))) := Lib.hid (by rw [HT2.out, tc_append]; exact own4)
        have Hb5 := Lib.hid (Hb4.out.grown gr4 (by simp; omega) (fun k hk => (Hor3.out.lt k hk).1))
        clear own4 gr4
        go_wp2_with fail
        go_roundw
        case rel => exact ⟨j + 1, M + 1, by omega, by go_num, Lib.hid (by rw [HT2.out, HM.out]; simp), Own4.out, Hb5.out⟩
        case measure => simp [intOf]; omega
    · obtain rfl : j = N := by omega
      have hT : L.take j = L := List.take_of_length_le (by rw [HN.out]; exact Nat.le_refl _)
      rw [hT, HR.out] at hor HM
      have Hor := Lib.hid (own_base hor hHH)
      have Hb4 := Lib.hid (Hb2.out.trans (hb3.mono hHH))
      clear hor hb3 hT HC
      go_wp2_with fail
      go_ret2
      exact ⟨_, M, HM, rfl, Hor.out, Hb4.out⟩
theorem implCF_any (w : World) (f : Int) (ao : Option Addr) (cap : Nat) (l : List Snd) (m : Nat) (Hm : Hid (m = l.length)) (hm : m ≤ 1048576) (hc : SendsAt w ao l) :
    Calls Try.prog 46 #[.int .i64 f, .slice ao m cap] w fun e w' => ∃ v M, Hid (M = (fitB f l).length) ∧ e = .returned (.tuple #[v, .bool (clB f l)]) ∧ w'.ownsRow w.heap.size 60 1 v M (ts (tc (fitB f l))) ∧ Below w.heap.size w w' := by
  cases hcl : clB f l
  · have HX := Lib.hid (implAC_any w f ao cap l m Hm hm hc)
    rw [hcl] at HX
    rw [fitB_no hcl]
    clear hcl hc
    go_enter Try.func46, Try.ntmps46
    go_wp2_with fail
    refine HX.out.mono ?_
    rintro e w1 ⟨rfl, hb1⟩
    go_wp2_with fail
    go_ret2
    exact ⟨.slice none 0 0, 0, Lib.hid rfl, rfl, World.ownsRow_nil _ _ _ _, hb1⟩
  · obtain ⟨n, rfl, hn1, hn8⟩ := cl_in hcl
    rw [fitB_yes hcl]
    exact implCF_yes w n ao cap l m Hm hm hcl hn8 hc

end Go.Proofs.Ytaangjidkkpogaa
