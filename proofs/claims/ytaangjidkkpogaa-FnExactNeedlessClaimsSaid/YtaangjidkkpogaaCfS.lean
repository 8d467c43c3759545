/- The casts that fit, the model's way. -/
import Derived.Test.YtaangjidkkpogaaCfI
namespace Go.Proofs.Ytaangjidkkpogaa
open Go.ChangeShapes Go.WideShapes Go.ChangeAt Go.RowKit
set_option linter.unusedVariables false


theorem bit1 : ∀ x : Fin 512, (bits BinOp.and IntKind.i64 ((x.val : Nat) : Int) 1 == 0) = (x.val % 2 == 0) := by decide +kernel
theorem shl1 : ∀ n : Fin 9, wrap64 (2 ^ n.val) = ((2 ^ n.val : Nat) : Int) := by decide +kernel
theorem bit_at (j q : Nat) (hj : j < 512) : (bits BinOp.and IntKind.i64 ((j : Int) / 2 ^ q) 1 == 0) = (j / 2 ^ q % 2 == 0) := by
  have h1 : ((j : Int) / 2 ^ q) = ((j / 2 ^ q : Nat) : Int) := by rw [Int.natCast_ediv, Int.natCast_pow]; rfl
  rw [h1]
  exact bit1 ⟨j / 2 ^ q, Nat.lt_of_le_of_lt (Nat.div_le_self _ _) hj⟩

set_option maxHeartbeats 400000 in
set_option maxRecDepth 20000 in
theorem liAll_yes (w : World) (n : Nat) (ao : Option Addr) (cap : Nat) (l : List Snd) (m : Nat) (Hm : Hid (m = l.length)) (hm : m ≤ 1048576) (hcl : clB (n : Int) l = true) (hn1 : 1 ≤ n) (hn : n ≤ 8) (hc : SendsAt w ao l) :
    Calls Try.prog 45 #[.int .i64 (n : Int), .slice ao m cap] w fun e w' => ∃ v M, Hid (M = ((allC n).filter (fit l)).length) ∧ e = .returned v ∧ w'.ownsRow w.heap.size 9 1 v M (ts (tc ((allC n).filter (fit l)))) ∧ Below w.heap.size w w' := by
  obtain ⟨i0, hi, hz0, hz1, hz2⟩ := info_parts info9
  have HL : Hid (∀ i, i < m → (0 ≤ sf l i ∧ sf l i < (n : Int)) ∧ (0 ≤ st l i ∧ st l i < (n : Int))) := Lib.hid (fun i hi => cl_at (cl_parts hcl).2.2 (by rw [← Hm.out]; exact hi))
  have HS := Lib.hid hc
  obtain ⟨H, hH⟩ : ∃ H, w.heap.size = H := ⟨_, rfl⟩
  rw [hH]
  have HH := Lib.hid hH
  obtain ⟨R, hR⟩ : ∃ R, (allC n).filter (fit l) = R := ⟨_, rfl⟩
  rw [hR]
  have HR := Lib.hid hR
  obtain ⟨N, hN⟩ : ∃ N, (allC n).length = N := ⟨_, rfl⟩
  have HNL := Lib.hid hN
  have HN : Hid (N = 2 ^ n) := Lib.hid (by rw [← hN, allC_len])
  have hN8 : N ≤ 256 := by rw [HN.out]; exact Nat.le_trans (Nat.pow_le_pow_right (by omega) hn) (by decide)
  have hsh : wrap64 (2 ^ n) = (N : Int) := by rw [HN.out]; exact shl1 ⟨n, by omega⟩
  clear hH hcl hc hR hN
  go_enter Try.func45, Try.ntmps45
  go_wp2_with fail
  go_loopw [5, 6] (fun v i wr => ∃ (j M : Nat), j ≤ N ∧ i = .int .i64 j ∧ Hid (M = (((allC n).take j).filter (fit l)).length) ∧ wr.ownsRow H 9 1 v M (ts (tc (((allC n).take j).filter (fit l)))) ∧ Below H w wr) (fun _ i _ => N - (intOf i).toNat)
  case atStart => exact ⟨0, 0, Nat.zero_le _, rfl, Lib.hid rfl, World.ownsRow_nil _ _ _ _, by rw [← HH.out]; exact Below.refl _ _⟩
  case round =>
    obtain ⟨j, M, hj, rfl, HM, hor, hb3⟩ := hrel
    by_cases hltj : j < N
    · have Hor := Lib.hid hor
      have Hb3 := Lib.hid hb3
      clear hor hb3
      go_wp2_with fail
      go_loop [7, 8] (fun s i => ∃ t : Nat, t ≤ n ∧ s = .string (cbs (mB n j t)) ∧ i = .int .i64 ((n : Int) - 1 - (t : Int))) (fun _ i => (intOf i + 1).toNat)
      case atStart => exact ⟨0, Nat.zero_le _, rfl, by simp⟩
      case round =>
        obtain ⟨t, ht, rfl, rfl⟩ := hrel
        by_cases hlt : t < n
        · have hsz : ¬ 9223372036854775807 < (cbs (mB n j t)).size + 1 := by rw [cbs_size, mB_len]; omega
          have hbt := bit_at j (n - 1 - t) (by omega)
          have HP : Hid (mB n j (t + 1) = mB n j t ++ [j / 2 ^ (n - 1 - t) % 2 == 0]) := Lib.hid (mB_succ n j t)
          generalize hz : (j / 2 ^ (n - 1 - t) % 2 == 0) = z at hbt HP
          have Hz := Lib.hid hz
          clear hz
          have HP2 : Hid (cbs (mB n j t) ++ ⟨#[cby z]⟩ = cbs (mB n j (t + 1))) := Lib.hid (by rw [HP.out, cbs_push])
          cases z
          · go_wp2_with fail
            go_round
            case rel => exact ⟨t + 1, by omega, by rw [← HP2.out]; rfl, by go_num⟩
            case measure => simp [intOf]; omega
          · go_wp2_with fail
            go_round
            case rel => exact ⟨t + 1, by omega, by rw [← HP2.out]; rfl, by go_num⟩
            case measure => simp [intOf]; omega
        · obtain rfl : t = n := by omega
          have hjl : j < (allC t).length := by rw [HNL.out]; exact hltj
          have HT := Lib.hid (filt_take (fit l) (allC t) j hjl)
          have hcj : (allC t)[j] = mB t j t := by
            have : ∀ (A B : List (List Bool)) (h : A = B) (j : Nat) (hA : j < A.length) (hB : j < B.length), A[j] = B[j] := by intro A B h j _ _; subst h; rfl
            rw [this _ _ (allC_eq t) j hjl (by rw [← allC_eq]; exact hjl)]
            simp
          rw [hcj] at HT
          have hln := mB_len t j t
          have hsz : H ≤ wr.heap.size := by have := Hb3.out.size; have := HH.out; omega
          have hM : M ≤ j := by rw [HM.out]; refine Nat.le_trans (List.length_filter_le _ _) ?_; simp; omega
          have HF := Lib.hid (liFits_any wr (mB t j t) ao cap l m Hm hm (Lib.hid (by rw [hln]; omega)) (Lib.hid (by rw [hln]; exact HL.out)) (HS.out.kept (by rw [HH.out]; exact Hb3.out)))
          generalize mB t j t = c at HT HF
          clear hcj hln
          cases hp : fit l c
          · rw [hp] at HT HF
            have HT2 : Hid (((allC t).take (j + 1)).filter (fit l) = ((allC t).take j).filter (fit l)) := Lib.hid (by rw [HT.out]; simp)
            clear hp HT
            go_wp2_with fail
            refine HF.out.mono ?_
            rintro e w3 ⟨rfl, hb4⟩
            have Hor3 := Lib.hid (own_later Hor.out hb4)
            have Hb4 := Lib.hid (Hb3.out.trans (hb4.mono hsz))
            clear hb4
            go_wp2_with fail
            go_roundw
            case rel => exact ⟨j + 1, M, by omega, by go_num, Lib.hid (by rw [HT2.out]; exact HM.out), by rw [HT2.out]; exact Hor3.out, Hb4.out⟩
            case measure => simp [intOf]; omega
          · rw [hp] at HT HF
            have HT2 : Hid (((allC t).take (j + 1)).filter (fit l) = ((allC t).take j).filter (fit l) ++ [c]) := Lib.hid (by rw [HT.out]; rfl)
            clear hp HT
            go_wp2_with fail
            refine HF.out.mono ?_
            rintro e w3 ⟨rfl, hb4⟩
            have hsz3 : H ≤ w3.heap.size := Nat.le_trans hsz hb4.size
            have Hor3 := Lib.hid ((own_later Hor.out hb4).alloc (.cells #[.string (cbs c)] 9))
            have Hb4 := Lib.hid ((Hb3.out.trans (hb4.mono hsz)).alloc hsz3 (.cells #[.string (cbs c)] 9))
            have HCC : Hid ((w3.alloc (.cells #[.string (cbs c)] 9)).cell? ⟨w3.heap.size, 0, none⟩ = some (.string (cbs c))) := Lib.hid (by simp)
            clear hb4
            go_wp2_with (at_builtin; refine push_one _ rfl _ _ 31 9 rfl H i0 Try.underlying31 hi hz0 hz1 hz2 _ _ M rfl Hor3.out (by omega) (cbs c) _ w3.heap.size rfl HCC.out (by simp; omega) ?_)
            intro g3 cap3 w4 own4 gr4 _
            have Own4 : Hid (w4.ownsRow H 9 1 (.slice (some ⟨g3, 0, none⟩) (M + 1) cap3) (M + 1) (ts (tc (((allC t).take (j + 1)).filter (fit l))))) := Lib.hid (by rw [HT2.out, tc_append]; exact own4)
            have Hb5 := Lib.hid (Hb4.out.grown gr4 (by simp; omega) (fun k hk => (Hor3.out.lt k hk).1))
            clear own4 gr4
            go_wp2_with fail
            go_roundw
            case rel => exact ⟨j + 1, M + 1, by omega, by go_num, Lib.hid (by rw [HT2.out, HM.out]; simp), Own4.out, Hb5.out⟩
            case measure => simp [intOf]; omega
    · obtain rfl : j = N := by omega
      have hT : (allC n).take j = allC n := List.take_of_length_le (by rw [HNL.out]; exact Nat.le_refl _)
      rw [hT, HR.out] at hor HM
      have Hor := Lib.hid hor
      have Hb4 := Lib.hid hb3
      clear hor hb3 hT
      go_wp2_with fail
      go_ret
      exact ⟨_, M, HM, rfl, Hor.out, Hb4.out⟩

end Go.Proofs.Ytaangjidkkpogaa
