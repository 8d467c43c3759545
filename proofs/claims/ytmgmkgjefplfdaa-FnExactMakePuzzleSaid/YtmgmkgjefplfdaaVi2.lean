/- What a clue tells of a list, by the program: the other kinds. -/
import Derived.Test.YtmgmkgjefplfdaaVi
namespace Go.Proofs.Ytmgmkgjefplfdaa
open Go.ChangeShapes Go.WideShapes Go.ChangeAt Go.RowKit
set_option linter.unusedVariables false


/-- A value that owns these numbers. -/
def OwnL (L : List Int) (v : Value) (w : World) : Prop := ∃ base, w.ownsRow base 3 1 v L.length (ns L)
/-- Where a number first comes, or -1. -/
def fi (l : List Int) (x : Int) : Int := if x ∈ l then ((l.idxOf x : Nat) : Int) else -1

theorem na_mem {l : List Int} {k : Nat} (h : k < l.length) : na l k ∈ l := by rw [← na_get l k h]; exact List.getElem_mem h

theorem idx_first {l : List Int} {k : Nat} {x : Int} (hk : k < l.length) (h : ∀ j, j < k → ¬ na l j = x) (hx : na l k = x) : l.idxOf x = k := by
  have hm : x ∈ l := by rw [← hx]; exact na_mem hk
  have hlt := List.idxOf_lt_length_of_mem hm
  have hat : na l (l.idxOf x) = x := by rw [← na_get l _ hlt]; exact List.getElem_idxOf hlt
  rcases Nat.lt_trichotomy (l.idxOf x) k with h1 | h1 | h1
  · exact absurd hat (h _ h1)
  · exact h1
  · have h2 := List.not_of_lt_findIdx (p := fun y => y == x) h1
    rw [na_get l k hk, hx] at h2
    simp at h2

theorem fi_found {l : List Int} {k : Nat} {x : Int} (hk : k < l.length) (h : ∀ j, j < k → ¬ na l j = x) (hx : na l k = x) : fi l x = k := by
  have hm : x ∈ l := by rw [← hx]; exact na_mem hk
  rw [fi, if_pos hm, idx_first hk h hx]

theorem fi_none {l : List Int} {x : Int} (h : ∀ j, j < l.length → ¬ na l j = x) : fi l x = -1 := by
  rw [fi, if_neg]
  intro hm
  obtain ⟨i, hi, e⟩ := List.getElem_of_mem hm
  exact h i hi (by rw [← na_get l i hi]; exact e)

theorem fi_mem {l : List Int} {x : Int} (h : x ∈ l) : fi l x = ((l.idxOf x : Nat) : Int) := by rw [fi, if_pos h]

set_option maxRecDepth 20000 in
theorem index_pos (b off cap : Nat) (l : List Int) (n : Nat) (x : Int) (w : World) (Hn : Hid (n = l.length)) (hn : n ≤ 1048576)
    (Hc : Hid (∀ i, i < n → w.cell? ⟨b, off + i, none⟩ = some (.int .i64 (na l i)))) :
    Calls Try.prog 93 #[.slice (some ⟨b, off, none⟩) n cap, .int .i64 x] w fun e w' => e = .returned (.int .i64 (fi l x)) ∧ w = w' := by
  go_enter Try.func93, Try.ntmps93
  go_wp2_with fail
  go_loop [8] (fun i => ∃ k : Nat, k ≤ n ∧ i = .int .i64 k ∧ Hid (∀ j, j < k → ¬ na l j = x)) (fun i => n - (intOf i).toNat)
  case atStart => exact ⟨0, Nat.zero_le _, rfl, fun j hj => absurd hj (by omega)⟩
  case round =>
    obtain ⟨k, hk, rfl, hno⟩ := hrel
    by_cases hlt : k < n
    · have h0 := Hc.out k hlt
      by_cases ht : na l k = x
      · have hy := Lib.hid (fi_found (by rw [← Hn.out]; exact hlt) hno.out ht)
        have hte : (x == na l k) = true := by rw [ht]; simp
        clear ht
        go_wp2_with fail
        go_ret
        exact ⟨ret_int hy.out.symm, rfl⟩
      · have hno2 : Hid (∀ j, j < k + 1 → ¬ na l j = x) := by
          intro j hj
          by_cases hjk : j = k
          · subst hjk; exact ht
          · exact hno.out j (by omega)
        have hte : (x == na l k) = false := by simp; exact fun e => ht e.symm
        clear ht
        go_wp2_with fail
        go_round
        case rel => exact ⟨k + 1, by omega, by go_num, hno2⟩
        case measure => simp [intOf]; omega
    · obtain rfl : k = n := by omega
      have hy := Lib.hid (fi_none (l := l) (x := x) (by rw [← Hn.out]; exact hno.out))
      go_wp2_with fail
      go_ret
      exact ⟨ret_int hy.out.symm, rfl⟩

theorem index_zero (ao : Option Addr) (cap : Nat) (x : Int) (w : World) :
    Calls Try.prog 93 #[.slice ao 0 cap, .int .i64 x] w fun e w' => e = .returned (.int .i64 (-1)) ∧ w = w' := by
  go_enter Try.func93, Try.ntmps93
  go_wp2_with fail
  go_rounds 1
  go_ret
  exact ⟨rfl, rfl⟩

theorem index_any (ao : Option Addr) (cap : Nat) (l : List Int) (n : Nat) (x : Int) (w : World) (Hn : Hid (n = l.length)) (hn : n ≤ 1048576) (hc : NumsAt w ao l) :
    Calls Try.prog 93 #[.slice ao n cap, .int .i64 x] w fun e w' => e = .returned (.int .i64 (fi l x)) ∧ w = w' := by
  rcases hc with h | ⟨b, off, rfl, hc⟩
  · subst h
    obtain rfl : n = 0 := Hn.out
    exact index_zero ao cap x w
  · exact index_pos b off cap l n x w Hn hn (by rw [Hn.out]; exact hc)

theorem contains_any (ao : Option Addr) (cap : Nat) (l : List Int) (n : Nat) (x : Int) (w : World) (Hn : Hid (n = l.length)) (hn : n ≤ 1048576) (hc : NumsAt w ao l) :
    Calls Try.prog 133 #[.slice ao n cap, .int .i64 x] w fun e w' => e = .returned (.bool (decide (x ∈ l))) ∧ w = w' := by
  by_cases hm : x ∈ l
  · obtain ⟨q, hq⟩ : ∃ q, q = l.idxOf x := ⟨_, rfl⟩
    have hf := fi_mem hm
    rw [← hq] at hf
    have hR : decide (x ∈ l) = true := by simpa using hm
    rw [hR]
    have Hf := Lib.hid hf
    clear hR hf hm hq
    go_enter Try.func133, Try.ntmps133
    go_wp2_with fail
    refine (index_any ao cap l n x w Hn hn hc).mono ?_
    rintro e w' ⟨rfl, rfl⟩
    rw [Hf.out]
    go_wp2_with fail
    go_ret
    exact ⟨by simp, rfl⟩
  · have hf : fi l x = -1 := by rw [fi, if_neg hm]
    have hR : decide (x ∈ l) = false := by simpa using hm
    rw [hR]
    have Hf := Lib.hid hf
    clear hR hf hm
    go_enter Try.func133, Try.ntmps133
    go_wp2_with fail
    refine (index_any ao cap l n x w Hn hn hc).mono ?_
    rintro e w' ⟨rfl, rfl⟩
    rw [Hf.out]
    go_wp2_with fail
    go_ret
    exact ⟨by simp, rfl⟩
theorem oneIf_any (b : Bool) (w : World) : Calls Try.prog 130 #[.bool b] w fun e w' => e = .returned (.int .i64 (if b then 1 else 0)) ∧ w = w' := by
  cases b
  · go_enter Try.func130, Try.ntmps130
    go_wp2_with fail
    go_ret
    exact ⟨rfl, rfl⟩
  · go_enter Try.func130, Try.ntmps130
    go_wp2_with fail
    go_ret
    exact ⟨rfl, rfl⟩
theorem ofL_good {f : Nat} {l : List (Int × Int)} (hg : gdB (f : Int) l = true) {x : Int} (h0 : 0 ≤ x) (h1 : x < (f : Int)) : ofL (f : Int) l x = tl (pOf x) f l l.length := by
  have h : whoB (f : Int) l x = true := by unfold whoB; rw [hg]; simp; omega
  unfold ofL; rw [if_pos h]; simp
theorem idleL_good {f : Nat} {l : List (Int × Int)} (hg : gdB (f : Int) l = true) : idleL (f : Int) l = tl pIdle f l l.length := by
  unfold idleL; rw [if_pos hg]; simp
theorem tl_mem (p : (Nat → Nat) → Int × Int → Bool) (F : Nat) (l : List (Int × Int)) (k x : Nat) (hx : x < k) : ((x : Int) ∈ tl p F l k) = (p (play F (l.take x)) (ca l x, cb l x) = true) := by
  unfold tl
  rw [eq_iff_iff]
  constructor
  · intro h
    rw [List.mem_map] at h
    obtain ⟨i, hi, e⟩ := h
    rw [List.mem_filter] at hi
    have e2 : i = x := by omega
    rw [← e2]; exact hi.2
  · intro h
    rw [List.mem_map]
    exact ⟨x, List.mem_filter.2 ⟨List.mem_range.2 hx, h⟩, rfl⟩
set_option maxRecDepth 20000 in
theorem m0_any (f : Nat) (ao : Option Addr) (cap : Nat) (l : List (Int × Int)) (n : Nat) (w : World) (Hn : Hid (n = l.length)) (hg : gdB (f : Int) l = true) (hc : CallsAt w ao l) (a : Int) (ha : 0 ≤ a ∧ a < (f : Int)) (k b d : Int) :
    Calls Try.prog 111 #[.agg #[.int .i64 (f : Int), .slice ao n cap], .agg #[.int .i64 k, .int .i64 a, .int .i64 b, .int .i64 d]] w fun e w' => e = .returned (.int .i64 ((tl (pOf a) f l l.length).length : Int)) ∧ Below w.heap.size w w' := by
  have hff := gd_fr hg
  have hn60 : n ≤ 60 := by rw [Hn.out]; exact gd_len' hg
  obtain ⟨W, hW, hbW, hsW, rX, rZ⟩ := box2 w #[.int .i64 (f : Int), .slice ao n cap] 87 #[.int .i64 k, .int .i64 a, .int .i64 b, .int .i64 d] 25
  have HW := Lib.hid hW
  have HcW := Lib.hid (hc.kept hbW)
  have c0 : W.cell? ⟨w.heap.size, 0, none⟩ = some (.int .i64 (f : Int)) := cell_of_row _ _ _ _ _ _ rX
  have c1 : W.cell? ⟨w.heap.size, 1, none⟩ = some (.slice ao n cap) := cell_of_row _ _ _ _ _ _ rX
  have d1 : W.cell? ⟨w.heap.size + 1, 1, none⟩ = some (.int .i64 a) := cell_of_row _ _ _ _ _ _ rZ
  have d2 : W.cell? ⟨w.heap.size + 1, 2, none⟩ = some (.int .i64 b) := cell_of_row _ _ _ _ _ _ rZ
  have HO := Lib.hid (callsWith_any W (f : Int) ao cap l n Hn (by omega) HcW.out a)
  rw [ofL_good hg ha.1 ha.2] at HO
  obtain ⟨K, hK⟩ : ∃ K, tl (pOf a) f l l.length = K := ⟨_, rfl⟩
  obtain ⟨M, hM⟩ : ∃ M, K.length = M := ⟨_, rfl⟩
  rw [hK] at HO ⊢
  rw [hM] at HO ⊢
  have HM : Hid (M = K.length) := hM.symm
  clear hK hM hW hg hc rX rZ
  go_enter Try.func111, Try.ntmps111
  go_wp2_with fail
  rw [HW.out]
  refine HO.out.mono ?_
  rintro e w2 ⟨v2, rfl, own2, hb2⟩
  obtain ⟨a2, c2, rfl, _⟩ := nums_shape own2 HM.out
  have HB := Lib.hid (hbW.trans (hb2.mono hbW.size))
  clear own2 hb2
  go_wp2_with fail
  go_ret
  exact ⟨rfl, HB.out⟩
set_option maxRecDepth 20000 in
theorem m2_any (f : Nat) (ao : Option Addr) (cap : Nat) (l : List (Int × Int)) (n : Nat) (w : World) (Hn : Hid (n = l.length)) (hg : gdB (f : Int) l = true) (hc : CallsAt w ao l) (x y : Nat) (hx : x < f) (hy : y < f) (k d : Int) :
    Calls Try.prog 113 #[.agg #[.int .i64 (f : Int), .slice ao n cap], .agg #[.int .i64 k, .int .i64 (x : Int), .int .i64 (y : Int), .int .i64 d]] w fun e w' => e = .returned (.int .i64 (if (play f l x).testBit y then 1 else 0)) ∧ Below w.heap.size w w' := by
  have hff := gd_fr hg
  have hn60 : n ≤ 60 := by rw [Hn.out]; exact gd_len' hg
  obtain ⟨W, hW, hbW, hsW, rX, rZ⟩ := box2 w #[.int .i64 (f : Int), .slice ao n cap] 87 #[.int .i64 k, .int .i64 (x : Int), .int .i64 (y : Int), .int .i64 d] 25
  have HW := Lib.hid hW
  have HcW := Lib.hid (hc.kept hbW)
  have c0 : W.cell? ⟨w.heap.size, 0, none⟩ = some (.int .i64 (f : Int)) := cell_of_row _ _ _ _ _ _ rX
  have c1 : W.cell? ⟨w.heap.size, 1, none⟩ = some (.slice ao n cap) := cell_of_row _ _ _ _ _ _ rX
  have d1 : W.cell? ⟨w.heap.size + 1, 1, none⟩ = some (.int .i64 (x : Int)) := cell_of_row _ _ _ _ _ _ rZ
  have d2 : W.cell? ⟨w.heap.size + 1, 2, none⟩ = some (.int .i64 (y : Int)) := cell_of_row _ _ _ _ _ _ rZ
  have HK := Lib.hid (fun (w1 : World) (h : CallsAt w1 ao l) => known_any f ao cap l n w1 Hn hg h)
  obtain ⟨s, hs⟩ : ∃ s, play f l = s := ⟨_, rfl⟩
  have hsm : s x < 1024 := by rw [← hs]; exact play_small f (by omega) l x
  rw [hs] at HK ⊢
  have hix := fun W1 => index_SL s W1 x (by omega)
  have hfd : ∀ W1, (Instr.field 133 (.agg (KA f s)) 1).run Try.prog W1 = .ok (.agg (SL s).toArray) W1 := fun W1 => by kernel_rfl
  have hhas := Lib.hid (fun W1 => has_any (s x) y W1 hsm (by omega))
  have hone := fun W1 => oneIf_any ((s x).testBit y) W1
  obtain ⟨J, hJ⟩ : ∃ J : Int, (if (s x).testBit y = true then (1 : Int) else 0) = J := ⟨_, rfl⟩
  rw [hJ] at hone ⊢
  have hone := Lib.hid hone
  clear hJ hW hs hg hc rX rZ
  go_enter Try.func113, Try.ntmps113
  go_wp2_with fail
  rw [HW.out]
  go_region_held3 (fun w' => w'.cell? ⟨w.heap.size, 0, none⟩ = some (.int .i64 (f : Int)) ∧ w'.cell? ⟨w.heap.size, 1, none⟩ = some (.slice ao n cap) ∧ w'.cell? ⟨w.heap.size + 1, 1, none⟩ = some (.int .i64 (x : Int)) ∧ w'.cell? ⟨w.heap.size + 1, 2, none⟩ = some (.int .i64 (y : Int)) ∧ CallsAt w' ao l ∧ Below W.heap.size W w')
    (first
      | exact ⟨c0, c1, d1, d2, HcW.out, (Below.refl _ _).drew⟩
      | (go_split_ands
         refine ⟨?_, ?_, ?_, ?_, ?_, ?_⟩
         all_goals first | assumption | exact cell_old hb2 (by assumption) | exact CallsAt.kept (by assumption) hb2 | exact Below.trans (by assumption) (hb2.mono (Below.size (by assumption))))
      | go_keep)
    (first
      | (go_at_call 128; (with_reducible refine (HK.out _ ?_).mono ?_); (go_split_ands; assumption); rintro e w5 ⟨rfl, hb2⟩)
      | (go_at_call 131; (with_reducible refine (hhas.out _).mono ?_); rintro e w6 ⟨rfl, rfl⟩)
      | (go_at_call 130; (with_reducible refine (hone.out _).mono ?_); rintro e w7 ⟨rfl, rfl⟩)
      | fail)
  rename_i hh
  have HB := Lib.hid (hbW.trans (hh.2.2.2.2.2.mono hbW.size))
  clear hh
  go_wp2_with fail
  go_ret
  exact ⟨rfl, HB.out⟩

set_option maxRecDepth 20000 in
theorem m3_any (f : Nat) (ao : Option Addr) (cap : Nat) (l : List (Int × Int)) (n : Nat) (w : World) (Hn : Hid (n = l.length)) (hg : gdB (f : Int) l = true) (hc : CallsAt w ao l) (hcap : n ≤ cap) (k a b d : Int) :
    Calls Try.prog 114 #[.agg #[.int .i64 (f : Int), .slice ao n cap], .agg #[.int .i64 k, .int .i64 a, .int .i64 b, .int .i64 d]] w fun e w' => e = .returned (.int .i64 ((tl pIdle f l l.length).length : Int)) ∧ Below w.heap.size w w' := by
  have hff := gd_fr hg
  have hn60 : n ≤ 60 := by rw [Hn.out]; exact gd_len' hg
  obtain ⟨W, hW, hbW, hsW, rX, rZ⟩ := box2 w #[.int .i64 (f : Int), .slice ao n cap] 87 #[.int .i64 k, .int .i64 a, .int .i64 b, .int .i64 d] 25
  have HW := Lib.hid hW
  have HcW := Lib.hid (hc.kept hbW)
  have c0 : W.cell? ⟨w.heap.size, 0, none⟩ = some (.int .i64 (f : Int)) := cell_of_row _ _ _ _ _ _ rX
  have c1 : W.cell? ⟨w.heap.size, 1, none⟩ = some (.slice ao n cap) := cell_of_row _ _ _ _ _ _ rX
  have d1 : W.cell? ⟨w.heap.size + 1, 1, none⟩ = some (.int .i64 a) := cell_of_row _ _ _ _ _ _ rZ
  have d2 : W.cell? ⟨w.heap.size + 1, 2, none⟩ = some (.int .i64 b) := cell_of_row _ _ _ _ _ _ rZ
  have HO := Lib.hid (implIdle_any W (f : Int) ao cap l n Hn (by omega) HcW.out hcap)
  rw [idleL_good hg] at HO
  obtain ⟨K, hK⟩ : ∃ K, tl pIdle f l l.length = K := ⟨_, rfl⟩
  obtain ⟨M, hM⟩ : ∃ M, K.length = M := ⟨_, rfl⟩
  rw [hK] at HO ⊢
  rw [hM] at HO ⊢
  have HM : Hid (M = K.length) := hM.symm
  clear hK hM hW hg hc rX rZ
  go_enter Try.func114, Try.ntmps114
  go_wp2_with fail
  rw [HW.out]
  refine HO.out.mono ?_
  rintro e w2 ⟨v2, rfl, own2, hb2⟩
  obtain ⟨a2, c2, rfl, _⟩ := nums_shape own2 HM.out
  have HB := Lib.hid (hbW.trans (hb2.mono hbW.size))
  clear own2 hb2
  go_wp2_with fail
  go_ret
  exact ⟨rfl, HB.out⟩
theorem contains_q (v : Value) (L : List Int) (x : Int) (w : World) (hn : L.length ≤ 1048576) (h : OwnL L v w) :
    Calls Try.prog 133 #[v, .int .i64 x] w fun e w' => e = .returned (.bool (decide (x ∈ L))) ∧ w = w' := by
  obtain ⟨base, h⟩ := h
  obtain ⟨ao, cap, rfl, hc⟩ := nums_shape h rfl
  exact contains_any ao cap L L.length x w rfl hn hc
set_option maxRecDepth 20000 in
theorem m4_any (f : Nat) (ao : Option Addr) (cap : Nat) (l : List (Int × Int)) (n : Nat) (w : World) (Hn : Hid (n = l.length)) (hg : gdB (f : Int) l = true) (hc : CallsAt w ao l) (x : Nat) (hx : x < n) (b : Int) (hb : 0 ≤ b ∧ b < (f : Int)) (k d : Int) :
    Calls Try.prog 115 #[.agg #[.int .i64 (f : Int), .slice ao n cap], .agg #[.int .i64 k, .int .i64 (x : Int), .int .i64 b, .int .i64 d]] w fun e w' => e = .returned (.int .i64 (if (ca l x == b || cb l x == b) then 1 else 0)) ∧ Below w.heap.size w w' := by
  have hff := gd_fr hg
  have hn60 : n ≤ 60 := by rw [Hn.out]; exact gd_len' hg
  obtain ⟨W, hW, hbW, hsW, rX, rZ⟩ := box2 w #[.int .i64 (f : Int), .slice ao n cap] 87 #[.int .i64 k, .int .i64 (x : Int), .int .i64 b, .int .i64 d] 25
  have HW := Lib.hid hW
  have HcW := Lib.hid (hc.kept hbW)
  have c0 : W.cell? ⟨w.heap.size, 0, none⟩ = some (.int .i64 (f : Int)) := cell_of_row _ _ _ _ _ _ rX
  have c1 : W.cell? ⟨w.heap.size, 1, none⟩ = some (.slice ao n cap) := cell_of_row _ _ _ _ _ _ rX
  have d1 : W.cell? ⟨w.heap.size + 1, 1, none⟩ = some (.int .i64 (x : Int)) := cell_of_row _ _ _ _ _ _ rZ
  have d2 : W.cell? ⟨w.heap.size + 1, 2, none⟩ = some (.int .i64 b) := cell_of_row _ _ _ _ _ _ rZ
  have HO := Lib.hid (fun (w1 : World) (h : CallsAt w1 ao l) => callsWith_any w1 (f : Int) ao cap l n Hn (by omega) h b)
  rw [ofL_good hg hb.1 hb.2] at HO
  have hlen := tl_le (pOf b) f l l.length
  have hmem := tl_mem (pOf b) f l l.length x (by rw [← Hn.out]; exact hx)
  have hI : (decide ((x : Int) ∈ tl (pOf b) f l l.length)) = (ca l x == b || cb l x == b) := by
    rw [Bool.eq_iff_iff, decide_eq_true_iff, hmem]; rfl
  obtain ⟨K, hK⟩ : ∃ K, tl (pOf b) f l l.length = K := ⟨_, rfl⟩
  rw [hK] at HO hlen hI
  have HCo := Lib.hid (fun (w1 : World) (v : Value) (h : OwnL K v w1) => contains_q v K (x : Int) w1 (by have := Hn.out; omega) h)
  rw [hI] at HCo
  obtain ⟨I, hIe⟩ : ∃ I, (ca l x == b || cb l x == b) = I := ⟨_, rfl⟩
  rw [hIe] at HCo ⊢
  have hone := fun W1 => oneIf_any I W1
  obtain ⟨J, hJ⟩ : ∃ J : Int, (if I = true then (1 : Int) else 0) = J := ⟨_, rfl⟩
  rw [hJ] at hone ⊢
  have hone := Lib.hid hone
  clear hJ hK hW hg hc rX rZ hlen hmem hI hIe
  go_enter Try.func115, Try.ntmps115
  go_wp2_with fail
  rw [HW.out]
  go_region_held3 (fun w' => w'.cell? ⟨w.heap.size, 0, none⟩ = some (.int .i64 (f : Int)) ∧ w'.cell? ⟨w.heap.size, 1, none⟩ = some (.slice ao n cap) ∧ w'.cell? ⟨w.heap.size + 1, 1, none⟩ = some (.int .i64 (x : Int)) ∧ w'.cell? ⟨w.heap.size + 1, 2, none⟩ = some (.int .i64 b) ∧ CallsAt w' ao l ∧ Below W.heap.size W w')
    (first
      | exact ⟨c0, c1, d1, d2, HcW.out, (Below.refl _ _).drew⟩
      | (go_split_ands
         refine ⟨?_, ?_, ?_, ?_, ?_, ?_⟩
         all_goals first | assumption | exact cell_old hb2 (by assumption) | exact CallsAt.kept (by assumption) hb2 | exact Below.trans (by assumption) (hb2.mono (Below.size (by assumption))))
      | go_keep)
    (first
      | (go_at_call 127; (with_reducible refine (HO.out _ ?_).mono ?_); (go_split_ands; assumption); rintro e w5 ⟨v5, rfl, own5, hb2⟩)
      | (go_at_call 133; (with_reducible refine (HCo.out _ _ ?_).mono ?_); (first | exact ⟨_, own5⟩ | exact ⟨_, own_later own5 hb2⟩ | fail); rintro e w6 ⟨rfl, rfl⟩)
      | (go_at_call 130; (with_reducible refine (hone.out _).mono ?_); rintro e w7 ⟨rfl, rfl⟩)
      | fail)
  rename_i hh
  have HB := Lib.hid (hbW.trans (hh.2.2.2.2.2.mono hbW.size))
  clear hh
  go_wp2_with fail
  go_ret
  exact ⟨rfl, HB.out⟩

set_option maxRecDepth 20000 in
theorem m5_any (f : Nat) (ao : Option Addr) (cap : Nat) (l : List (Int × Int)) (n : Nat) (w : World) (Hn : Hid (n = l.length)) (hg : gdB (f : Int) l = true) (hc : CallsAt w ao l) (k a b d : Int) :
    Calls Try.prog 116 #[.agg #[.int .i64 (f : Int), .slice ao n cap], .agg #[.int .i64 k, .int .i64 a, .int .i64 b, .int .i64 d]] w fun e w' => e = .returned (.int .i64 (cntTo (play f l) f : Int)) ∧ Below w.heap.size w w' := by
  have hff := gd_fr hg
  have hn60 : n ≤ 60 := by rw [Hn.out]; exact gd_len' hg
  obtain ⟨W, hW, hbW, hsW, rX, rZ⟩ := box2 w #[.int .i64 (f : Int), .slice ao n cap] 87 #[.int .i64 k, .int .i64 a, .int .i64 b, .int .i64 d] 25
  have HW := Lib.hid hW
  have HcW := Lib.hid (hc.kept hbW)
  have c0 : W.cell? ⟨w.heap.size, 0, none⟩ = some (.int .i64 (f : Int)) := cell_of_row _ _ _ _ _ _ rX
  have c1 : W.cell? ⟨w.heap.size, 1, none⟩ = some (.slice ao n cap) := cell_of_row _ _ _ _ _ _ rX
  have d1 : W.cell? ⟨w.heap.size + 1, 1, none⟩ = some (.int .i64 a) := cell_of_row _ _ _ _ _ _ rZ
  have d2 : W.cell? ⟨w.heap.size + 1, 2, none⟩ = some (.int .i64 b) := cell_of_row _ _ _ _ _ _ rZ
  have HK := Lib.hid (known_any f ao cap l n W Hn hg HcW.out)
  have HCt := Lib.hid (fun W1 => count_any (f : Int) (play f l) W1 (fun i => play_small f (by omega) l i))
  rw [cnt_ten hg] at HCt
  obtain ⟨V, hV⟩ : ∃ V, (cntTo (play f l) f) = V := ⟨_, rfl⟩
  rw [hV] at HCt ⊢
  clear hV hW hg hc rX rZ
  go_enter Try.func116, Try.ntmps116
  go_wp2_with fail
  rw [HW.out]
  refine HK.out.mono ?_
  rintro e w2 ⟨rfl, hb2⟩
  have HB := Lib.hid (hbW.trans (hb2.mono hbW.size))
  have hs2 := HB.out.size
  clear hb2
  go_wp2_with fail
  refine (HCt.out _).mono ?_
  rintro e w3 ⟨rfl, hb3⟩
  have HB3 := Lib.hid (HB.out.trans (hb3.mono hs2))
  clear hb3
  go_wp2_with fail
  go_ret
  exact ⟨rfl, HB3.out⟩

end Go.Proofs.Ytmgmkgjefplfdaa
