/- StepsTo, both sides. -/
import Derived.Test.YtghfkgbmmkcjhaaStpL
namespace Go.Proofs.Ytghfkgbmmkcjhaa
open Go.ChangeShapes Go.WideShapes Go.ChangeAt Go.RowKit
set_option linter.unusedVariables false


theorem sat_far {w : World} {b off i : Nat} {l : List Snd} (h : Sat3 w b off l i) {p : Addr} (hp : p.block ≠ b) (v : Value) : Sat3 (w.setCell p v) b off l i := by
  unfold Sat3 at h ⊢
  have e : ∀ j, (w.setCell p v).cell? ⟨b, j, none⟩ = w.cell? ⟨b, j, none⟩ := fun j => World.cell?_setCell_other _ _ _ _ (fun e => hp (by rw [e]))
  rw [e, e, e]; exact h
theorem lsn3 (l : List Snd) (i : Nat) : lsn l i = (sf l i, st l i, sm l i) := rfl
set_option maxHeartbeats 1600000 in
set_option maxRecDepth 20000 in
theorem implST_any (w : World) (d P : Int) (ao : Option Addr) (cap : Nat) (l : List Snd) (n : Nat) (Hn : Hid (n = l.length)) (hn : n ≤ 1048576) (hcap : n ≤ cap) (hc : SendsAt w ao l) (x : Int) :
    Calls Try.prog 45 #[.int .i64 d, .int .i64 P, .slice ao n cap, .int .i64 x] w fun e w' => e = .returned (.tuple #[.int .i64 (spR d P l x), .bool (spB d P l x)]) ∧ Below w.heap.size w w' := by
  have HX := Lib.hid (aof_any w d P ao cap l n Hn hn hcap hc)
  have HC := Lib.hid hc
  clear hc
  cases hA : arsB d P l
  · have hp : spB d P l x = false := by simp [spB, dpB, hA]
    have hR : spR d P l x = 0 := by unfold spR; rw [hp]; rfl
    rw [hR, hp]
    rw [hA] at HX
    clear hA hR hp
    go_enter Try.func45, Try.ntmps45
    go_wp2_with fail
    refine HX.out.mono ?_
    rintro e w1 ⟨F, rfl, _, hb1⟩
    go_wp2_with (refine wpList_store_row rfl 57 (.tmp 10) (.tmp 20) rfl w1.heap.size (AA F) ?_ ?_ 57 _ (heap_alloc_new w1 _) ?_ ?_ ?_ ?_)
    try any_goals first | exact AA_one _ | exact infoA2 | (rw [infoA, AA_size]; done) | (rw [AA_size]; rfl) | rfl
    go_ret2
    exact ⟨rfl, below_setRow (hb1.alloc hb1.size _) hb1.size _⟩
  · obtain ⟨⟨h1, h10⟩, ⟨Q, rfl, hQ1, hQ2⟩, h40, hv, h2⟩ := ars_parts hA
    rw [hA] at HX
    cases hx : decide (0 ≤ x ∧ x < (Q : Int))
    · have hp : spB d Q l x = false := by
        simp only [decide_eq_false_iff_not] at hx
        simp only [spB, dpB, hA, Bool.true_and, Bool.and_eq_false_iff, decide_eq_false_iff_not]
        left; omega
      have hR : spR d Q l x = 0 := by unfold spR; rw [hp]; rfl
      rw [hR, hp]
      have HXx := Lib.hid hx
      clear hA hR hp hx hv h40 h2
      go_enter Try.func45, Try.ntmps45
      go_wp2_with fail
      refine HX.out.mono ?_
      rintro e w1 ⟨F, rfl, _, hb1⟩
      go_wp2_with (refine wpList_store_row rfl 57 (.tmp 10) (.tmp 20) rfl w1.heap.size (AA F) ?_ ?_ 57 _ (heap_alloc_new w1 _) ?_ ?_ ?_ ?_)
      try any_goals first | exact AA_one _ | exact infoA2 | (rw [infoA, AA_size]; done) | (rw [AA_size]; rfl) | rfl
      refine (isPerson_any (Q : Int) x _).mono ?_
      rintro e w' ⟨rfl, rfl⟩
      rw [HXx.out]
      go_wp2_with fail
      go_ret2
      exact ⟨rfl, below_setRow (hb1.alloc hb1.size _) hb1.size _⟩
    · have HXx := Lib.hid hx
      simp only [decide_eq_true_eq] at hx
      obtain ⟨t, rfl⟩ := Int.eq_ofNat_of_zero_le hx.1
      have ht40 : t < 40 := by omega
      have hdp : dpB d Q l t = true := by
        simp only [dpB, hA, Bool.true_and, decide_eq_true_eq]
        omega
      have hsb : spB d Q l t = gotB l t := by rw [spB, hdp, Bool.true_and]
      have Hnev := Lib.hid (got_never h1 h10 hv (t : Int))
      have x0 : (0 : Int) ≤ (t : Int) := by omega
      have x40 : (t : Int) < 40 := by omega
      cases hg : gotB l t
      · rw [hg] at hsb Hnev
        have hR : spR d Q l t = 0 := by unfold spR; rw [hsb]; rfl
        rw [hR, hsb]
        clear hA hR hsb hx hv h40 h2 hdp hg
        go_enter Try.func45, Try.ntmps45
        go_wp2_with fail
        refine HX.out.mono ?_
        rintro e w1 ⟨F, rfl, hF, hb1⟩
        have Hrow : Hid (((w1.alloc (.cells ZA 57)).setRow w1.heap.size (AA F)).heap[w1.heap.size]? = some (.cells (AA F) 57 (0, 0))) := setRow_heap _ _ _ _ _ _ (heap_alloc_new w1 _)
        rw [ZA_eq] at Hrow
        have hc := cell_of_row _ w1.heap.size t _ _ _ Hrow.out
        rw [AA_get _ t ht40, hF trivial] at hc
        have hev : (fillA d befA l t == 71) = true := Hnev.out
        obtain ⟨y, hy⟩ : ∃ y, fillA d befA l t = y := ⟨_, rfl⟩
        rw [hy] at hc hev
        clear hF hy
        go_wp2_with (refine wpList_store_row rfl 57 (.tmp 10) (.tmp 20) rfl w1.heap.size (AA F) ?_ ?_ 57 _ (heap_alloc_new w1 _) ?_ ?_ ?_ ?_)
        try any_goals first | exact AA_one _ | exact infoA2 | (rw [infoA, AA_size]; done) | (rw [AA_size]; rfl) | rfl
        refine (isPerson_any (Q : Int) t _).mono ?_
        rintro e w' ⟨rfl, rfl⟩
        rw [HXx.out]
        go_wp2_with fail
        go_ret2
        exact ⟨rfl, below_setRow (hb1.alloc hb1.size _) hb1.size _⟩
      · rw [hg] at hsb Hnev
        obtain ⟨R, HR⟩ : ∃ R : Int, Hid (R = stZ (ordS l) t) := ⟨_, Lib.hid rfl⟩
        have hR : spR d Q l t = R := by unfold spR; rw [hsb, HR.out]; rfl
        rw [hR, hsb]
        have hn40 : n ≤ 1000 := by rw [Hn.out]; omega
        have hn4 : n ≤ 40 := by rw [Hn.out]; omega
        have HO := Lib.hid (fun u hu => inOrder_any u ao cap l n (Q : Int) hv Hn hn40 (Lib.hid (HC.out.kept hu)))
        have Hsd : Hid (∀ i, i < n → (0 ≤ sf (ordS l) i ∧ sf (ordS l) i < 40) ∧ (0 ≤ st (ordS l) i ∧ st (ordS l) i < 40)) := Lib.hid (fun i hi => by
          have := sd_parts (ok1_sd hv ((ordS_perm l).mem_iff.2 (lsn_mem (ordS l) i (by rw [ordS_length, ← Hn.out]; exact hi))))
          have e1 : (lsn (ordS l) i).fr = sf (ordS l) i := rfl
          have e2 : (lsn (ordS l) i).to = st (ordS l) i := rfl
          rw [e1, e2] at this
          omega)
        clear hA hR hsb hx hv h40 h2 hdp hg
        go_enter Try.func45, Try.ntmps45
        go_wp2_with fail
        refine HX.out.mono ?_
        rintro e w1 ⟨F, rfl, hF, hb1⟩
        have Hrow : Hid (((w1.alloc (.cells ZA 57)).setRow w1.heap.size (AA F)).heap[w1.heap.size]? = some (.cells (AA F) 57 (0, 0))) := setRow_heap _ _ _ _ _ _ (heap_alloc_new w1 _)
        rw [ZA_eq] at Hrow
        have hc := cell_of_row _ w1.heap.size t _ _ _ Hrow.out
        rw [AA_get _ t ht40, hF trivial] at hc
        have hev : (fillA d befA l t == 71) = false := Hnev.out
        obtain ⟨y, hy⟩ : ∃ y, fillA d befA l t = y := ⟨_, rfl⟩
        rw [hy] at hc hev
        have Hb2 := Lib.hid (below_setRow (hb1.alloc hb1.size (.cells (AA fun _ => 0) 57)) hb1.size (AA F))
        clear hF hy hb1
        go_wp2_with (refine wpList_store_row rfl 57 (.tmp 10) (.tmp 20) rfl w1.heap.size (AA F) ?_ ?_ 57 _ (heap_alloc_new w1 _) ?_ ?_ ?_ ?_)
        try any_goals first | exact AA_one _ | exact infoA2 | (rw [infoA, AA_size]; done) | (rw [AA_size]; rfl) | rfl
        refine (isPerson_any (Q : Int) t _).mono ?_
        rintro e w' ⟨rfl, rfl⟩
        rw [HXx.out]
        go_upto_region 5 with (fail)
        obtain ⟨W0, hW0⟩ : ∃ W0, ((w1.alloc (.cells ZA 57)).setRow w1.heap.size (AA F)) = W0 := ⟨_, rfl⟩
        have hb2 := Hb2.out
        have hW02 := hW0
        rw [ZA_eq] at hW0
        rw [show (AA fun _ => 0) = ZA from rfl, hW02] at hb2
        rw [hW0]
        have HZ := heap_alloc_new W0 (.cells ZA 56)
        have Hbz : Below w.heap.size w (W0.alloc (.cells ZA 56)) := hb2.alloc hb2.size _
        rw [ZA_eq] at HZ Hbz
        have hW1s : W0.heap.size = w1.heap.size + 1 := by rw [← hW02]; simp
        obtain ⟨B, hB⟩ : ∃ B, W0.heap.size = B := ⟨_, rfl⟩
        have hBw : w.heap.size ≤ B := by rw [← hB]; exact hb2.size
        have hBu : (W0.alloc (.cells #[.int .i64 0, .int .i64 0, .int .i64 0, .int .i64 0, .int .i64 0, .int .i64 0, .int .i64 0, .int .i64 0, .int .i64 0, .int .i64 0, .int .i64 0, .int .i64 0, .int .i64 0, .int .i64 0, .int .i64 0, .int .i64 0, .int .i64 0, .int .i64 0, .int .i64 0, .int .i64 0, .int .i64 0, .int .i64 0, .int .i64 0, .int .i64 0, .int .i64 0, .int .i64 0, .int .i64 0, .int .i64 0, .int .i64 0, .int .i64 0, .int .i64 0, .int .i64 0, .int .i64 0, .int .i64 0, .int .i64 0, .int .i64 0, .int .i64 0, .int .i64 0, .int .i64 0, .int .i64 0] 56)).heap.size = B + 1 := by rw [← hB]; simp
        rw [hB] at HZ
        rw [← hW1s, hB]
        obtain ⟨W1, hW1⟩ : ∃ W1, (W0.alloc (.cells #[.int .i64 0, .int .i64 0, .int .i64 0, .int .i64 0, .int .i64 0, .int .i64 0, .int .i64 0, .int .i64 0, .int .i64 0, .int .i64 0, .int .i64 0, .int .i64 0, .int .i64 0, .int .i64 0, .int .i64 0, .int .i64 0, .int .i64 0, .int .i64 0, .int .i64 0, .int .i64 0, .int .i64 0, .int .i64 0, .int .i64 0, .int .i64 0, .int .i64 0, .int .i64 0, .int .i64 0, .int .i64 0, .int .i64 0, .int .i64 0, .int .i64 0, .int .i64 0, .int .i64 0, .int .i64 0, .int .i64 0, .int .i64 0, .int .i64 0, .int .i64 0, .int .i64 0, .int .i64 0] 56)) = W1 := ⟨_, rfl⟩
        rw [hW1] at HZ Hbz hBu ⊢
        have HZ := Lib.hid HZ
        have Hbz := Lib.hid Hbz
        clear hb2 hW02 hW0 hB hW1s hW1 hc hev Hnev
        go_wp2_with fail
        refine (HO.out _ Hbz.out).mono ?_
        rintro e w2 ⟨v, rfl, own, hb2⟩
        rw [hBu] at own hb2
        have hb3 : Below w.heap.size w w2 := Hbz.out.trans (hb2.mono (by omega))
        have HRow2 : Hid (w2.heap[B]? = some (.cells (AA (stZ ((ordS l).take 0))) 56 (0, 0))) := Lib.hid ((hb2.block B (by omega)).trans HZ.out)
        obtain ⟨ao2, c2, rfl, hat, hz1, hz2⟩ := sown_shape own (by rw [ordS_length]; exact Hn.out)
        have hat2 : Hid (∀ i, i < n → ∃ b, ao2 = some ⟨b, 0, none⟩ ∧ Sat3 w2 b 0 (ordS l) i ∧ B < b) := Lib.hid (fun i hi => by
          rcases hat with h | ⟨b, off, h, hcc⟩
          · have := ordS_length l; rw [h] at this; have := Hn.out; simp at *; omega
          · obtain ⟨rfl, hbb⟩ := hz2 b off h
            exact ⟨b, h, hcc i (by rw [ordS_length, ← Hn.out]; exact hi), by omega⟩)
        obtain ⟨O, hO⟩ : ∃ O, ordS l = O := ⟨_, rfl⟩
        have HOl : Hid (O.length = n) := Lib.hid (by rw [← hO, ordS_length, Hn.out])
        rw [hO] at hat2 HRow2 HR Hsd
        have Hb3 := Lib.hid hb3
        clear own hat hO hz1 hz2 hb3 hb2 HZ Hbz HO
        go_wp2_with fail
        go_loopw [39] (fun i wr => ∃ k : Nat, k ≤ n ∧ i = .int .i64 k ∧ Hid (wr.heap[B]? = some (.cells (AA (stZ (O.take k))) 56 (0, 0))) ∧ Hid (∀ i, i < n → ∃ b, ao2 = some ⟨b, 0, none⟩ ∧ Sat3 wr b 0 O i ∧ B < b) ∧ Below w.heap.size w wr) (fun i _ => n - (intOf i).toNat)
        case atStart => exact ⟨0, Nat.zero_le _, rfl, HRow2, hat2, Hb3.out⟩
        case round =>
          clear HRow2 hat2 Hb3
          obtain ⟨k, hk, rfl, HK, Hat, hbel⟩ := hrel
          have hsz := hbel.size
          have hB1 : B < wr.heap.size := (Array.getElem?_eq_some_iff.1 HK.out).1
          by_cases hlt : k < n
          · have hkO : k < O.length := by rw [HOl.out]; exact hlt
            obtain ⟨b, rfl, hs3, hbB⟩ := Hat.out k hlt
            obtain ⟨e0, e1, e2⟩ := hs3
            rw [Nat.zero_add] at e0 e1 e2
            obtain ⟨⟨f0, f1⟩, t0, t1⟩ := Hsd.out k hlt
            have hst := stZ_take O k hkO
            rw [lsn3] at hst
            obtain ⟨fa, hfa⟩ := Int.eq_ofNat_of_zero_le f0
            obtain ⟨ta, hta⟩ := Int.eq_ofNat_of_zero_le t0
            obtain ⟨x2, hx2⟩ : ∃ y, sm O k = y := ⟨_, rfl⟩
            rw [hfa] at e0 f0 f1 hst
            rw [hta] at e1 t0 t1 hst
            rw [hx2] at e2 hst
            have ft40 : fa < 40 := by omega
            have tt40 : ta < 40 := by omega
            have HK2 : (wr.alloc (.cells #[.int .i64 (fa : Int), .int .i64 (ta : Int), .int .i64 x2] 52)).heap[B]? = some (.cells (AA (stZ (O.take k))) 56 (0, 0)) := (Below.heap_alloc wr _ _ hB1).trans HK.out
            have hcF := cell_of_row _ B fa _ _ _ HK2
            have hcT := cell_of_row _ B ta _ _ _ HK2
            have hfz := frozen_of_row _ B ta _ _ HK2
            rw [AA_get _ fa ft40] at hcF
            rw [AA_get _ ta tt40] at hcT
            have hrg := stZ_range (O.take k) fa
            have hlen : (O.take k).length ≤ 40 := by rw [List.length_take]; omega
            obtain ⟨S, hS⟩ : ∃ S, stZ (O.take k) fa = S := ⟨_, rfl⟩
            obtain ⟨S2, hS2⟩ : ∃ S, stZ (O.take k) ta = S := ⟨_, rfl⟩
            rw [hS] at hcF hrg
            rw [hS2] at hcT
            have hsz2 : (wr.setCell ⟨B, ta, none⟩ (.int .i64 (S + 1))).heap.size = wr.heap.size := by simp
            have HK3 : Hid (((wr.setCell ⟨B, ta, none⟩ (.int .i64 (S + 1))).alloc (.cells #[.int .i64 (fa : Int), .int .i64 (ta : Int), .int .i64 x2] 52)).drew.heap[B]? = some (.cells (AA (stZ (O.take (k + 1)))) 56 (0, 0))) := Lib.hid (by
              have h := heap_setCell_same _ _ ta _ _ (.int .i64 (S + 1)) HK.out
              rw [AA_set] at h
              rw [hst]
              have e : upS (stZ (O.take k)) ((fa : Int), (ta : Int), x2) = updA (stZ (O.take k)) ta (S + 1) := by
                funext y
                show (if y = (ta : Int) then stZ (O.take k) (fa : Int) + 1 else stZ (O.take k) y) = _
                rw [hS]; rfl
              rw [e]
              exact (Below.heap_alloc _ _ _ (by rw [hsz2]; exact hB1)).trans h)
            have Hat3 : Hid (∀ i, i < n → ∃ b', (some (⟨b, 0, none⟩ : Addr)) = some ⟨b', 0, none⟩ ∧ Sat3 ((wr.setCell ⟨B, ta, none⟩ (.int .i64 (S + 1))).alloc (.cells #[.int .i64 (fa : Int), .int .i64 (ta : Int), .int .i64 x2] 52)).drew b' 0 O i ∧ B < b') := Lib.hid (fun i hi => by
              obtain ⟨b', e', h', l'⟩ := Hat.out i hi
              have h1 := (sat_far h' (p := ⟨B, ta, none⟩) (by show B ≠ b'; omega) (.int .i64 (S + 1))).kept ((Below.refl _ _).alloc (Nat.le_refl _) (.cells #[.int .i64 (fa : Int), .int .i64 (ta : Int), .int .i64 x2] 52))
              exact ⟨b', e', h1, l'⟩)
            have Hb3 : Hid (Below w.heap.size w ((wr.setCell ⟨B, ta, none⟩ (.int .i64 (S + 1))).alloc (.cells #[.int .i64 (fa : Int), .int .i64 (ta : Int), .int .i64 x2] 52)).drew) := Lib.hid (((hbel.setCell (p := ⟨B, ta, none⟩) hBw _).alloc (by rw [hsz2]; exact hsz) _).drew)
            have hw1 : IntKind.i64.wrap (S + 1) = S + 1 := IntWalk.i64_in _ (by omega)
            have hk1 : (0 : Int) ≤ k := by omega
            have hk2 : (k : Int) < n := by omega
            clear HK Hat HK2 hbel hst hfa hta hx2 hS hS2 hrg hlen
            go_wp2_with fail
            go_region
            all_goals (try go_wp2_with fail)
            go_roundw
            case rel => exact ⟨k + 1, by omega, by go_num, HK3, Hat3, Hb3.out⟩
            case measure => simp [intOf]; omega
          · obtain rfl : k = n := by omega
            have hp : O.take k = O := List.take_of_length_le (by rw [HOl.out]; exact Nat.le_refl _)
            rw [hp] at HK
            have hcF := cell_of_row _ B t _ _ _ HK.out
            rw [AA_get _ t ht40, ← HR.out] at hcF
            have Hbel := Lib.hid hbel
            clear hp hbel
            go_wp2_with fail
            go_ret2
            exact ⟨rfl, Hbel.out⟩

set_option maxHeartbeats 1600000 in
set_option maxRecDepth 20000 in
theorem specST_any (w : World) (d P : Int) (ao : Option Addr) (cap : Nat) (l : List Snd) (n : Nat) (Hn : Hid (n = l.length)) (hn : n ≤ 1048576) (hcap : n ≤ cap) (hc : SendsAt w ao l) (x : Int) :
    Calls Try.prog 44 #[.int .i64 d, .int .i64 P, .slice ao n cap, .int .i64 x] w fun e w' => e = .returned (.tuple #[.int .i64 (spR d P l x), .bool (spB d P l x)]) ∧ Below w.heap.size w w' := by
  have HX := Lib.hid (dePerson_any w d P x ao cap l n Hn hn hcap hc)
  have Hat : Hid (∀ i, i < n → ∃ b off, ao = some ⟨b, off, none⟩ ∧ Sat3 w b off l i) := Lib.hid (fun i hi => by
    rcases hc with h | ⟨b, off, h, hcc⟩
    · have := Hn.out; rw [h] at this; simp at this; omega
    · exact ⟨b, off, h, hcc i (by rw [← Hn.out]; exact hi)⟩)
  clear hc
  cases hp : dpB d P l x
  · have hsb : spB d P l x = false := by simp [spB, hp]
    have hR : spR d P l x = 0 := by unfold spR; rw [hsb]; rfl
    rw [hR, hsb]
    rw [hp] at HX
    clear hR hp hsb
    go_enter Try.func44, Try.ntmps44
    go_wp2_with fail
    refine HX.out.mono ?_
    rintro e w1 ⟨rfl, hb1⟩
    go_wp2_with fail
    go_ret2
    exact ⟨rfl, hb1⟩
  · have hA : arsB d P l = true := by simp only [dpB, Bool.and_eq_true] at hp; exact hp.1
    obtain ⟨⟨h1, h10⟩, ⟨Q, rfl, hQ1, hQ2⟩, h40, hv, h2⟩ := ars_parts hA
    have hx2 := hp
    simp only [dpB, Bool.and_eq_true, decide_eq_true_eq] at hx2
    have hsb : spB d Q l x = gotB l x := by rw [spB, hp, Bool.true_and]
    have HV := Lib.hid hv
    have H2 := Lib.hid h2
    have hn4 : n ≤ 40 := by rw [Hn.out]; omega
    rw [hp] at HX
    cases hg : gotB l x
    · rw [hg] at hsb
      have hR : spR d Q l x = 0 := by unfold spR; rw [hsb]; rfl
      rw [hR, hsb]
      obtain ⟨hx0, hfk⟩ := nogot hg
      have hne : (x != 0) = true := by simpa using hx0
      have Hfx := Lib.hid hfk
      clear hA hp hsb hR hx2 hv h2 h40 hg hx0 hfk
      go_enter Try.func44, Try.ntmps44
      go_wp2_with fail
      refine HX.out.mono ?_
      rintro e w1 ⟨rfl, hb1⟩
      have Hb1 := Lib.hid hb1
      have hbw1 := hb1.size
      clear hb1
      go_wp2_with fail
      go_loopw [3, 10] (fun p c wr => p = .int .i64 x ∧ c = .int .i64 0 ∧ Below w.heap.size w wr) (fun _ _ _ => 0)
      case atStart => exact ⟨rfl, rfl, Hb1.out⟩
      case round =>
        obtain ⟨rfl, rfl, hbel⟩ := hrel
        have Hbel := Lib.hid hbel
        have hbw := hbel.size
        obtain ⟨p, hpx⟩ : ∃ p, p = x := ⟨_, rfl⟩
        rw [← hpx] at hne Hfx ⊢
        clear hbel hpx
        go_wp2_with fail
        go_loopw [11, 24] (fun f i wq => ∃ k : Nat, k ≤ n ∧ i = .int .i64 k ∧ f = .int .i64 (fk (l.take k) p) ∧ Below wr.heap.size wr wq) (fun _ i _ => n - (intOf i).toNat)
        case atStart => exact ⟨0, Nat.zero_le _, rfl, rfl, Below.refl _ _⟩
        case round =>
          obtain ⟨k, hk, rfl, rfl, hbq⟩ := hrel
          have hsq := hbq.size
          by_cases hlt : k < n
          · obtain ⟨b, off, rfl, hs3⟩ := Hat.out k hlt
            obtain ⟨e0, e1, e2⟩ := hs3.kept (Hbel.out.trans (hbq.mono hbw))
            obtain ⟨x0, hx0⟩ : ∃ y, sf l k = y := ⟨_, rfl⟩
            obtain ⟨x1, hx1⟩ : ∃ y, st l k = y := ⟨_, rfl⟩
            obtain ⟨x2, hx2⟩ : ∃ y, sm l k = y := ⟨_, rfl⟩
            have hfk := fk_take l p k (by rw [← Hn.out]; exact hlt)
            rw [hx0] at e0 hfk
            rw [hx1] at e1 hfk
            rw [hx2] at e2
            have Hfk := Lib.hid hfk
            have hp0 : (0 : Int) ≤ (k : Int) := by omega
            have hp1 : (k : Int) < (n : Int) := by omega
            have Hb9 := Lib.hid (hbq.alloc hsq (.cells #[.int .i64 x0, .int .i64 x1, .int .i64 x2] 52))
            clear hfk hs3 hx0 hx1 hx2 hbq
            by_cases hx : x1 = p
            · have hxe : (x1 == p) = true := by simpa using hx
              rw [if_pos hx] at Hfk
              clear hx
              go_wp2_with fail
              go_roundw
              case rel => exact ⟨k + 1, by omega, by go_num, by rw [Hfk.out], Hb9.out⟩
              case measure => simp [intOf]; omega
            · have hxe : (x1 == p) = false := by simpa using hx
              rw [if_neg hx] at Hfk
              clear hx
              go_wp2_with fail
              go_roundw
              case rel => exact ⟨k + 1, by omega, by go_num, by rw [Hfk.out], Hb9.out⟩
              case measure => simp [intOf]; omega
          · obtain rfl : k = n := by omega
            have hp : l.take k = l := List.take_of_length_le (by rw [Hn.out]; exact Nat.le_refl _)
            rw [hp]
            have Hb9 := Lib.hid (Hbel.out.trans (hbq.mono hbw))
            clear hp hbq
            rw [Hfx.out]
            go_wp2_with fail
            go_ret2
            exact ⟨rfl, Hb9.out⟩
    · rw [hg] at hsb
      obtain ⟨R, HR⟩ : ∃ R : Int, Hid (R = stZ (ordS l) x) := ⟨_, Lib.hid rfl⟩
      have hR : spR d Q l x = R := by unfold spR; rw [hsb, HR.out]; rfl
      rw [hR, hsb]
      have hR40 : 0 ≤ R ∧ R ≤ 40 := by
        have := stZ_range (ordS l) x
        rw [ordS_length] at this
        rw [HR.out]; omega
      have Hg := Lib.hid hg
      clear hA hp hsb hR hx2 hv h2 h40 hg
      go_enter Try.func44, Try.ntmps44
      go_wp2_with fail
      refine HX.out.mono ?_
      rintro e w1 ⟨rfl, hb1⟩
      have Hb1 := Lib.hid hb1
      have hbw1 := hb1.size
      clear hb1
      go_wp2_with fail
      go_loopw [3, 10] (fun p c wr => ∃ (q : Int) (cn : Nat), p = .int .i64 q ∧ c = .int .i64 (cn : Int) ∧ Hid (gotB l q = true) ∧ Hid ((cn : Int) + stZ (ordS l) q = R) ∧ Below w.heap.size w wr) (fun p _ _ => (stZ (ordS l) (intOf p)).toNat)
      case atStart => exact ⟨x, 0, rfl, rfl, Hg, Lib.hid (by rw [HR.out]; simp), Hb1.out⟩
      case round =>
        obtain ⟨p, cn, rfl, rfl, Hgp, Hcn, hbel⟩ := hrel
        have Hbel := Lib.hid hbel
        have hbw := hbel.size
        clear hbel
        by_cases h0 : p = 0
        · subst h0
          have hcR : (cn : Int) = R := by have := Hcn.out; rw [stZ_zero HV.out] at this; omega
          go_wp2_with fail
          go_ret2
          exact ⟨by first | rfl | (rw [hcR]; rfl), Hbel.out⟩
        · have hne : (p != 0) = true := by simpa using h0
          have hbk := back h1 HV.out H2.out h0 Hgp.out
          have hge := (stZ_range (ordS l) (fk l p)).1
          have hcn40 : (cn : Int) + 1 ≤ 40 := by have := Hcn.out; omega
          have Hbk := Lib.hid hbk
          clear hbk h0
          go_wp2_with fail
          go_loopw [11, 24] (fun f i wq => ∃ k : Nat, k ≤ n ∧ i = .int .i64 k ∧ f = .int .i64 (fk (l.take k) p) ∧ Below wr.heap.size wr wq) (fun _ i _ => n - (intOf i).toNat)
          case atStart => exact ⟨0, Nat.zero_le _, rfl, rfl, Below.refl _ _⟩
          case round =>
            obtain ⟨k, hk, rfl, rfl, hbq⟩ := hrel
            have hsq := hbq.size
            by_cases hlt : k < n
            · obtain ⟨b, off, rfl, hs3⟩ := Hat.out k hlt
              obtain ⟨e0, e1, e2⟩ := hs3.kept (Hbel.out.trans (hbq.mono hbw))
              obtain ⟨x0, hx0⟩ : ∃ y, sf l k = y := ⟨_, rfl⟩
              obtain ⟨x1, hx1⟩ : ∃ y, st l k = y := ⟨_, rfl⟩
              obtain ⟨x2, hx2⟩ : ∃ y, sm l k = y := ⟨_, rfl⟩
              have hfk := fk_take l p k (by rw [← Hn.out]; exact hlt)
              rw [hx0] at e0 hfk
              rw [hx1] at e1 hfk
              rw [hx2] at e2
              have Hfk := Lib.hid hfk
              have hp0 : (0 : Int) ≤ (k : Int) := by omega
              have hp1 : (k : Int) < (n : Int) := by omega
              have Hb9 := Lib.hid (hbq.alloc hsq (.cells #[.int .i64 x0, .int .i64 x1, .int .i64 x2] 52))
              clear hfk hs3 hx0 hx1 hx2 hbq
              by_cases hx : x1 = p
              · have hxe : (x1 == p) = true := by simpa using hx
                rw [if_pos hx] at Hfk
                clear hx
                go_wp2_with fail
                go_roundw
                case rel => exact ⟨k + 1, by omega, by go_num, by rw [Hfk.out], Hb9.out⟩
                case measure => simp [intOf]; omega
              · have hxe : (x1 == p) = false := by simpa using hx
                rw [if_neg hx] at Hfk
                clear hx
                go_wp2_with fail
                go_roundw
                case rel => exact ⟨k + 1, by omega, by go_num, by rw [Hfk.out], Hb9.out⟩
                case measure => simp [intOf]; omega
            · obtain rfl : k = n := by omega
              have hp : l.take k = l := List.take_of_length_le (by rw [Hn.out]; exact Nat.le_refl _)
              rw [hp]
              have Hb9 := Lib.hid (Hbel.out.trans (hbq.mono hbw))
              clear hp hbq
              have hfk0 := Hbk.out.1
              have Hfg := Lib.hid Hbk.out.2.1
              have Hfs := Lib.hid Hbk.out.2.2
              obtain ⟨q, hq⟩ : ∃ q, fk l p = q := ⟨_, rfl⟩
              rw [hq] at Hfg Hfs hfk0 hge ⊢
              have hnl : decide (q < 0) = false := decide_eq_false (by omega)
              have hw1 : IntKind.i64.wrap ((cn : Int) + 1) = (cn : Int) + 1 := IntWalk.i64_in _ (by omega)
              clear hq Hbk
              go_wp2_with fail
              go_roundw
              case rel => exact ⟨q, cn + 1, rfl, by go_num, Hfg, Lib.hid (by have := Hcn.out; have := Hfs.out; rw [Int.natCast_add]; omega), Hb9.out⟩
              case measure => simp only [intOf]; have := Hfs.out; omega

end Go.Proofs.Ytghfkgbmmkcjhaa
