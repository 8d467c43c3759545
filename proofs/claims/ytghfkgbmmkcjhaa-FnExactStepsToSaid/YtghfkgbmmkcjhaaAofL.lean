/- Whether these are sends: the pure part; one send looked at, its world. -/
import Derived.Test.YtghfkgbmmkcjhaaAbyZ
import Derived.Test.YtghfkgbmmkcjhaaInO
import Derived.Test.YtghfkgbmmkcjhaaArC2
import Derived.Test.YtghfkgbmmkcjhaaDeAL
namespace Go.Proofs.Ytghfkgbmmkcjhaa
open Go.ChangeShapes Go.WideShapes Go.ChangeAt Go.RowKit
set_option linter.unusedVariables false


/-- Whether these are a delay, a number of people and sends of them. -/
def arsB (d P : Int) (l : List Snd) : Bool := deB d && (peB P && arB d P l)
theorem small_of {d P : Int} {l : List Snd} (hd : 1 ≤ d ∧ d ≤ 10) (hP : P ≤ 40) (hv : ok1B P l = true) : SmallS d (ordS l) ∧ SmallF (ordS l) := by
  have key : ∀ i, i < (ordS l).length → sdB P (lsn (ordS l) i) = true := fun i hi => ok1_sd hv ((ordS_perm l).mem_iff.2 (lsn_mem _ _ hi))
  constructor
  · intro i hi
    have := sd_parts (key i hi)
    have h1 : 0 ≤ st (ordS l) i ∧ st (ordS l) i < P := this.2.1
    have h2 : 0 ≤ sm (ordS l) i ∧ sm (ordS l) i ≤ 60 := this.2.2.1
    omega
  · intro i hi
    have := sd_parts (key i hi)
    have h1 : 0 ≤ sf (ordS l) i ∧ sf (ordS l) i < P := this.1
    omega
theorem all_ok2 {d P : Int} {l : List Snd} (hd : 1 ≤ d ∧ d ≤ 10) (hP : P ≤ 40) (hv : ok1B P l = true) : ((List.range 40).all fun (i : Nat) => mkA d befA (ordS l) i == fillA d befA (ordS l) i) = ok2B d l := by
  rw [Bool.eq_iff_iff, all40]
  exact made_iff hd.1 hd.2 hv (ordS_perm l) (ordS_at l) 40 hP
theorem infoA2 : ∃ a, Try.prog.info? 57 = some a ∧ a.size = 40 := by
  have h := infoA
  rw [Option.map_eq_some_iff] at h
  exact h
theorem zero_one : (#[.int .i64 0, .int .i64 0, .int .i64 0, .int .i64 0, .int .i64 0, .int .i64 0, .int .i64 0, .int .i64 0, .int .i64 0, .int .i64 0, .int .i64 0, .int .i64 0, .int .i64 0, .int .i64 0, .int .i64 0, .int .i64 0, .int .i64 0, .int .i64 0, .int .i64 0, .int .i64 0, .int .i64 0, .int .i64 0, .int .i64 0, .int .i64 0, .int .i64 0, .int .i64 0, .int .i64 0, .int .i64 0, .int .i64 0, .int .i64 0, .int .i64 0, .int .i64 0, .int .i64 0, .int .i64 0, .int .i64 0, .int .i64 0, .int .i64 0, .int .i64 0, .int .i64 0, .int .i64 0] : Array Value).all (·.oneCell') = true := AA_one fun _ => 0
set_option maxRecDepth 20000 in
theorem isSend_al (P a b c : Int) (w : World) : Calls Try.prog 75 #[.int .i64 P, .agg #[.int .i64 a, .int .i64 b, .int .i64 c]] w fun e w' => e = .returned (.bool (sdB P (a, b, c))) ∧ w.alloc (.cells #[.int .i64 a, .int .i64 b, .int .i64 c] 52) = w' := by
  cases h1 : decide (0 ≤ a ∧ a < P)
  · have hR : sdB P (a, b, c) = false := by simp only [sdB, h1, Bool.false_and]
    have H1 := Lib.hid h1
    rw [hR]
    clear h1 hR
    go_enter Try.func75, Try.ntmps75
    go_wp2_with fail
    refine (isPerson_any P a _).mono ?_
    rintro e w' ⟨rfl, rfl⟩
    rw [H1.out]
    go_wp2_with fail
    go_ret
    exact ⟨rfl, rfl⟩
  · cases h2 : decide (0 ≤ b ∧ b < P)
    · have hR : sdB P (a, b, c) = false := by simp only [sdB, h1, h2, Bool.false_and, Bool.and_false]
      have H1 := Lib.hid h1
      have H2 := Lib.hid h2
      rw [hR]
      clear h1 h2 hR
      go_enter Try.func75, Try.ntmps75
      go_wp2_with fail
      refine (isPerson_any P a _).mono ?_
      rintro e w' ⟨rfl, rfl⟩
      rw [H1.out]
      go_wp2_with fail
      refine (isPerson_any P b _).mono ?_
      rintro e w' ⟨rfl, rfl⟩
      rw [H2.out]
      go_wp2_with fail
      go_ret
      exact ⟨rfl, rfl⟩
    · cases h3 : miB c
      · have hR : sdB P (a, b, c) = false := by
          have : decide (0 ≤ c ∧ c ≤ 60) = false := h3
          simp only [sdB, this, Bool.false_and, Bool.and_false]
        have H1 := Lib.hid h1
        have H2 := Lib.hid h2
        have H3 := Lib.hid h3
        rw [hR]
        clear h1 h2 h3 hR
        go_enter Try.func75, Try.ntmps75
        go_wp2_with fail
        refine (isPerson_any P a _).mono ?_
        rintro e w' ⟨rfl, rfl⟩
        rw [H1.out]
        go_wp2_with fail
        refine (isPerson_any P b _).mono ?_
        rintro e w' ⟨rfl, rfl⟩
        rw [H2.out]
        go_wp2_with fail
        refine (isMinute_any c _).mono ?_
        rintro e w' ⟨rfl, rfl⟩
        rw [H3.out]
        go_wp2_with fail
        go_ret
        exact ⟨rfl, rfl⟩
      · have hR : sdB P (a, b, c) = (b != a && b != 0) := by
          have : decide (0 ≤ c ∧ c ≤ 60) = true := h3
          simp only [sdB, h1, h2, this, Bool.true_and]
        have H1 := Lib.hid h1
        have H2 := Lib.hid h2
        have H3 := Lib.hid h3
        rw [hR]
        clear h1 h2 h3 hR
        cases h4 : b != a
        · go_enter Try.func75, Try.ntmps75
          go_wp2_with fail
          refine (isPerson_any P a _).mono ?_
          rintro e w' ⟨rfl, rfl⟩
          rw [H1.out]
          go_wp2_with fail
          refine (isPerson_any P b _).mono ?_
          rintro e w' ⟨rfl, rfl⟩
          rw [H2.out]
          go_wp2_with fail
          refine (isMinute_any c _).mono ?_
          rintro e w' ⟨rfl, rfl⟩
          rw [H3.out]
          go_wp2_with fail
          go_ret
          exact ⟨rfl, rfl⟩
        · cases h5 : b != 0
          all_goals
            go_enter Try.func75, Try.ntmps75
            go_wp2_with fail
            refine (isPerson_any P a _).mono ?_
            rintro e w' ⟨rfl, rfl⟩
            rw [H1.out]
            go_wp2_with fail
            refine (isPerson_any P b _).mono ?_
            rintro e w' ⟨rfl, rfl⟩
            rw [H2.out]
            go_wp2_with fail
            refine (isMinute_any c _).mono ?_
            rintro e w' ⟨rfl, rfl⟩
            rw [H3.out]
            go_wp2_with fail
            go_ret
            exact ⟨rfl, rfl⟩


theorem isSend_grown (P a b c : Int) (w : World) : Calls Try.prog 75 #[.int .i64 P, .agg #[.int .i64 a, .int .i64 b, .int .i64 c]] w fun e w' => e = .returned (.bool (sdB P (a, b, c))) ∧ ∃ q os', w' = Sort.grow (w.drewN q) os' := by
  refine (isSend_al P a b c w).mono ?_
  rintro e w' ⟨he, hw⟩
  refine ⟨he, 0, #[.cells #[.int .i64 a, .int .i64 b, .int .i64 c] 52], ?_⟩
  rw [← hw, Sort.alloc_eq_grow]
  rfl
theorem mixedT : Try.prog.follows .mixedOrders = true := by kernel_rfl
theorem cell_grown {W : World} {p : Addr} {v : Value} (hb : p.block < W.heap.size) (h : W.cell? p = some v) : ∀ n os, (Sort.grow (W.drewN n) os).cell? p = some v := fun n os => ((grown_below ⟨⟨n, os⟩, rfl⟩).cell hb).trans h

end Go.Proofs.Ytghfkgbmmkcjhaa
