/- LastArrival, both sides. -/
import Derived.Test.YtghfkgbmmkcjhaaLaL
namespace Go.Proofs.Ytghfkgbmmkcjhaa
open Go.ChangeShapes Go.WideShapes Go.ChangeAt Go.RowKit
set_option linter.unusedVariables false


theorem wpList_load_rowG {P : Program} {ops : Array Oper} {rest : List Oper} {o : Oper} {a : Act} {w : World} {Q : Exit → Act → World → Prop} (hw : Region.wanted o (yielded ops a.tmps) = true) (ty : TypeId) (x : Operand) (ho : o.op = .load ty x)
    (g : Nat) (hx : a.eval x = .pointer (some ⟨g, 0, none⟩)) (t : TypeId) (cs : Array Value) (fr : Nat × Nat) (d : TypeDesc) (hg : w.heap[g]? = some (.cells cs t fr))
    (hu : P.underlying ty = some d) (hd : (match d with | .struct _ | .array _ _ => true | _ => false) = true) (hi : (P.info? ty).map (·.size) = some cs.size)
    (h : wpList P ops Q rest (a.put o.dst (.agg cs)) w) : wpList P ops Q (o :: rest) a w :=
  wpList_step fun K hK => by simp only [hw, if_true]; exact wp_load_row ty x ho g hx t cs fr d hg hu hd hi (hK _ _ h)
set_option maxHeartbeats 400000 in
set_option maxRecDepth 20000 in
theorem implLA_any (w : World) (d P : Int) (ao : Option Addr) (cap : Nat) (l : List Snd) (n : Nat) (Hn : Hid (n = l.length)) (hn : n ≤ 1048576) (hcap : n ≤ cap) (hc : SendsAt w ao l) :
    Calls Try.prog 39 #[.int .i64 d, .int .i64 P, .slice ao n cap] w fun e w' => e = .returned (.tuple #[.int .i64 (laR d P l), .bool (laB d P l)]) ∧ Below w.heap.size w w' := by
  have HX := Lib.hid (aof_any w d P ao cap l n Hn hn hcap hc)
  clear hc
  cases hA : arsB d P l
  · have hB : laB d P l = false := by simp [laB, hA]
    have hR : laR d P l = 0 := by unfold laR; rw [hB]; rfl
    rw [hR, hB]
    rw [hA] at HX
    clear hA hR hB
    go_enter Try.func39, Try.ntmps39
    go_wp2_with fail
    refine HX.out.mono ?_
    rintro e w1 ⟨F, rfl, _, hb1⟩
    go_wp2_with (refine wpList_store_row rfl 57 (.tmp 8) (.tmp 15) rfl w1.heap.size (AA F) ?_ ?_ 57 _ (heap_alloc_new w1 _) ?_ ?_ ?_ ?_)
    try any_goals first | exact AA_one _ | exact infoA2 | (rw [infoA, AA_size]; done) | (rw [AA_size]; rfl) | rfl
    go_ret2
    exact ⟨rfl, below_setRow (hb1.alloc hb1.size _) hb1.size _⟩
  · have HA := Lib.hid hA
    obtain ⟨hd, ⟨Q, rfl, hQ1, hQ2⟩, h40, hv, h2⟩ := ars_parts hA
    rw [hA] at HX
    clear hv h2
    obtain ⟨rB, HB⟩ : ∃ r : Bool, Hid (r = laB d Q l) := ⟨_, Lib.hid rfl⟩
    obtain ⟨rR, HR⟩ : ∃ r : Int, Hid (r = laR d Q l) := ⟨_, Lib.hid rfl⟩
    rw [← HB.out, ← HR.out]
    go_enter Try.func39, Try.ntmps39
    go_wp2_with fail
    refine HX.out.mono ?_
    rintro e w1 ⟨F, rfl, hF, hb1⟩
    have Hrow : Hid (((w1.alloc (.cells ZA 57)).setRow w1.heap.size (AA F)).heap[w1.heap.size]? = some (.cells (AA F) 57 (0, 0))) := setRow_heap _ _ _ _ _ _ (heap_alloc_new w1 _)
    rw [ZA_eq] at Hrow
    have HM := Lib.hid (fun u => last_any F Q u hQ1 hQ2)
    have Hb2 := Lib.hid (below_setRow (hb1.alloc hb1.size (.cells (AA fun _ => 0) 57)) hb1.size (AA F))
    have hla := la_yes hA F (hF trivial)
    rw [← HB.out, ← HR.out] at hla
    clear HB HR
    rcases hla with ⟨e1, e2, e3⟩ | ⟨e1, e2, e3⟩
    · obtain ⟨m, hm⟩ : ∃ m, mxF F (Q - 1) = m := ⟨_, rfl⟩
      rw [hm] at HM e3 e2
      have E1 := Lib.hid e1
      have E2 := Lib.hid e2
      have hne : (m == 71) = false := by simpa using e3
      clear hF hb1 e1 e2 hm e3
      go_wp2_with (first | (refine wpList_store_row rfl 57 (.tmp 8) (.tmp 15) rfl w1.heap.size (AA F) ?_ ?_ 57 _ (heap_alloc_new w1 _) ?_ ?_ ?_ ?_) | (refine wpList_load_rowG rfl 57 (.tmp 8) rfl w1.heap.size ?_ 57 (AA F) (0, 0) _ Hrow.out Try.underlying57 rfl ?_ ?_))
      try any_goals first | exact AA_one _ | exact infoA2 | (rw [infoA, AA_size]; done) | (rw [AA_size]; rfl) | rfl
      refine (HM.out _).mono ?_
      rintro e w2 ⟨rfl, hb3⟩
      have Hrow2 := Lib.hid ((hb3.block _ (Array.getElem?_eq_some_iff.1 Hrow.out).1).trans Hrow.out)
      have Hb3 := Lib.hid (Hb2.out.trans (hb3.mono Hb2.out.size))
      clear hb3
      go_wp2_with (refine wpList_load_row rfl 57 (.tmp 8) rfl w1.heap.size ?_ 57 (AA F) (0, 0) _ Hrow2.out Try.underlying57 rfl ?_ ?_)
      try any_goals first | exact AA_one _ | exact infoA2 | (rw [infoA, AA_size]; done) | (rw [AA_size]; rfl) | rfl
      refine (HM.out _).mono ?_
      rintro e w3 ⟨rfl, hb4⟩
      have Hb4 := Lib.hid (Hb3.out.trans (hb4.mono Hb3.out.size))
      clear hb4
      go_wp2_with fail
      go_ret2
      exact ⟨by rw [E1.out, E2.out]; rfl, Hb4.out⟩
    · rw [e3] at HM
      have E1 := Lib.hid e1
      have E2 := Lib.hid e2
      clear hF hb1 e1 e2 e3
      go_wp2_with (first | (refine wpList_store_row rfl 57 (.tmp 8) (.tmp 15) rfl w1.heap.size (AA F) ?_ ?_ 57 _ (heap_alloc_new w1 _) ?_ ?_ ?_ ?_) | (refine wpList_load_rowG rfl 57 (.tmp 8) rfl w1.heap.size ?_ 57 (AA F) (0, 0) _ Hrow.out Try.underlying57 rfl ?_ ?_))
      try any_goals first | exact AA_one _ | exact infoA2 | (rw [infoA, AA_size]; done) | (rw [AA_size]; rfl) | rfl
      refine (HM.out _).mono ?_
      rintro e w2 ⟨rfl, hb3⟩
      have Hb3 := Lib.hid (Hb2.out.trans (hb3.mono Hb2.out.size))
      clear hb3
      go_wp2_with fail
      go_ret2
      exact ⟨by rw [E1.out, E2.out]; rfl, Hb3.out⟩

end Go.Proofs.Ytghfkgbmmkcjhaa
