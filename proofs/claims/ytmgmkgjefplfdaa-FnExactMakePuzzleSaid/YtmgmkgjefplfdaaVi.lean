/- What a clue tells of a list, by the program. -/
import Derived.Test.YtmgmkgjefplfdaaVs3
import Derived.Test.YtmgmkgjefplfdaaKd
namespace Go.Proofs.Ytmgmkgjefplfdaa
open Go.ChangeShapes Go.WideShapes Go.ChangeAt Go.RowKit
set_option linter.unusedVariables false


set_option maxRecDepth 20000 in
theorem known_any (f : Nat) (ao : Option Addr) (cap : Nat) (l : List (Int × Int)) (n : Nat) (w : World) (Hn : Hid (n = l.length)) (hg : gdB (f : Int) l = true) (hc : CallsAt w ao l) :
    Calls Try.prog 128 #[.agg #[.int .i64 (f : Int), .slice ao n cap]] w fun e w' => e = .returned (.agg (KA f (play f l))) ∧ Below w.heap.size w w' := by
  obtain ⟨W, hW, hbW, hsW, rX, rZ⟩ := box2 w #[.int .i64 (f : Int), .slice ao n cap] 87 #[.int .i64 0, .int .u16 0, .int .u16 0, .int .u16 0, .int .u16 0, .int .u16 0, .int .u16 0, .int .u16 0, .int .u16 0, .int .u16 0, .int .u16 0] 133
  have HK := Lib.hid (knowledgeBehind_any f ao cap l n W Hn hg (hc.kept hbW))
  have HW := Lib.hid hW
  have HbW := Lib.hid hbW
  have rZ2 : W.heap[w.heap.size + 1]? = some (.cells ZA 133 (0, 0)) := rZ
  have HrZ := Lib.hid rZ2
  have c0 : W.cell? ⟨w.heap.size, 0, none⟩ = some (.int .i64 (f : Int)) := cell_of_row _ _ _ _ _ _ rX
  have c1 : W.cell? ⟨w.heap.size, 1, none⟩ = some (.slice ao n cap) := cell_of_row _ _ _ _ _ _ rX
  clear hW hg hc rX rZ rZ2 hbW
  go_enter Try.func128, Try.ntmps128
  go_wp2_with fail
  rw [HW.out]
  refine HK.out.mono ?_
  rintro e w2 ⟨rfl, hb2⟩
  have HZ2 : Hid (w2.heap[w.heap.size + 1]? = some (.cells ZA 133 (0, 0))) := range_below HrZ.out hb2
  have HH2 : Hid (Below w.heap.size w w2) := HbW.out.trans (hb2.mono HbW.out.size)
  clear hb2
  go_wp2_with (with_reducible refine wpList_store_row rfl 133 (.tmp 2) (.tmp 7) rfl (w.heap.size + 1) (KA f (play f l)) ?v1 ?v2 133 _ HZ2.out ?v3 ?v4 ?v5 ?_)
  any_goals first | rfl | (rw [info133, KA_size]; done) | (rw [KA_size]; rfl) | exact KA_one _ _
  refine bodyPost_ret (results_cell_row rfl _ _ (w.heap.size + 1) 133 _ (0, 0) _ rfl (setRow_heap _ _ _ _ _ _ HZ2.out) Try.underlying133 rfl ?_) rfl ⟨rfl, below_setRow HH2.out (by omega) _⟩
  rw [info133, KA_size]
set_option maxRecDepth 20000 in
theorem callsWith_any (w : World) (f : Int) (ao : Option Addr) (cap : Nat) (l : List (Int × Int)) (n : Nat) (Hn : Hid (n = l.length)) (hs : n ≤ 1048576) (Hc : CallsAt w ao l) (x : Int) :
    Calls Try.prog 127 #[.agg #[.int .i64 f, .slice ao n cap], .int .i64 x] w fun e w' => ∃ v, e = .returned v ∧ w'.ownsRow w.heap.size 3 1 v (ofL f l x).length (ns (ofL f l x)) ∧ Below w.heap.size w w' := by
  obtain ⟨W, hW, hbW, hsW, rX⟩ := box1 w #[.int .i64 f, .slice ao n cap] 87
  have HO := Lib.hid (implOf_any W f ao cap l n Hn hs (Hc.kept hbW) x)
  have HW := Lib.hid hW
  have HbW := Lib.hid hbW
  clear hW Hc rX hbW
  obtain ⟨M, hM⟩ : ∃ M, (ofL f l x).length = M := ⟨_, rfl⟩
  obtain ⟨K, hK⟩ : ∃ K, ofL f l x = K := ⟨_, rfl⟩
  rw [hK] at hM HO ⊢
  rw [hM] at HO ⊢
  clear hK hM
  go_enter Try.func127, Try.ntmps127
  go_wp2_with fail
  rw [HW.out]
  refine HO.out.mono ?_
  rintro e w2 ⟨v2, rfl, own2, hb2⟩
  have HO2 := Lib.hid (own_base HbW.out.size own2)
  have HB := Lib.hid (HbW.out.trans (hb2.mono HbW.out.size))
  clear own2 hb2
  go_wp2_with fail
  go_ret
  exact ⟨_, rfl, HO2.out, HB.out⟩
set_option maxRecDepth 20000 in
theorem m1_any (f : Nat) (ao : Option Addr) (cap : Nat) (l : List (Int × Int)) (n : Nat) (w : World) (Hn : Hid (n = l.length)) (hg : gdB (f : Int) l = true) (hc : CallsAt w ao l) (x : Nat) (hx : x < f) (k b d : Int) :
    Calls Try.prog 112 #[.agg #[.int .i64 (f : Int), .slice ao n cap], .agg #[.int .i64 k, .int .i64 (x : Int), .int .i64 b, .int .i64 d]] w fun e w' => e = .returned (.int .i64 (pc (play f l x) : Int)) ∧ Below w.heap.size w w' := by
  have hff := gd_fr hg
  obtain ⟨W, hW, hbW, hsW, rX, rZ⟩ := box2 w #[.int .i64 (f : Int), .slice ao n cap] 87 #[.int .i64 k, .int .i64 (x : Int), .int .i64 b, .int .i64 d] 25
  have HK := Lib.hid (fun (w1 : World) (h : CallsAt w1 ao l) => known_any f ao cap l n w1 Hn hg h)
  have HW := Lib.hid hW
  have HcW := Lib.hid (hc.kept hbW)
  have c0 : W.cell? ⟨w.heap.size, 0, none⟩ = some (.int .i64 (f : Int)) := cell_of_row _ _ _ _ _ _ rX
  have c1 : W.cell? ⟨w.heap.size, 1, none⟩ = some (.slice ao n cap) := cell_of_row _ _ _ _ _ _ rX
  have d1 : W.cell? ⟨w.heap.size + 1, 1, none⟩ = some (.int .i64 (x : Int)) := cell_of_row _ _ _ _ _ _ rZ
  obtain ⟨s, hs⟩ : ∃ s, play f l = s := ⟨_, rfl⟩
  have hsm : s x < 1024 := by rw [← hs]; exact play_small f (by omega) l x
  rw [hs] at HK ⊢
  have hix := fun W1 => index_SL s W1 x (by omega)
  have hfd : ∀ W1, (Instr.field 133 (.agg (KA f s)) 1).run Try.prog W1 = .ok (.agg (SL s).toArray) W1 := fun W1 => by kernel_rfl
  have hcnt := Lib.hid (fun W1 => setCount_any (s x) W1 hsm)
  clear hW hs hg hc rX rZ
  go_enter Try.func112, Try.ntmps112
  go_wp2_with fail
  rw [HW.out]
  go_region_held3 (fun w' => w'.cell? ⟨w.heap.size, 0, none⟩ = some (.int .i64 (f : Int)) ∧ w'.cell? ⟨w.heap.size, 1, none⟩ = some (.slice ao n cap) ∧ w'.cell? ⟨w.heap.size + 1, 1, none⟩ = some (.int .i64 (x : Int)) ∧ CallsAt w' ao l ∧ Below W.heap.size W w')
    (first
      | exact ⟨c0, c1, d1, HcW.out, (Below.refl _ _).drew⟩
      | (go_split_ands
         refine ⟨?_, ?_, ?_, ?_, ?_⟩
         all_goals first | assumption | exact cell_old hb2 (by assumption) | exact CallsAt.kept (by assumption) hb2 | exact Below.trans (by assumption) (hb2.mono (Below.size (by assumption))))
      | go_keep)
    (first
      | (go_at_call 128; (with_reducible refine (HK.out _ ?_).mono ?_); (go_split_ands; assumption); rintro e w5 ⟨rfl, hb2⟩)
      | (go_at_call 129; (with_reducible refine (hcnt.out _).mono ?_); rintro e w6 ⟨rfl, hb2⟩)
      | fail)
  rename_i hh
  have HB := Lib.hid (hbW.trans (hh.2.2.2.2.mono hbW.size))
  clear hh
  go_wp2_with fail
  go_ret
  exact ⟨rfl, HB.out⟩

end Go.Proofs.Ytmgmkgjefplfdaa
