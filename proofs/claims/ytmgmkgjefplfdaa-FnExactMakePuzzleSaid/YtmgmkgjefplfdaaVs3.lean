/- Whether a list fits a clue, by the model. -/
import Derived.Test.YtmgmkgjefplfdaaVs2
import Derived.Test.YtmgmkgjefplfdaaHlS
import Derived.Test.YtmgmkgjefplfdaaBox
namespace Go.Proofs.Ytmgmkgjefplfdaa
open Go.ChangeShapes Go.WideShapes Go.ChangeAt Go.RowKit
set_option linter.unusedVariables false


theorem good_in {F : Nat} {l : List (Int × Int)} (hF : 2 ≤ F ∧ F ≤ 4) (hl : l.length ≤ 3) (h : callsIn F l) : gdB (F : Int) l = true := by
  have h1 : frB (F : Int) = true := by simp [frB]; omega
  have h2 : (l.all fun c => calB (F : Int) c.1 c.2) = true := by
    rw [List.all_eq_true]
    intro c hc
    have := h c hc
    simp [calB]; omega
  unfold gdB
  rw [h1, h2]
  simp; omega
theorem in_good {F : Nat} {l : List (Int × Int)} (h : gdB (F : Int) l = true) : callsIn F l := fun x hx => by
  simp only [gdB, Bool.and_eq_true, List.all_eq_true] at h
  have := h.2 x hx
  simp [calB] at this
  omega
/-- What a clue asks of a list. -/
def pf (F : Nat) (c : Clu) (l : List (Int × Int)) : Bool := vlB F l c.1 c.2.1 c.2.2.1 == c.2.2.2
theorem value_any (w : World) (F : Nat) (ao : Option Addr) (cap : Nat) (l : List (Int × Int)) (n : Nat) (Hn : Hid (n = l.length)) (hs : n ≤ 60) (hcap : n ≤ cap) (HHc : Hid (CallsAt w ao l)) (Hg : Hid (gdB (F : Int) l = true)) (k a b d : Int) (hm : mB (F : Int) (n : Int) (k, a, b, d) = true) :
    Calls Try.prog 106 #[.int .i64 (F : Int), .int .i64 k, .int .i64 a, .int .i64 b, .slice ao n cap] w fun e w' => e = .returned (.int .i64 (vlB F l k a b)) ∧ Below w.heap.size w w' := by
  have hk : k = 0 ∨ k = 1 ∨ k = 2 ∨ k = 3 ∨ k = 4 ∨ k = 5 := by
    rw [mB_pB] at hm
    simp [pB] at hm
    omega
  rcases hk with rfl | rfl | rfl | rfl | rfl | rfl
  · exact value_0 w F ao cap l n Hn hs HHc Hg a b
  · simp [mB, inB] at hm
    obtain ⟨x, rfl⟩ := Int.eq_ofNat_of_zero_le (show 0 ≤ a by omega)
    have h := value_1 w F ao cap l n Hn hs HHc Hg x (by omega) b
    simpa [vlB] using h
  · simp [mB, inB] at hm
    obtain ⟨x, rfl⟩ := Int.eq_ofNat_of_zero_le (show 0 ≤ a by omega)
    obtain ⟨y, rfl⟩ := Int.eq_ofNat_of_zero_le (show 0 ≤ b by omega)
    have h := value_2 w F ao cap l n Hn hs HHc Hg x y (by omega) (by omega)
    simpa [vlB] using h
  · exact value_3 w F ao cap l n Hn hs hcap HHc Hg a b
  · simp [mB, inB] at hm
    obtain ⟨x, rfl⟩ := Int.eq_ofNat_of_zero_le (show 0 ≤ a by omega)
    have h := value_4 w F ao cap l n Hn hs HHc Hg x (by omega) b
    simpa [vlB] using h
  · exact value_5 w F ao cap l n Hn hs HHc Hg a b
set_option maxRecDepth 20000 in
theorem pzFits_any (w : World) (F : Nat) (ao : Option Addr) (cap : Nat) (l : List (Int × Int)) (n : Nat) (Hn : Hid (n = l.length)) (hs : n ≤ 60) (hcap : n ≤ cap) (Hc : CallsAt w ao l) (Hg : Hid (gdB (F : Int) l = true)) (k a b d : Int) (hm : mB (F : Int) (n : Int) (k, a, b, d) = true) :
    Calls Try.prog 76 #[.int .i64 (F : Int), .agg #[.int .i64 k, .int .i64 a, .int .i64 b, .int .i64 d], .slice ao n cap] w fun e w' => e = .returned (.bool (pf F (k, a, b, d) l)) ∧ Below w.heap.size w w' := by
  obtain ⟨W, hW, hbW, hsW, hrW⟩ := box1 w #[.int .i64 k, .int .i64 a, .int .i64 b, .int .i64 d] 25
  have HV := Lib.hid (fun (w1 : World) (h : CallsAt w1 ao l) => value_any w1 F ao cap l n Hn hs hcap h Hg k a b d hm)
  obtain ⟨V, hV⟩ : ∃ V, vlB F l k a b = V := ⟨_, rfl⟩
  have hpf : pf F (k, a, b, d) l = (V == d) := by unfold pf; rw [← hV]
  rw [hpf]
  rw [hV] at HV
  have HcW := Lib.hid (Hc.kept hbW)
  have HW := Lib.hid hW
  have c0 : W.cell? ⟨w.heap.size, 0, none⟩ = some (.int .i64 k) := cell_of_row _ _ _ _ _ _ hrW
  have c1 : W.cell? ⟨w.heap.size, 1, none⟩ = some (.int .i64 a) := cell_of_row _ _ _ _ _ _ hrW
  have c2 : W.cell? ⟨w.heap.size, 2, none⟩ = some (.int .i64 b) := cell_of_row _ _ _ _ _ _ hrW
  have c3 : W.cell? ⟨w.heap.size, 3, none⟩ = some (.int .i64 d) := cell_of_row _ _ _ _ _ _ hrW
  clear hW hV hpf Hc hm
  go_enter Try.func76, Try.ntmps76
  go_wp2_with fail
  rw [HW.out]
  go_region_held3 (fun w' => w'.cell? ⟨w.heap.size, 0, none⟩ = some (.int .i64 k) ∧ w'.cell? ⟨w.heap.size, 1, none⟩ = some (.int .i64 a) ∧ w'.cell? ⟨w.heap.size, 2, none⟩ = some (.int .i64 b) ∧ w'.cell? ⟨w.heap.size, 3, none⟩ = some (.int .i64 d) ∧ CallsAt w' ao l ∧ Below W.heap.size W w')
    (first
      | exact ⟨c0, c1, c2, c3, HcW.out, (Below.refl _ _).drew⟩
      | (go_split_ands
         refine ⟨?_, ?_, ?_, ?_, ?_, ?_⟩
         all_goals first | exact cell_old hb2 (by assumption) | exact CallsAt.kept (by assumption) hb2 | exact Below.trans (by assumption) (hb2.mono (Below.size (by assumption))))
      | go_keep)
    (first
      | (go_at_call 106; (with_reducible refine (HV.out _ ?_).mono ?_); (go_split_ands; assumption); rintro e w5 ⟨rfl, hb2⟩)
      | fail)
  rename_i hh
  have HB := Lib.hid (hbW.trans (hh.2.2.2.2.2.mono hbW.size))
  clear hh
  go_wp2_with fail
  go_ret
  exact ⟨rfl, HB.out⟩
theorem fitOk_any (w0 : World) (F N : Nat) (cl : List Clu) (hF : 2 ≤ F ∧ F ≤ 4) (hN : N ≤ 3) (hm : cl.all (mB (F : Int) (N : Int)) = true) : FitOk w0 F N cl (pf F) := by
  intro q w ao cap l hq hb hin hl hcap hc
  have h := (List.all_eq_true.1 hm) cl[q] (List.getElem_mem hq)
  rw [k_get cl q hq] at h
  exact pzFits_any w F ao cap l N hl.symm (by omega) hcap hc (good_in hF (by omega) hin) _ _ _ _ h

end Go.Proofs.Ytmgmkgjefplfdaa
