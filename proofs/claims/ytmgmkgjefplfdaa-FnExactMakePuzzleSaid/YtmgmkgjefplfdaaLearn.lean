/- What is learned in a call. -/
import Derived.Test.YtmgmkgjefplfdaaOf
namespace Go.Proofs.Ytmgmkgjefplfdaa
open Go.ChangeShapes Go.WideShapes Go.ChangeAt Go.RowKit
set_option linter.unusedVariables false

theorem gd_take {f : Int} {l : List (Int × Int)} (h : gdB f l = true) (k : Nat) : gdB f (l.take k) = true := by
  simp only [gdB, Bool.and_eq_true, decide_eq_true_eq, List.all_eq_true] at h ⊢
  refine ⟨⟨h.1.1, ?_⟩, fun c hc => h.2 c (List.mem_of_mem_take hc)⟩
  have h1 := List.length_take_le' k l
  have h2 := h.1.2
  omega

theorem calls_take {w : World} {ao : Option Addr} {l : List (Int × Int)} (h : CallsAt w ao l) (k : Nat) : CallsAt w ao (l.take k) := by
  rcases h with rfl | ⟨b, off, rfl, hc⟩
  · exact .inl (by simp)
  · refine .inr ⟨b, off, rfl, fun i hi => ?_⟩
    have hi' : i < k ∧ i < l.length := by simpa [Nat.lt_min] using hi
    have e1 : ca (l.take k) i = ca l i := by simp [ca, List.getD_eq_getElem?_getD, hi'.1]
    have e2 : cb (l.take k) i = cb l i := by simp [cb, List.getD_eq_getElem?_getD, hi'.1]
    rw [e1, e2]
    exact hc i hi'.2

/-- The facts that both plays ask, behind one name. -/
def CA (ao : Option Addr) (l : List (Int × Int)) (k : Nat) (w : World) : Prop := CallsAt w ao (l.take (k + 1)) ∧ CallsAt w ao (l.take k)

theorem CA.kept {ao : Option Addr} {l : List (Int × Int)} {k : Nat} {w w' : World} (h : CA ao l k w) (hb : Below w.heap.size w w') : CA ao l k w' := ⟨h.1.kept hb, h.2.kept hb⟩

def OwnK (F : Nat) (s : Nat → Nat) (v : Value) (w : World) : Prop := ∃ base, w.ownsRow base 3 1 v F (ns (kl F s))

theorem OwnK.later {F : Nat} {s : Nat → Nat} {v : Value} {w w' : World} (h : OwnK F s v w) (hb : Below w.heap.size w w') : OwnK F s v w' := by
  obtain ⟨b, h⟩ := h
  exact ⟨b, own_later h hb⟩

theorem caCount_k (F : Nat) (v : Value) (s : Nat → Nat) (w : World) (hs : ∀ i, s i < 1024) (h1 : 1 ≤ F) (hf : F ≤ 10) (hown : OwnK F s v w) :
    Calls Try.prog 123 #[v] w fun e w' => e = .returned (.int .i64 (cntTo s F)) ∧ Below w.heap.size w w' := by
  obtain ⟨b, h⟩ := hown
  exact caCount_any b F v s w hs h1 hf h

theorem caPlay_k (F : Nat) (ao : Option Addr) (cap : Nat) (l : List (Int × Int)) (n : Nat) (w : World) (Hn : Hid (n = l.length)) (hg : gdB (F : Int) l = true) (hc : CallsAt w ao l) :
    Calls Try.prog 119 #[.int .i64 F, .slice ao n cap] w fun e w' => ∃ v, e = .returned v ∧ OwnK F (play F l) v w' ∧ Below w.heap.size w w' :=
  (caPlay_any F ao cap l n w Hn hg hc).mono fun _ _ ⟨v, he, ho, hb⟩ => ⟨v, he, ⟨_, ho⟩, hb⟩

theorem CA.left {ao : Option Addr} {l : List (Int × Int)} {k : Nat} {w : World} (h : CA ao l k w) : CallsAt w ao (l.take (k + 1)) := h.1

theorem CA.right {ao : Option Addr} {l : List (Int × Int)} {k : Nat} {w : World} (h : CA ao l k w) : CallsAt w ao (l.take k) := h.2

set_option maxHeartbeats 1600000 in
set_option maxRecDepth 20000 in
theorem caLearned_any (w : World) (F : Nat) (ao : Option Addr) (cap : Nat) (l : List (Int × Int)) (n k : Nat) (Hn : Hid (n = l.length)) (hs : n ≤ 60) (hcap : n ≤ cap) (hk : k < n) (HHc : Hid (CallsAt w ao l)) (Hg : Hid (gdB (F : Int) l = true)) (hff : 1 ≤ (F : Int) ∧ (F : Int) ≤ 10) :
    Calls Try.prog 122 #[.int .i64 F, .slice ao n cap, .int .i64 k] w fun e w' => e = .returned (.int .i64 ((cntTo (play F (l.take (k + 1))) F : Int) - cntTo (play F (l.take k)) F)) ∧ Below w.heap.size w w' := by
  have hkc : k + 1 ≤ cap := by omega
  have hkc2 : k ≤ cap := by omega
  have Hk1 : Hid (k + 1 = (l.take (k + 1)).length) := by show k + 1 = _; rw [List.length_take, ← Hn.out]; omega
  have Hk0 : Hid (k = (l.take k).length) := by show k = _; rw [List.length_take, ← Hn.out]; omega
  have Hg1 := Lib.hid (gd_take Hg.out (k + 1))
  have Hg0 := Lib.hid (gd_take Hg.out k)
  have hCA : CA ao l k w := ⟨calls_take HHc.out (k + 1), calls_take HHc.out k⟩
  have HCA := Lib.hid hCA
  have hl1 := cntTo_le (play F (l.take (k + 1))) (play_small F (by omega) _) F
  have hl0 := cntTo_le (play F (l.take k)) (play_small F (by omega) _) F
  have Hsm1 := Lib.hid (play_small F (by omega) (l.take (k + 1)))
  have Hsm0 := Lib.hid (play_small F (by omega) (l.take k))
  have HF : Hid (1 ≤ F ∧ F ≤ 10) := ⟨by omega, by omega⟩
  clear hCA
  have e1 : IntKind.i64.wrap ((k : Int) + 1) = (k : Int) + 1 := IntWalk.i64_in _ (by omega)
  have e2 : (0 : Int) ≤ (k : Int) + 1 := by omega
  have e3 : ((k : Int) + 1).toNat = k + 1 := by omega
  have e4 : (k : Int) + 1 ≤ (cap : Int) := by omega
  have e5 : (0 : Int) ≤ (k : Int) := by omega
  have e6 : (k : Int) ≤ (cap : Int) := by omega
  go_enter Try.func122, Try.ntmps122
  go_wp2_with fail
  go_region_held3 (fun w' => CA ao l k w' ∧ Below w.heap.size w w')
    (first
      | exact ⟨HCA.out, (Below.refl _ _).drew⟩
      | (go_split_ands
         refine ⟨?_, ?_⟩
         · exact CA.kept (by assumption) hb2
         · exact Below.trans (by assumption) (hb2.mono (Below.size (by assumption))))
      | go_keep)
    (first
      | (go_at_call 119; (with_reducible refine (caPlay_k F ao cap (l.take (k + 1)) (k + 1) _ Hk1 Hg1.out ?_).mono ?_); (go_split_ands; exact CA.left (by assumption)); rintro e w2 ⟨vA, rfl, ownA, hb2⟩)
      | (go_at_call 119; (with_reducible refine (caPlay_k F ao cap (l.take k) k _ Hk0 Hg0.out ?_).mono ?_); (go_split_ands; exact CA.right (by assumption)); rintro e w2 ⟨vB, rfl, ownB, hb2⟩)
      | (go_at_call 123; (with_reducible refine (caCount_k F vA (play F (l.take (k + 1))) _ Hsm1.out HF.out.1 HF.out.2 ?_).mono ?_); (first | exact ownA | exact ownA.later hb2 | exact (ownA.later (by assumption)).later hb2 | fail); rintro e w2 ⟨rfl, hb2⟩)
      | (go_at_call 123; (with_reducible refine (caCount_k F vB (play F (l.take k)) _ Hsm0.out HF.out.1 HF.out.2 ?_).mono ?_); (first | exact ownB | exact ownB.later hb2 | exact (ownB.later (by assumption)).later hb2 | fail); rintro e w2 ⟨rfl, hb2⟩)
      | fail)
  rename_i hh
  have hbb : Below w.heap.size w w2 := hh.2
  clear hh
  go_wp2_with fail
  go_ret
  exact ⟨ret_int (IntWalk.i64_in _ (by omega)), hbb⟩

end Go.Proofs.Ytmgmkgjefplfdaa
