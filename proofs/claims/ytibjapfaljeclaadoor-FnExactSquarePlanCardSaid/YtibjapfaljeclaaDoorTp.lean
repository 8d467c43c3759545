/- The plan along a tree: what it is. -/
import Derived.Test.YtibjapfaljeclaaDoorRv
import Derived.Test.YtibjapfaljeclaaDoorConc
namespace Go.Proofs.YtibjapfaljeclaaDoor
open Go.ChangeShapes Go.WideShapes Go.ChangeAt Go.RowKit
set_option linter.unusedVariables false


theorem tre_len {l : List (Int × Int)} {F t0 : Nat} (hg : gdB (F : Int) l = true) (hj : joinB F l = true) (h0 : 1 ≤ pc t0) (ht : t0 < 2 ^ F) (hp : pc t0 ≤ F) : (tre l F t0).length = F - pc t0 := by
  have hF := gd_fr hg
  have all : ∀ k, pc t0 + k ≤ F → TI l F t0 k := by
    intro k
    induction k with
    | zero => exact fun _ => ti_zero l ht
    | succ k ih =>
      intro hk
      have h := ih (by omega)
      have hm := nxt_more hg hj h0 h (by omega)
      cases e : nxt l F (trs l F t0 k).1 with
      | none => exact absurd e hm
      | some p => exact (ti_step (by omega) h (x := p.1) (y := p.2) e).1
  have h := all (F - pc t0) (by omega)
  rw [tre_stop (by omega) h (nxt_full (by omega) h (by omega)), h.len]
theorem own_cases {e : TypeId} {w : World} {base n : Nat} {v : Value} {l : List (Int × Int)} (h : w.ownsRow base e 2 v n (cs l)) (hn : n = l.length) : ∃ ao cap, v = .slice ao n cap ∧ CallsAt w ao l ∧ n ≤ cap ∧ (ao = none → cap = 0) := by
  rcases h.2 with ⟨rfl, h0⟩ | ⟨g, cap, cur, rfl, hb, hg, hc, _⟩
  · exact ⟨none, 0, by rw [h0], .inl (List.eq_nil_of_length_eq_zero (by omega)), by omega, fun _ => rfl⟩
  · exact ⟨some ⟨g, 0, none⟩, cap, rfl, own_at h hn, hc, fun h => by cases h⟩

set_option maxRecDepth 20000 in
theorem concatA (w : World) (B n0 n1 cap0 cap1 : Nat) (a0 a1 : Option Addr) (p d : List (Int × Int)) (H0 : Hid (n0 = p.length ∧ n0 ≤ cap0 ∧ (a0 = none → cap0 = 0))) (H1 : Hid (n1 = d.length ∧ n1 ≤ cap1 ∧ (a1 = none → cap1 = 0))) (hp : n0 ≤ 60) (hd : n1 ≤ 60)
    (HC : Hid (w.cell? ⟨B, 0, none⟩ = some (.slice a0 n0 cap0) ∧ w.cell? ⟨B, 1, none⟩ = some (.slice a1 n1 cap1)))
    (HP : Hid (CallsAt w a0 p)) (HD : Hid (CallsAt w a1 d)) :
    Calls Tryd.prog 21 #[.slice (some ⟨B, 0, none⟩) 2 2] w fun e w' => ∃ v, e = .returned v ∧ w'.ownsRow w.heap.size 35 2 v (p ++ d).length (cs (p ++ d)) ∧ Below w.heap.size w w' := by
  have e : [p, d].flatten = p ++ d := by simp
  have h := concat_any w (some ⟨B, 0, none⟩) 2 [p, d] 2 rfl (by omega) (by
      intro i
      match i with
      | 0 => show p.length ≤ 60; have := H0.out.1; omega
      | 1 => show d.length ≤ 60; have := H1.out.1; omega
      | (i + 2) => simp [crow]) (by
      refine .inr ⟨B, 0, (fun i => if i = 0 then a0 else a1), (fun i => if i = 0 then cap0 else cap1), rfl, ?_, ?_⟩
      · intro i hi
        match i, hi with
        | 0, _ =>
          refine ⟨?_, HP.out⟩
          show w.cell? ⟨B, 0, none⟩ = some (.slice a0 p.length cap0)
          rw [← H0.out.1]; exact HC.out.1
        | 1, _ =>
          refine ⟨?_, HD.out⟩
          show w.cell? ⟨B, 1, none⟩ = some (.slice a1 d.length cap1)
          rw [← H1.out.1]; exact HC.out.2
        | (i + 2), hi => simp at hi; omega
      · intro i hi
        match i, hi with
        | 0, _ => exact ⟨by show p.length ≤ cap0; have := H0.out; omega, H0.out.2.2⟩
        | 1, _ => exact ⟨by show d.length ≤ cap1; have := H1.out; omega, H1.out.2.2⟩
        | (i + 2), hi => simp at hi; omega)
  rw [e] at h
  exact h
theorem calls_tail {w : World} {g : Nat} {l : List (Int × Int)} (h : CallsAt w (some ⟨g, 0, none⟩) l) : CallsAt w (some ⟨g, 2, none⟩) l.tail := by
  rcases h with h | ⟨b, off, e, hc⟩
  · rw [h]; exact .inl rfl
  · cases e
    refine .inr ⟨g, 2, rfl, fun i hi => ?_⟩
    have h1 := hc (i + 1) (by rw [List.length_tail] at hi; omega)
    have e1 : ca l.tail i = ca l (i + 1) := by simp [ca, List.getD_eq_getElem?_getD]
    have e2 : cb l.tail i = cb l (i + 1) := by simp [cb, List.getD_eq_getElem?_getD]
    rw [e1, e2, show 2 + i * 2 = 0 + (i + 1) * 2 by omega]
    exact h1

def tpR (f : Int) (l : List (Int × Int)) : List (Int × Int) := if isjR f l then (tre l f.toNat 1).reverse ++ (tre l f.toNat 1).tail else []
theorem tp_at {F : Nat} {l : List (Int × Int)} (h : isjR (F : Int) l = true) : tpR (F : Int) l = (tre l F 1).reverse ++ (tre l F 1).tail := by rw [tpR, h, Int.toNat_natCast]; rfl
theorem isj_net {f : Int} {l : List (Int × Int)} (h : isjR f l = true) : netB f l = true := by
  simp only [isjR, Bool.and_eq_true] at h; exact h.1
theorem pc_one : pc 1 = 1 := by decide
theorem tp_len1 {F : Nat} {l : List (Int × Int)} (h : isjR (F : Int) l = true) : (tre l F 1).length = F - 1 := by
  have hn := isj_net h
  have hF := net_fr hn
  have := tre_len (t0 := 1) (net_gd hn) (by rw [← isj_at hn]; exact h) (by rw [pc_one]; omega) (Nat.one_lt_two_pow (by omega)) (by rw [pc_one]; omega)
  rw [this, pc_one]
theorem tpR_len (f : Int) (l : List (Int × Int)) : (tpR f l).length ≤ 60 := by
  unfold tpR
  cases h : isjR f l
  · simp
  · have hn := isj_net h
    have hF := net_fr hn
    obtain ⟨F, rfl⟩ := Int.eq_ofNat_of_zero_le (show 0 ≤ f by omega)
    have := tp_len1 h
    rw [if_pos rfl, List.length_append, List.length_reverse, List.length_tail, Int.toNat_natCast]
    omega
theorem rev_step (l : List (Int × Int)) (n k : Nat) (hn : n = l.length) (h : k < n) : l.reverse.take (k + 1) = l.reverse.take k ++ [(ca l (n - 1 - k), cb l (n - 1 - k))] := by
  rw [List.take_succ_eq_append_getElem (by simp; omega), List.getElem_reverse, ca_cb]
  rw [hn]
theorem tail_step (l : List (Int × Int)) (j : Nat) (h1 : 1 ≤ j) (h : j < l.length) : (l.take (j + 1)).tail = (l.take j).tail ++ [(ca l j, cb l j)] := by
  rw [List.take_succ_eq_append_getElem h, ca_cb l j h, List.tail_append_of_ne_nil]
  intro e
  have : (l.take j).length = 0 := by rw [e]; rfl
  rw [List.length_take] at this
  omega

end Go.Proofs.YtibjapfaljeclaaDoor
