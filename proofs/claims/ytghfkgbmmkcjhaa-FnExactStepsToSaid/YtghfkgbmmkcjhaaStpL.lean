/- StepsTo: the pure part. -/
import Derived.Test.YtghfkgbmmkcjhaaDeoA
namespace Go.Proofs.Ytghfkgbmmkcjhaa
open Go.ChangeShapes Go.WideShapes Go.ChangeAt Go.RowKit
set_option linter.unusedVariables false


/-- Steps carried along by these sends. -/
def upS (f : Int → Int) (s : Snd) : Int → Int := fun x => if x = s.to then f s.fr + 1 else f x
def stA (f : Int → Int) (l : List Snd) : Int → Int := l.foldl upS f
def stZ (l : List Snd) : Int → Int := stA (fun _ => 0) l
theorem stZ_take (l : List Snd) (k : Nat) (h : k < l.length) : stZ (l.take (k + 1)) = upS (stZ (l.take k)) (lsn l k) := by
  unfold stZ stA; rw [List.take_succ_eq_append_getElem h, List.foldl_append, lsn_get l k h]; rfl
theorem stA_app (f : Int → Int) (l m : List Snd) : stA f (l ++ m) = stA (stA f l) m := by unfold stA; rw [List.foldl_append]
theorem stA_other : ∀ (l : List Snd) (f : Int → Int) (x : Int), (∀ s ∈ l, s.to ≠ x) → stA f l x = f x
  | [], f, x, _ => rfl
  | s :: l, f, x, h => by
    have ih := stA_other l (upS f s) x (fun b hb => h b (List.mem_cons_of_mem _ hb))
    show stA (upS f s) l x = _
    rw [ih]
    have := h s List.mem_cons_self
    simp only [upS]; rw [if_neg (fun e => this e.symm)]
theorem stA_range (n : Nat) : ∀ (l : List Snd) (f : Int → Int), (∀ x, 0 ≤ f x ∧ f x ≤ n) → ∀ x, 0 ≤ stA f l x ∧ stA f l x ≤ (n : Int) + l.length := by
  intro l
  induction l generalizing n with
  | nil => intro f h x; have := h x; simp only [stA, List.foldl_nil, List.length_nil]; omega
  | cons s l ih =>
    intro f h x
    have h2 := ih (n + 1) (upS f s) (fun y => by
      simp only [upS]
      split
      · have := h s.fr; omega
      · have := h y; omega) x
    have e : stA f (s :: l) x = stA (upS f s) l x := rfl
    rw [e, List.length_cons]; omega
theorem stZ_range (l : List Snd) (x : Int) : 0 ≤ stZ l x ∧ stZ l x ≤ l.length := by
  have := stA_range 0 l (fun _ => 0) (fun _ => by omega) x
  unfold stZ; omega
/-- Who gets them by a send is one step behind who made it. -/
theorem stZ_send {d P : Int} (h1 : 1 ≤ d) {l : List Snd} (hv : ok1B P l = true) (h2 : ok2B d l = true) {s : Snd} (hs : s ∈ l) : stZ (ordS l) s.to = stZ (ordS l) s.fr + 1 := by
  have hp := ordS_perm l
  have hd2 : (ordS l).Pairwise fun a b => a.to ≠ b.to := (ok1_to hv).perm hp fun h => h.symm
  have hat := ordS_at l
  have hsO := hp.mem_iff.1 hs
  have hmade := (ok2_iff h1 hv).1 h2 s hs
  obtain ⟨p, q, hpq⟩ := List.append_of_mem hsO
  have hbefore : ∀ b ∈ q, b.to ≠ s.fr := by
    intro b hb e
    have hbO : b ∈ ordS l := by rw [hpq]; exact List.mem_append_right _ (List.mem_cons_of_mem _ hb)
    have hbl := hp.mem_iff.2 hbO
    rw [fillA_eq d l befA (ok1_to hv), ← e, lk_is (ok1_to hv) hbl] at hmade
    have hle : s.at ≤ b.at := by
      rw [hpq] at hat
      exact (List.pairwise_cons.1 (List.pairwise_append.1 hat).2.1).1 b hb
    simp only at hmade
    omega
  have hself : s.to ≠ s.fr := (sd_parts (ok1_sd hv hs)).2.2.2.1
  have hq2 : ∀ b ∈ q, b.to ≠ s.to := by
    intro b hb e
    rw [hpq] at hd2
    exact (List.pairwise_cons.1 (List.pairwise_append.1 hd2).2.1).1 b hb e.symm
  have e : ∀ x, (∀ b ∈ q, b.to ≠ x) → stZ (ordS l) x = upS (stZ p) s x := by
    intro x hx
    unfold stZ
    rw [hpq, stA_app]
    show stA (upS (stA (fun _ => 0) p) s) q x = _
    rw [stA_other q _ x hx]
  rw [e s.to hq2, e s.fr hbefore]
  simp only [upS]
  rw [if_pos trivial, if_neg (fun h => hself h.symm)]
theorem stZ_zero {P : Int} {l : List Snd} (hv : ok1B P l = true) : stZ (ordS l) 0 = 0 := by
  unfold stZ
  rw [stA_other (ordS l) _ 0 (fun s hs => (sd_parts (ok1_sd hv ((ordS_perm l).mem_iff.2 hs))).2.2.2.2)]
/-- Who sent to one, as the model finds. -/
def fk (l : List Snd) (p : Int) : Int := l.foldl (fun f s => if s.to = p then s.fr else f) (-1)
theorem fk_take (l : List Snd) (p : Int) (k : Nat) (h : k < l.length) : fk (l.take (k + 1)) p = if st l k = p then sf l k else fk (l.take k) p := by
  unfold fk; rw [List.take_succ_eq_append_getElem h, List.foldl_append, lsn_get l k h]; rfl
theorem fk_gen (p : Int) : ∀ (l : List Snd) (f : Int), l.foldl (fun f s => if s.to = p then s.fr else f) f = f ∧ (∀ s ∈ l, s.to ≠ p) ∨ ∃ s ∈ l, s.to = p ∧ l.foldl (fun f s => if s.to = p then s.fr else f) f = s.fr
  | [], f => .inl ⟨rfl, fun s h => by cases h⟩
  | s :: l, f => by
    rw [List.foldl_cons]
    by_cases h : s.to = p
    · rw [if_pos h]
      rcases fk_gen p l s.fr with ⟨h1, _⟩ | ⟨b, hb, h1, h2⟩
      · exact .inr ⟨s, List.mem_cons_self, h, h1⟩
      · exact .inr ⟨b, List.mem_cons_of_mem _ hb, h1, h2⟩
    · rw [if_neg h]
      rcases fk_gen p l f with ⟨h1, h2⟩ | ⟨b, hb, h1, h2⟩
      · refine .inl ⟨h1, fun b hb => ?_⟩
        rcases List.mem_cons.1 hb with rfl | hb
        · exact h
        · exact h2 b hb
      · exact .inr ⟨b, List.mem_cons_of_mem _ hb, h1, h2⟩
theorem fk_none {l : List Snd} {p : Int} (h : lk l p = none) : fk l p = -1 := by
  rcases fk_gen p l (-1) with ⟨h1, _⟩ | ⟨b, hb, h1, _⟩
  · exact h1
  · exact absurd h1 (lk_none h b hb)
theorem fk_some {l : List Snd} {p t : Int} (h : lk l p = some t) : ∃ s ∈ l, s.to = p ∧ fk l p = s.fr := by
  rcases fk_gen p l (-1) with ⟨_, h2⟩ | h
  · obtain ⟨s, hs, h3, _⟩ := lk_some h
    exact absurd h3 (h2 s hs)
  · exact h
/-- The news come to one. -/
def gotB (l : List Snd) (x : Int) : Bool := x == 0 || (lk l x).isSome
def spB (d P : Int) (l : List Snd) (x : Int) : Bool := dpB d P l x && gotB l x
def spR (d P : Int) (l : List Snd) (x : Int) : Int := if spB d P l x then stZ (ordS l) x else 0
/-- One step back: from one who got them. -/
theorem back {d P : Int} (h1 : 1 ≤ d) {l : List Snd} (hv : ok1B P l = true) (h2 : ok2B d l = true) {p : Int} (hp : p ≠ 0) (hg : gotB l p = true) :
    0 ≤ fk l p ∧ gotB l (fk l p) = true ∧ stZ (ordS l) (fk l p) + 1 = stZ (ordS l) p := by
  simp only [gotB, Bool.or_eq_true, beq_iff_eq] at hg
  obtain ⟨t, ht⟩ := Option.isSome_iff_exists.1 (hg.resolve_left hp)
  obtain ⟨s, hs, rfl, e⟩ := fk_some ht
  rw [e]
  have hsd := sd_parts (ok1_sd hv hs)
  refine ⟨hsd.1.1, ?_, (stZ_send h1 hv h2 hs).symm⟩
  have hm := (ok2_iff h1 hv).1 h2 s hs
  rw [fillA_eq d l befA (ok1_to hv)] at hm
  simp only [gotB, Bool.or_eq_true, beq_iff_eq]
  cases hl : lk l s.fr with
  | some _ => right; rfl
  | none =>
    left
    rw [hl] at hm
    simp only [befA] at hm
    by_cases h0 : s.fr = 0
    · exact h0
    · rw [if_neg h0] at hm; have := hsd.2.2.1; omega
theorem nogot {l : List Snd} {p : Int} (hg : gotB l p = false) : p ≠ 0 ∧ fk l p = -1 := by
  simp only [gotB, Bool.or_eq_false_iff, beq_eq_false_iff_ne] at hg
  refine ⟨hg.1, fk_none ?_⟩
  cases h : lk l p with
  | none => rfl
  | some t => rw [h] at hg; simp at hg
theorem got_never {d P : Int} (h1 : 1 ≤ d) (h10 : d ≤ 10) {l : List Snd} (hv : ok1B P l = true) (x : Int) : (fillA d befA l x == 71) = !(gotB l x) := by
  rw [fillA_eq d l befA (ok1_to hv)]
  unfold gotB
  cases e : lk l x with
  | none =>
    simp only [befA]
    by_cases h0 : x = 0
    · rw [if_pos h0]; simp [h0]
    · rw [if_neg h0]; simp [h0]
  | some t =>
    obtain ⟨b, hb, _, rfl⟩ := lk_some e
    have := sd_parts (ok1_sd hv hb)
    have hne : ¬ (b.at + d = 71) := by omega
    simp [hne]

end Go.Proofs.Ytghfkgbmmkcjhaa
