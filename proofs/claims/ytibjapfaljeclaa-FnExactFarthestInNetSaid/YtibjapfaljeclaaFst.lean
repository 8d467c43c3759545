/- The farthest two friends: what they are. -/
import Derived.Test.YtibjapfaljeclaaJoinI
import Derived.Test.YtibjapfaljeclaaDrop
import Derived.Test.YtibjapfaljeclaaBridS
namespace Go.Proofs.Ytibjapfaljeclaa
open Go.ChangeShapes Go.WideShapes Go.ChangeAt Go.RowKit
set_option linter.unusedVariables false


theorem results_tmp4 {fn : Func} {t u v x : Tmp} (h : fn.results = #[.tmp t, .tmp u, .tmp v, .tmp x]) (tmps : Array Value) (P : Program) (w : World) :
    (results fn tmps).run P w = .ok (.tuple #[tmps.getD t undef, tmps.getD u undef, tmps.getD v undef, tmps.getD x undef]) w := by
  simp [results, h]
/-- The pairs of a friend with those between this one and a bound for which a rule holds. -/
def rowP (P : Nat → Nat → Bool) (a : Nat) : Nat → List (Int × Int)
  | 0 => []
  | b + 1 => rowP P a b ++ if decide (a < b) && P a b then [((a : Int), (b : Int))] else []
/-- Those of all friends before a bound. -/
def wholeP (P : Nat → Nat → Bool) (F : Nat) : Nat → List (Int × Int)
  | 0 => []
  | a + 1 => wholeP P F a ++ rowP P a F
/-- The model's four rules. -/
def pr (r g F a b : Nat) : Bool :=
  match r with
  | 0 => b == a + 1
  | 1 => b == a + 1 || (a == 0 && b + 1 == F)
  | 2 => a == g || b == g
  | _ => true
theorem rowP_low (P : Nat → Nat → Bool) (a : Nat) : ∀ b, b ≤ a + 1 → rowP P a b = []
  | 0, _ => rfl
  | b + 1, h => by
    have hd : decide (a < b) = false := by simp; omega
    rw [rowP, rowP_low P a b (by omega), hd]; rfl
theorem rowP_yes {P : Nat → Nat → Bool} {a b : Nat} (h : a < b) (hP : P a b = true) : rowP P a (b + 1) = rowP P a b ++ [((a : Int), (b : Int))] := by
  rw [rowP, hP]; simp [h]
theorem rowP_no {P : Nat → Nat → Bool} {a b : Nat} (hP : P a b = false) : rowP P a (b + 1) = rowP P a b := by
  rw [rowP, hP]; simp
theorem rowP_len (P : Nat → Nat → Bool) (a : Nat) : ∀ b, (rowP P a b).length ≤ b
  | 0 => Nat.le_refl _
  | b + 1 => by
    have ih := rowP_len P a b
    rw [rowP, List.length_append]
    split <;> simp <;> omega
theorem wholeP_len (P : Nat → Nat → Bool) {F : Nat} (hF : F ≤ 10) : ∀ a, (wholeP P F a).length ≤ 10 * a
  | 0 => Nat.le_refl _
  | a + 1 => by
    have ih := wholeP_len P hF a
    have := rowP_len P a F
    rw [wholeP, List.length_append]
    omega

theorem bfs_end {l : List (Int × Int)} {F f : Nat} (hf : f < F) : ∃ k, k = (bfs l F f k).2.length ∧ BI l F f k 0 (bfs l F f k) := by
  have step : ∀ m, (∃ k, k = (bfs l F f k).2.length ∧ BI l F f k 0 (bfs l F f k)) ∨ ∀ j, j < m → j < (bfs l F f j).2.length := by
    intro m
    induction m with
    | zero => exact .inr (fun j h => absurd h (Nat.not_lt_zero j))
    | succ m ih =>
      rcases ih with h | h
      · exact .inl h
      · have hb := bfs_inv (l := l) hf m h
        by_cases e : m < (bfs l F f m).2.length
        · refine .inr (fun j hj => ?_)
          by_cases ej : j = m
          · rw [ej]; exact e
          · exact h j (by omega)
        · refine .inl ⟨m, ?_, hb⟩
          cases m with
          | zero => exact absurd (show 0 < (bfs l F f 0).2.length by simp [bfs, bfs0]) e
          | succ m =>
            obtain ⟨_, h2, _⟩ := bi_steps (bfs_inv (l := l) hf m (fun j hj => h j (by omega))) (h m (by omega)) F (Nat.le_refl _)
            have h3 : m < (bfs l F f (m + 1)).2.length := h2
            omega
  rcases step (F + 1) with h | h
  · exact h
  · have h1 := h F (by omega)
    have h2 := bi_len (bfs_inv (l := l) hf F (fun j hj => h j (by omega)))
    omega
/-- Where all can be reached from one friend, they can from each. -/
theorem join_all {F : Nat} {l : List (Int × Int)} (hg : gdB (F : Int) l = true) (hj : joinB F l = true) {a : Nat} (ha : a < F) : ∀ v, v < F → dst l a v < 10 := by
  obtain ⟨k, hk, hbi⟩ := bfs_end (l := l) ha
  have hd := bfs_dst hg ha hbi hk
  have hfar := dst_far (f := 0) hg
  have hfa := dst_far (f := a) hg
  generalize bfs l F a k = s at hk hbi hd
  have hjv : ∀ v, v < F → dst l 0 v < 10 := fun v hv => by
    simp only [joinB, List.all_eq_true, List.mem_range, bne_iff_ne, ne_eq] at hj
    have h1 := hj v hv
    have h2 := hfar.most v hv
    omega
  have clos : ∀ u v, u < F → v < F → adj l u v = true → 0 ≤ s.1 u → 0 ≤ s.1 v := fun u v hu hv hadj h0 => by
    obtain ⟨i, hi, e⟩ := hbi.inq u hu h0
    exact (hbi.past i (by omega) hi v hv (by rw [e]; exact hadj)).1
  have down : ∀ n v, v < F → dst l 0 v ≤ n → 0 ≤ s.1 v → 0 ≤ s.1 0 := by
    intro n
    induction n with
    | zero =>
      intro v hv hn h0
      by_cases e : v = 0
      · rw [← e]; exact h0
      · obtain ⟨u, _, _, h3⟩ := hfar.way v hv e (hjv v hv)
        omega
    | succ n ih =>
      intro v hv hn h0
      by_cases e : v = 0
      · rw [← e]; exact h0
      · obtain ⟨u, hu, hadj, h3⟩ := hfar.way v hv e (hjv v hv)
        exact ih u hu (by omega) (clos v u hv hu (by rw [adj_comm]; exact hadj) h0)
  have h0 : 0 ≤ s.1 0 := down _ a ha (Nat.le_refl _) (by rw [hbi.zero]; exact Int.le_refl 0)
  have up : ∀ n v, v < F → dst l 0 v ≤ n → 0 ≤ s.1 v := by
    intro n
    induction n with
    | zero =>
      intro v hv hn
      by_cases e : v = 0
      · rw [e]; exact h0
      · obtain ⟨u, _, _, h3⟩ := hfar.way v hv e (hjv v hv)
        omega
    | succ n ih =>
      intro v hv hn
      by_cases e : v = 0
      · rw [e]; exact h0
      · obtain ⟨u, hu, hadj, h3⟩ := hfar.way v hv e (hjv v hv)
        exact clos u v hu hv hadj (ih u hu (by omega))
  intro v hv
  have h1 := up _ v hv (Nat.le_refl _)
  have h2 := hd v hv
  have h3 := hfa.most v hv
  by_cases h10 : dst l a v = 10
  · rw [if_pos h10] at h2; omega
  · omega

/-- The farthest two so far, and these two. -/
def fst1 (l : List (Int × Int)) (s : Nat × Nat × Nat) (a b : Nat) : Nat × Nat × Nat := if s.2.2 < dst l a b then (a, b, dst l a b) else s
def frR (l : List (Int × Int)) (a : Nat) (s : Nat × Nat × Nat) : Nat → Nat × Nat × Nat
  | 0 => s
  | b + 1 => if a < b then fst1 l (frR l a s b) a b else frR l a s b
def frA (l : List (Int × Int)) (F : Nat) : Nat → Nat × Nat × Nat
  | 0 => (0, 0, 0)
  | a + 1 => frR l a (frA l F a) F
theorem frR_low (l : List (Int × Int)) (a : Nat) (s : Nat × Nat × Nat) : ∀ b, b ≤ a + 1 → frR l a s b = s
  | 0, _ => rfl
  | b + 1, h => by rw [frR, if_neg (by omega), frR_low l a s b (by omega)]
def frL (l : List (Int × Int)) (s : Nat × Nat × Nat) (P : List (Int × Int)) : Nat × Nat × Nat := P.foldl (fun s c => fst1 l s c.1.toNat c.2.toNat) s
theorem frL_row (l : List (Int × Int)) (F a : Nat) (s : Nat × Nat × Nat) : ∀ b, frL l s (rowP (pr 3 0 F) a b) = frR l a s b
  | 0 => rfl
  | b + 1 => by
    have ih := frL_row l F a s b
    unfold frL at ih ⊢
    rw [rowP, frR, List.foldl_append, ih]
    by_cases h : a < b
    · simp [h, pr]
    · simp [h]
theorem frL_all (l : List (Int × Int)) (F : Nat) : ∀ a, frL l (0, 0, 0) (wholeP (pr 3 0 F) F a) = frA l F a
  | 0 => rfl
  | a + 1 => by
    have ih := frL_all l F a
    have hr := frL_row l F a (frA l F a) F
    unfold frL at ih hr ⊢
    rw [wholeP, frA, List.foldl_append, ih, hr]
theorem frL_step (l : List (Int × Int)) (s : Nat × Nat × Nat) (P : List (Int × Int)) {j : Nat} (h : j < P.length) : frL l s (P.take (j + 1)) = fst1 l (frL l s (P.take j)) (ca P j).toNat (cb P j).toNat := by
  unfold frL
  rw [List.take_succ_eq_append_getElem h, List.foldl_append, ca_cb P j h]
  rfl
theorem rowP_in (F a : Nat) : ∀ b, b ≤ F → ∀ p ∈ rowP (pr 3 0 F) a b, 0 ≤ p.1 ∧ p.1 < p.2 ∧ p.2 < (F : Int)
  | 0, _, p, hp => by simp [rowP] at hp
  | b + 1, hb, p, hp => by
    rw [rowP] at hp
    rcases List.mem_append.1 hp with h | h
    · exact rowP_in F a b (by omega) p h
    · by_cases hab : a < b
      · simp [hab, pr] at h
        rw [h]
        exact ⟨by simp, by simp; omega, by simp; omega⟩
      · simp [hab] at h
theorem wholeP_in (F : Nat) : ∀ a, ∀ p ∈ wholeP (pr 3 0 F) F a, 0 ≤ p.1 ∧ p.1 < p.2 ∧ p.2 < (F : Int)
  | 0, p, hp => by simp [wholeP] at hp
  | a + 1, p, hp => by
    rw [wholeP] at hp
    rcases List.mem_append.1 hp with h | h
    · exact wholeP_in F a p h
    · exact rowP_in F a F (Nat.le_refl _) p h
theorem whole_at (F : Nat) {j : Nat} (hj : j < (wholeP (pr 3 0 F) F F).length) : ∃ x y : Nat, ca (wholeP (pr 3 0 F) F F) j = x ∧ cb (wholeP (pr 3 0 F) F F) j = y ∧ x < y ∧ y < F := by
  have h := wholeP_in F F _ (List.getElem_mem hj)
  have e := ca_cb (wholeP (pr 3 0 F) F F) j hj
  rw [e] at h
  simp only at h
  exact ⟨(ca (wholeP (pr 3 0 F) F F) j).toNat, (cb (wholeP (pr 3 0 F) F F) j).toNat, by omega, by omega, by omega, by omega⟩
/-- What is found is small. -/
def okS (s : Nat × Nat × Nat) : Prop := s.1 ≤ 10 ∧ s.2.1 ≤ 10 ∧ s.2.2 ≤ 10
theorem fst1_ok {l : List (Int × Int)} {F : Nat} (hg : gdB (F : Int) l = true) {s : Nat × Nat × Nat} (h : okS s) {a b : Nat} (ha : a < F) (hb : b < F) : okS (fst1 l s a b) := by
  have hF := gd_fr hg
  have := (dst_far (f := a) hg).most b hb
  unfold fst1
  split
  · exact ⟨by show a ≤ 10; omega, by show b ≤ 10; omega, this⟩
  · exact h
theorem frR_ok {l : List (Int × Int)} {F : Nat} (hg : gdB (F : Int) l = true) {a : Nat} (ha : a < F) {s : Nat × Nat × Nat} (h : okS s) : ∀ b, b ≤ F → okS (frR l a s b)
  | 0, _ => h
  | b + 1, hb => by
    rw [frR]
    split
    · exact fst1_ok hg (frR_ok hg ha h b (by omega)) ha (by omega)
    · exact frR_ok hg ha h b (by omega)
theorem frA_ok {l : List (Int × Int)} {F : Nat} (hg : gdB (F : Int) l = true) : ∀ a, a ≤ F → okS (frA l F a)
  | 0, _ => ⟨Nat.zero_le _, Nat.zero_le _, Nat.zero_le _⟩
  | a + 1, ha => frR_ok hg (by omega) (frA_ok hg a (by omega)) F (Nat.le_refl _)
theorem frL_ok {l : List (Int × Int)} {F : Nat} (hg : gdB (F : Int) l = true) : ∀ j, j ≤ (wholeP (pr 3 0 F) F F).length → okS (frL l (0, 0, 0) ((wholeP (pr 3 0 F) F F).take j))
  | 0, _ => ⟨Nat.zero_le _, Nat.zero_le _, Nat.zero_le _⟩
  | j + 1, hj => by
    obtain ⟨x, y, hx, hy, hxy, hyF⟩ := whole_at F (show j < _ from hj)
    rw [frL_step _ _ _ hj, hx, hy, Int.toNat_natCast, Int.toNat_natCast]
    exact fst1_ok hg (frL_ok hg j (by omega)) (by omega) hyF

def farB (f : Int) (l : List (Int × Int)) : Bool := isjR f l && f != 1
def farS (f : Int) (l : List (Int × Int)) : Nat × Nat × Nat := if farB f l then frA l f.toNat f.toNat else (0, 0, 0)
def farX (f : Int) (l : List (Int × Int)) : Int := (farS f l).1
def farY (f : Int) (l : List (Int × Int)) : Int := (farS f l).2.1
def farM (f : Int) (l : List (Int × Int)) : Int := (farS f l).2.2
theorem far_no {f : Int} {l : List (Int × Int)} (h : farB f l = false) : farB f l = false ∧ farX f l = 0 ∧ farY f l = 0 ∧ farM f l = 0 := by
  have e : farS f l = (0, 0, 0) := by rw [farS, h]; rfl
  exact ⟨h, by rw [farX, e]; rfl, by rw [farY, e]; rfl, by rw [farM, e]; rfl⟩
theorem far_yes {F : Nat} {l : List (Int × Int)} (h : farB (F : Int) l = true) {x y m : Nat} (e : frA l F F = (x, y, m)) : farB (F : Int) l = true ∧ farX (F : Int) l = x ∧ farY (F : Int) l = y ∧ farM (F : Int) l = m := by
  have e : farS (F : Int) l = (x, y, m) := by rw [farS, h, Int.toNat_natCast, ← e]; rfl
  exact ⟨h, by rw [farX, e], by rw [farY, e], by rw [farM, e]⟩

end Go.Proofs.Ytibjapfaljeclaa
