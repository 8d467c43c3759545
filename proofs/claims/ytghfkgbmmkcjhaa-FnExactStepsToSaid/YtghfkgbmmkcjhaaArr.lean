/- When the news come to each: the pure part. -/
import Derived.Test.YtghfkgbmmkcjhaaSnd
import Derived.Test.YtghfkgbmmkcjhaaInts
namespace Go.Proofs.Ytghfkgbmmkcjhaa
open Go.ChangeShapes Go.WideShapes Go.ChangeAt Go.RowKit
set_option linter.unusedVariables false


abbrev Snd.fr (s : Snd) : Int := s.1
abbrev Snd.to (s : Snd) : Int := s.2.1
abbrev Snd.at (s : Snd) : Int := s.2.2
def lsn (l : List Snd) (i : Nat) : Snd := l.getD i (0, 0, 0)
theorem lsn_get (l : List Snd) (i : Nat) (h : i < l.length) : l[i] = lsn l i := by simp [lsn, List.getD_eq_getElem?_getD, h]
theorem lsn_mem (l : List Snd) (i : Nat) (h : i < l.length) : lsn l i ∈ l := by rw [← lsn_get l i h]; exact List.getElem_mem h
/-- One send of people. -/
def sdB (P : Int) (s : Snd) : Bool := decide (0 ≤ s.fr ∧ s.fr < P) && (decide (0 ≤ s.to ∧ s.to < P) && (decide (0 ≤ s.at ∧ s.at ≤ 60) && (s.to != s.fr && s.to != 0)))
theorem sd_parts {P : Int} {s : Snd} (h : sdB P s = true) : (0 ≤ s.fr ∧ s.fr < P) ∧ (0 ≤ s.to ∧ s.to < P) ∧ (0 ≤ s.at ∧ s.at ≤ 60) ∧ s.to ≠ s.fr ∧ s.to ≠ 0 := by
  simpa only [sdB, Bool.and_eq_true, decide_eq_true_eq, bne_iff_ne] using h
/-- Two sends that can't be made both. -/
def meetB (a b : Snd) : Bool := b.to == a.to || (b.fr == a.fr && b.at == a.at)
theorem meet_no {a b : Snd} (h : meetB a b = false) : b.to ≠ a.to ∧ (b.fr = a.fr → b.at ≠ a.at) := by
  simp only [meetB, Bool.or_eq_false_iff, beq_eq_false_iff_ne, Bool.and_eq_false_iff] at h
  exact ⟨h.1, fun e => by rcases h.2 with h2 | h2; exact absurd e h2; exact h2⟩
/-- The k-th send is one, and meets none before it. -/
def okB (P : Int) (l : List Snd) (k : Nat) : Bool := sdB P (lsn l k) && !((l.take k).any (meetB (lsn l k)))
def ok1B (P : Int) (l : List Snd) : Bool := (List.range l.length).all (okB P l)
theorem ok1_yes {P : Int} {l : List Snd} (h : ∀ j, j < l.length → okB P l j = true) : ok1B P l = true := by
  unfold ok1B; rw [List.all_eq_true]; exact fun j hj => h j (List.mem_range.1 hj)
theorem ok1_no {P : Int} {l : List Snd} {j : Nat} (hj : j < l.length) (h : okB P l j = false) : ok1B P l = false := by
  unfold ok1B; rw [List.all_eq_false]; exact ⟨j, List.mem_range.2 hj, by rw [h]; simp⟩
theorem ok1_at {P : Int} {l : List Snd} (h : ok1B P l = true) {j : Nat} (hj : j < l.length) : okB P l j = true := by
  unfold ok1B at h; rw [List.all_eq_true] at h; exact h j (List.mem_range.2 hj)
theorem ok_sd {P : Int} {l : List Snd} {j : Nat} (h : okB P l j = true) : sdB P (lsn l j) = true := by
  simp only [okB, Bool.and_eq_true] at h; exact h.1
theorem ok_meet {P : Int} {l : List Snd} {j : Nat} (h : okB P l j = true) {i : Nat} (hi : i < j) (hj : j < l.length) : meetB (lsn l j) (lsn l i) = false := by
  simp only [okB, Bool.and_eq_true, Bool.not_eq_true', List.any_eq_false] at h
  have hm : lsn l i ∈ l.take j := by
    rw [← lsn_get l i (by omega)]
    exact List.mem_take_iff_getElem.2 ⟨i, by omega, rfl⟩
  simpa using h.2 _ hm
theorem ok1_sd {P : Int} {l : List Snd} (h : ok1B P l = true) {s : Snd} (hs : s ∈ l) : sdB P s = true := by
  obtain ⟨i, hi, rfl⟩ := List.getElem_of_mem hs
  rw [lsn_get l i hi]; exact ok_sd (ok1_at h hi)
theorem ok1_pair {P : Int} {l : List Snd} (h : ok1B P l = true) : l.Pairwise fun a b => meetB b a = false := by
  rw [List.pairwise_iff_getElem]
  intro i j hi hj hij
  rw [lsn_get l i hi, lsn_get l j hj]
  exact ok_meet (ok1_at h hj) hij hj
theorem ok1_to {P : Int} {l : List Snd} (h : ok1B P l = true) : l.Pairwise fun a b => a.to ≠ b.to :=
  (ok1_pair h).imp fun hm => (meet_no hm).1
theorem ok1_key {P : Int} {l : List Snd} (h : ok1B P l = true) {a b : Snd} (ha : a ∈ l) (hb : b ∈ l) (e1 : a.fr = b.fr) (e2 : a.at = b.at) : a = b := by
  obtain ⟨i, hi, rfl⟩ := List.getElem_of_mem ha
  obtain ⟨j, hj, rfl⟩ := List.getElem_of_mem hb
  rcases Nat.lt_trichotomy i j with hl | hl | hl
  · have hm := (meet_no (ok_meet (ok1_at h hj) hl hj)).2
    rw [lsn_get l i hi, lsn_get l j hj] at e1 e2
    exact absurd e2 (hm e1)
  · subst hl; rfl
  · have hm := (meet_no (ok_meet (ok1_at h hi) hl hi)).2
    rw [lsn_get l i hi, lsn_get l j hj] at e1 e2
    exact absurd e2.symm (hm e1.symm)

/-- The minute at which a send to one is made, if there is one. -/
def lk (l : List Snd) (x : Int) : Option Int := (l.find? fun s => s.to == x).map (·.at)
theorem lk_cons (s : Snd) (l : List Snd) (x : Int) : lk (s :: l) x = if s.to = x then some s.at else lk l x := by
  unfold lk
  rw [List.find?_cons]
  by_cases h : s.to = x
  · simp [h]
  · have : (s.to == x) = false := by simpa using h
    rw [this, if_neg h]
theorem lk_some {l : List Snd} {x t : Int} (h : lk l x = some t) : ∃ s ∈ l, s.to = x ∧ s.at = t := by
  unfold lk at h
  rw [Option.map_eq_some_iff] at h
  obtain ⟨s, hs, rfl⟩ := h
  exact ⟨s, List.mem_of_find?_eq_some hs, by have := List.find?_some hs; simpa using this, rfl⟩
theorem lk_none {l : List Snd} {x : Int} (h : lk l x = none) : ∀ s ∈ l, s.to ≠ x := by
  intro s hs e
  unfold lk at h
  rw [Option.map_eq_none_iff, List.find?_eq_none] at h
  exact h s hs (by simpa using e)
theorem lk_none' {l : List Snd} {x : Int} (h : ∀ s ∈ l, s.to ≠ x) : lk l x = none := by
  cases e : lk l x with
  | none => rfl
  | some t => obtain ⟨s, hs, h1, _⟩ := lk_some e; exact absurd h1 (h s hs)
theorem lk_is {l : List Snd} (hd : l.Pairwise fun a b => a.to ≠ b.to) {s : Snd} (hs : s ∈ l) : lk l s.to = some s.at := by
  induction l with
  | nil => cases hs
  | cons a l ih =>
    rw [lk_cons]
    rcases List.mem_cons.1 hs with rfl | hs
    · rw [if_pos rfl]
    · have := (List.pairwise_cons.1 hd).1 s hs
      rw [if_neg this]
      exact ih (List.pairwise_cons.1 hd).2 hs
theorem lk_perm {l m : List Snd} (hp : l.Perm m) (hd : l.Pairwise fun a b => a.to ≠ b.to) (x : Int) : lk m x = lk l x := by
  cases e : lk l x with
  | none => exact lk_none' fun s hs => lk_none e s (hp.mem_iff.2 hs)
  | some t =>
    obtain ⟨s, hs, rfl, rfl⟩ := lk_some e
    exact lk_is (hd.perm hp fun h => h.symm) (hp.mem_iff.1 hs)

/-- When the news come to each, by these sends, each of them made. -/
def upA (d : Int) (f : Int → Int) (s : Snd) : Int → Int := fun x => if x = s.to then s.at + d else f x
def fillA (d : Int) (f : Int → Int) (l : List Snd) : Int → Int := l.foldl (upA d) f
def befA : Int → Int := fun x => if x = 0 then 0 else 71
theorem fillA_take (d : Int) (f : Int → Int) (l : List Snd) (k : Nat) (h : k < l.length) : fillA d f (l.take (k + 1)) = upA d (fillA d f (l.take k)) (lsn l k) := by
  unfold fillA; rw [List.take_succ_eq_append_getElem h, List.foldl_append, lsn_get l k h]; rfl
theorem fillA_eq (d : Int) : ∀ (l : List Snd) (f : Int → Int), (l.Pairwise fun a b => a.to ≠ b.to) → ∀ x, fillA d f l x = match lk l x with | some t => t + d | none => f x
  | [], f, _, x => rfl
  | s :: l, f, hd, x => by
    have ih := fillA_eq d l (upA d f s) (List.pairwise_cons.1 hd).2 x
    show fillA d (upA d f s) l x = _
    rw [ih, lk_cons]
    by_cases h : s.to = x
    · have hn : lk l x = none := lk_none' fun b hb => by have := (List.pairwise_cons.1 hd).1 b hb; rw [← h]; exact fun e => this e.symm
      rw [hn, if_pos h]
      simp [upA, h]
    · rw [if_neg h]
      cases lk l x with
      | none => simp only [upA]; rw [if_neg (fun e => h e.symm)]
      | some t => rfl
/-- .. and by those that are made by one who knows. -/
def mkS (d : Int) (f : Int → Int) (s : Snd) : Int → Int := if f s.fr ≤ s.at then upA d f s else f
def mkA (d : Int) (f : Int → Int) (l : List Snd) : Int → Int := l.foldl (mkS d) f
theorem mkA_take (d : Int) (f : Int → Int) (l : List Snd) (k : Nat) (h : k < l.length) : mkA d f (l.take (k + 1)) = mkS d (mkA d f (l.take k)) (lsn l k) := by
  unfold mkA; rw [List.take_succ_eq_append_getElem h, List.foldl_append, lsn_get l k h]; rfl
theorem mkA_snoc (d : Int) (f : Int → Int) (l : List Snd) (s : Snd) : mkA d f (l ++ [s]) = mkS d (mkA d f l) s := by
  unfold mkA; rw [List.foldl_append]; rfl
theorem mkA_append (d : Int) (f : Int → Int) (l m : List Snd) : mkA d f (l ++ m) = mkA d (mkA d f l) m := by
  unfold mkA; rw [List.foldl_append]
theorem fillA_snoc (d : Int) (f : Int → Int) (l : List Snd) (s : Snd) : fillA d f (l ++ [s]) = upA d (fillA d f l) s := by
  unfold fillA; rw [List.foldl_append]; rfl
theorem mkA_other (d : Int) : ∀ (l : List Snd) (f : Int → Int) (x : Int), (∀ s ∈ l, s.to ≠ x) → mkA d f l x = f x
  | [], f, x, _ => rfl
  | s :: l, f, x, h => by
    have ih := mkA_other d l (mkS d f s) x (fun b hb => h b (List.mem_cons_of_mem _ hb))
    show mkA d (mkS d f s) l x = _
    rw [ih]
    have := h s (List.mem_cons_self ..)
    unfold mkS
    split
    · simp only [upA]; rw [if_neg (fun e => this e.symm)]
    · rfl
theorem mkA_val (d : Int) : ∀ (l : List Snd) (f : Int → Int) (x : Int), mkA d f l x = f x ∨ ∃ s ∈ l, s.to = x ∧ mkA d f l x = s.at + d
  | [], f, x => .inl rfl
  | s :: l, f, x => by
    rcases mkA_val d l (mkS d f s) x with h | ⟨b, hb, h1, h2⟩
    · have e : mkA d f (s :: l) x = mkS d f s x := h
      rw [e]
      unfold mkS
      split
      · by_cases hx : x = s.to
        · exact .inr ⟨s, List.mem_cons_self .., hx.symm, by simp [upA, hx]⟩
        · left; simp only [upA]; rw [if_neg hx]
      · exact .inl rfl
    · exact .inr ⟨b, List.mem_cons_of_mem _ hb, h1, h2⟩
/-- Sends in the order of minutes are all made just if each is made by one to whom the news have come. -/
theorem mk_all {d : Int} (h1 : 1 ≤ d) {o : List Snd} (hd : o.Pairwise fun a b => a.to ≠ b.to) (hs : o.Pairwise fun a b => a.at ≤ b.at) (hall : ∀ s ∈ o, fillA d befA o s.fr ≤ s.at) :
    ∀ k, k ≤ o.length → mkA d befA (o.take k) = fillA d befA (o.take k)
  | 0, _ => by simp [mkA, fillA]
  | k + 1, hk => by
    have ih := mk_all h1 hd hs hall k (by omega)
    rw [mkA_take _ _ _ _ (by omega), fillA_take _ _ _ _ (by omega), ih]
    unfold mkS
    rw [if_pos]
    have hm := lsn_mem o k (by omega)
    have h2 := hall _ hm
    rw [fillA_eq d o befA hd] at h2
    rw [fillA_eq d (o.take k) befA (hd.sublist (List.take_sublist _ _))]
    cases e : lk o (lsn o k).fr with
    | none =>
      rw [e] at h2
      have : lk (o.take k) (lsn o k).fr = none := lk_none' fun s hs => lk_none e s (List.mem_of_mem_take hs)
      rw [this]; exact h2
    | some t =>
      rw [e] at h2
      simp only at h2
      obtain ⟨s, hs1, hs2, hs3⟩ := lk_some e
      obtain ⟨i, hi, rfl⟩ := List.getElem_of_mem hs1
      have hik : i < k := by
        rcases Nat.lt_or_ge i k with h | h
        · exact h
        · exfalso
          have hle : (lsn o k).at ≤ (o[i]).at := by
            rcases Nat.lt_or_ge k i with h3 | h3
            · have := List.pairwise_iff_getElem.1 hs k i (by omega) hi h3
              rwa [lsn_get o k (by omega)] at this
            · obtain rfl : i = k := by omega
              rw [lsn_get]; exact Int.le_refl _
          omega
      have hmem : o[i] ∈ o.take k := List.mem_take_iff_getElem.2 ⟨i, by omega, rfl⟩
      have := lk_is (hd.sublist (List.take_sublist k o)) hmem
      rw [hs2, hs3] at this
      rw [this]; exact h2
theorem mk_only {d : Int} (h1 : 1 ≤ d) (h10 : d ≤ 10) {P : Int} {o : List Snd} (hd : o.Pairwise fun a b => a.to ≠ b.to) (hv : ∀ s ∈ o, sdB P s = true) (he : ∀ x, 0 ≤ x → x < P → mkA d befA o x = fillA d befA o x) :
    ∀ s ∈ o, fillA d befA o s.fr ≤ s.at := by
  intro s hs
  obtain ⟨p, q, rfl⟩ := List.append_of_mem hs
  have hp := sd_parts (hv s hs)
  have hnot : ∀ b ∈ p ++ q, b.to ≠ s.to := by
    intro b hb e
    have h2 := List.pairwise_append.1 hd
    rcases List.mem_append.1 hb with hb | hb
    · exact h2.2.2 b hb s (List.mem_cons_self ..) e
    · exact (List.pairwise_cons.1 h2.2.1).1 b hb e.symm
  have hmade : mkA d befA p s.fr ≤ s.at := by
    apply Decidable.byContradiction
    intro hn
    have h3 := he s.to hp.2.1.1 hp.2.1.2
    rw [fillA_eq d _ _ hd, lk_is hd hs] at h3
    have h4 : mkA d befA (p ++ s :: q) s.to = befA s.to := by
      have e : p ++ s :: q = (p ++ [s]) ++ q := by simp
      rw [e, mkA_append, mkA_other _ _ _ _ (fun b hb => hnot b (List.mem_append_right _ hb)), mkA_snoc]
      unfold mkS
      rw [if_neg hn, mkA_other _ _ _ _ (fun b hb => hnot b (List.mem_append_left _ hb))]
    rw [h4] at h3
    simp only [befA] at h3
    rw [if_neg hp.2.2.2.2] at h3
    omega
  rcases mkA_val d p befA s.fr with h | ⟨b, hb, hb1, hb2⟩
  · rw [h] at hmade
    by_cases h0 : s.fr = 0
    · rw [fillA_eq d _ _ hd, h0]
      have : lk (p ++ s :: q) 0 = none := lk_none' fun b hb => (sd_parts (hv b hb)).2.2.2.2
      rw [this]
      simp [befA]; omega
    · simp only [befA] at hmade
      rw [if_neg h0] at hmade
      omega
  · rw [hb2] at hmade
    have := lk_is hd (List.mem_append_left _ hb)
    rw [fillA_eq d _ _ hd, ← hb1, this]
    exact hmade

/-- When the news come to each, or -1. -/
def av (d : Int) (l : List Snd) (x : Int) : Int := match lk l x with | some t => t + d | none => if x = 0 then 0 else -1
def ok2B (d : Int) (l : List Snd) : Bool := (List.range l.length).all fun i => decide (0 ≤ av d l (lsn l i).fr ∧ av d l (lsn l i).fr ≤ (lsn l i).at)
def arB (d P : Int) (l : List Snd) : Bool := decide (l.length ≤ 40) && (ok1B P l && ok2B d l)
/-- The least that tells of all sends whether they are sends. -/
theorem ok2_iff {d P : Int} (h1 : 1 ≤ d) {l : List Snd} (hv : ok1B P l = true) : ok2B d l = true ↔ ∀ s ∈ l, fillA d befA l s.fr ≤ s.at := by
  have hd := ok1_to hv
  have key : ∀ s ∈ l, (0 ≤ av d l s.fr ∧ av d l s.fr ≤ s.at) ↔ fillA d befA l s.fr ≤ s.at := by
    intro s hs
    have hp := sd_parts (ok1_sd hv hs)
    rw [fillA_eq d l befA hd]
    unfold av
    cases e : lk l s.fr with
    | none =>
      simp only [befA]
      by_cases h0 : s.fr = 0
      · rw [if_pos h0, if_pos h0]; omega
      · rw [if_neg h0, if_neg h0]; omega
    | some t =>
      obtain ⟨b, hb, _, rfl⟩ := lk_some e
      have := sd_parts (ok1_sd hv hb)
      simp only
      omega
  unfold ok2B
  rw [List.all_eq_true]
  constructor
  · intro h s hs
    obtain ⟨i, hi, rfl⟩ := List.getElem_of_mem hs
    have := h i (List.mem_range.2 hi)
    rw [← lsn_get l i hi] at this
    exact (key _ hs).1 (by simpa using this)
  · intro h i hi
    have hi := List.mem_range.1 hi
    have := (key _ (lsn_mem l i hi)).2 (h _ (lsn_mem l i hi))
    simpa using this
/-- What the program finds for ordered sends is what is asked of the sends. -/
theorem made_iff {d P : Int} (h1 : 1 ≤ d) (h10 : d ≤ 10) {l o : List Snd} (hv : ok1B P l = true) (hp : l.Perm o) (hs : o.Pairwise fun a b => a.at ≤ b.at) (N : Nat) (hP : P ≤ N) :
    (∀ x : Nat, x < N → mkA d befA o x = fillA d befA o x) ↔ ok2B d l = true := by
  have hd := ok1_to hv
  have hd2 : o.Pairwise fun a b => a.to ≠ b.to := hd.perm hp fun h => h.symm
  have hfe : ∀ x, fillA d befA o x = fillA d befA l x := fun x => by rw [fillA_eq d o _ hd2, fillA_eq d l _ hd, lk_perm hp hd]
  rw [ok2_iff h1 hv]
  constructor
  · intro h s hs2
    have := mk_only h1 h10 hd2 (fun s hs => ok1_sd hv (hp.mem_iff.2 hs)) (fun x hx0 hxP => by
      obtain ⟨n, rfl⟩ := Int.eq_ofNat_of_zero_le hx0
      exact h n (by omega)) s (hp.mem_iff.1 hs2)
    rw [hfe] at this; exact this
  · intro h x _
    have := mk_all h1 hd2 hs (fun s hs2 => by rw [hfe]; exact h s (hp.mem_iff.2 hs2)) o.length (Nat.le_refl _)
    rw [List.take_length] at this
    rw [this]
theorem fill_perm {d P : Int} {l o : List Snd} (hv : ok1B P l = true) (hp : l.Perm o) (x : Int) : fillA d befA o x = fillA d befA l x := by
  have hd := ok1_to hv
  rw [fillA_eq d o _ (hd.perm hp fun h => h.symm), fillA_eq d l _ hd, lk_perm hp hd]
theorem made_is {d P : Int} (h1 : 1 ≤ d) {l o : List Snd} (hv : ok1B P l = true) (hp : l.Perm o) (hs : o.Pairwise fun a b => a.at ≤ b.at) (h2 : ok2B d l = true) (x : Int) : mkA d befA o x = fillA d befA l x := by
  have hd := ok1_to hv
  have hd2 : o.Pairwise fun a b => a.to ≠ b.to := hd.perm hp fun h => h.symm
  have := mk_all h1 hd2 hs (fun s hs2 => by rw [fill_perm hv hp]; exact (ok2_iff h1 hv).1 h2 s (hp.mem_iff.2 hs2)) o.length (Nat.le_refl _)
  rw [List.take_length] at this
  rw [this, fill_perm hv hp]
/-- The two ways to tell of one who never gets the news. -/
theorem fill_av {d P : Int} (h1 : 1 ≤ d) (h10 : d ≤ 10) {l : List Snd} (hv : ok1B P l = true) (x : Int) : (fillA d befA l x = 71 ∧ av d l x = -1) ∨ (fillA d befA l x = av d l x ∧ 0 ≤ av d l x ∧ av d l x ≤ 70) := by
  have hd := ok1_to hv
  rw [fillA_eq d l befA hd]
  unfold av
  cases e : lk l x with
  | none =>
    simp only [befA]
    by_cases h0 : x = 0
    · right; rw [if_pos h0, if_pos h0]; omega
    · left; rw [if_neg h0, if_neg h0]; omega
  | some t =>
    obtain ⟨b, hb, _, rfl⟩ := lk_some e
    have := sd_parts (ok1_sd hv hb)
    right
    exact ⟨rfl, by show 0 ≤ b.at + d; omega, by show b.at + d ≤ 70; omega⟩

/-- The model's row behind the first sends. -/
def aL (d : Int) (P : Nat) (l : List Snd) (k : Nat) : List Int := (List.range P).map fun (x : Nat) => av d (l.take k) x
theorem aL_length (d : Int) (P : Nat) (l : List Snd) (k : Nat) : (aL d P l k).length = P := by simp [aL]
theorem aL_get (d : Int) (P : Nat) (l : List Snd) (k x : Nat) (h : x < P) : na (aL d P l k) x = av d (l.take k) x := by
  simp [na, aL, List.getD_eq_getElem?_getD, List.getElem?_map, List.getElem?_range h]
theorem av_step (d : Int) (l : List Snd) (k : Nat) (h : k < l.length) (hn : ∀ s ∈ l.take k, s.to ≠ (lsn l k).to) (x : Int) : av d (l.take (k + 1)) x = if x = (lsn l k).to then (lsn l k).at + d else av d (l.take k) x := by
  have hl : ∀ (m : List Snd) (s : Snd), lk (m ++ [s]) x = match lk m x with | some t => some t | none => if s.to = x then some s.at else none := by
    intro m s
    induction m with
    | nil => simp [lk_cons]; rfl
    | cons a m ih =>
      rw [List.cons_append, lk_cons, lk_cons, ih]
      by_cases e : a.to = x
      · simp [e]
      · simp [e]
  unfold av
  rw [List.take_succ_eq_append_getElem h, hl, lsn_get l k h]
  by_cases hx : x = (lsn l k).to
  · have : lk (l.take k) x = none := lk_none' fun s hs => by rw [hx]; exact hn s hs
    rw [this, if_pos hx, if_pos hx.symm]
  · rw [if_neg hx, if_neg (fun e => hx e.symm)]
    cases lk (l.take k) x <;> rfl
theorem aL_set (d : Int) (P : Nat) (l : List Snd) (k t : Nat) (h : k < l.length) (hn : ∀ s ∈ l.take k, s.to ≠ (lsn l k).to) (ht : (lsn l k).to = t) : (aL d P l k).set t ((lsn l k).at + d) = aL d P l (k + 1) := by
  apply List.ext_getElem
  · simp [aL]
  · intro i h1 h2
    rw [List.getElem_set]
    simp only [aL, List.getElem_map, List.getElem_range]
    rw [av_step d l k h hn, ht]
    by_cases e : t = i
    · subst e; simp
    · rw [if_neg e, if_neg (by omega)]
theorem lk_dup {l : List Snd} {x t : Int} (h : lk l x = some t) : ∃ s ∈ l, s.to = x := by
  obtain ⟨s, hs, e, _⟩ := lk_some h; exact ⟨s, hs, e⟩

end Go.Proofs.Ytghfkgbmmkcjhaa
