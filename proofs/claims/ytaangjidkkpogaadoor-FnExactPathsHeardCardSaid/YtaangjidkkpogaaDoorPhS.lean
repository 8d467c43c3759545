/- Lists of friends who pass on: the model. -/
import Derived.Test.YtaangjidkkpogaaDoorPh
namespace Go.Proofs.YtaangjidkkpogaaDoor
open Go.ChangeShapes Go.WideShapes Go.ChangeAt Go.RowKit
set_option linter.unusedVariables false


local macro "go_none" : tactic => `(tactic| ((try simp only [Exit.inBlock, Exit.then]); first | refine bodyPost_ret (results_none rfl _ _ _) rfl ?_ | refine bodyPost_end (results_none rfl _ _ _) rfl ?_))
def sv (u n : Nat) : List Value := (List.range n).map fun i => Value.bool (!u.testBit i)
theorem sv_len (u n : Nat) : (sv u n).length = n := by simp [sv]
theorem sv_get (u n i : Nat) (h : i < n) : (sv u n)[i]? = some (.bool (!u.testBit i)) := by simp [sv, h]
theorem sv_mark (u n a : Nat) (ha : a < n) (hn : n ≤ 8) : (sv u n).set a (.bool true) = sv (clr u (2 ^ a)) n := by
  apply List.ext_getElem?
  intro i
  by_cases hi : i < n
  · rw [sv_get _ _ _ hi, List.getElem?_set]
    by_cases e : a = i
    · subst e
      rw [if_pos rfl, if_pos (by rw [sv_len]; exact ha), clr_bit _ _ _ (pow_small a (by omega)) (by omega), Nat.testBit_two_pow_self]
      simp
    · rw [if_neg e, sv_get _ _ _ hi, clr_bit _ _ _ (pow_small a (by omega)) (by omega), Nat.testBit_two_pow_of_ne (by omega)]
      simp
  · rw [List.getElem?_eq_none (by rw [List.length_set, sv_len]; omega), List.getElem?_eq_none (by rw [sv_len]; omega)]
theorem sv_back (u n a : Nat) (ha : a < n) (hn : n ≤ 8) (hu : u.testBit a = true) : (sv (clr u (2 ^ a)) n).set a (.bool false) = sv u n := by
  apply List.ext_getElem?
  intro i
  by_cases hi : i < n
  · rw [sv_get _ _ _ hi, List.getElem?_set]
    by_cases e : a = i
    · subst e
      rw [if_pos rfl, if_pos (by rw [sv_len]; exact ha), hu]
      rfl
    · rw [if_neg e, sv_get _ _ _ hi, clr_bit _ _ _ (pow_small a (by omega)) (by omega), Nat.testBit_two_pow_of_ne (by omega)]
      simp
  · rw [List.getElem?_eq_none (by rw [List.length_set, sv_len]; omega), List.getElem?_eq_none (by rw [sv_len]; omega)]
def rc (x y : Nat) : List Value := [.int .i64 (x : Int), .int .i64 (y : Int)]
theorem psum_tail (g : Nat → Nat) {m n : Nat} (h : m < 2 ^ n) : ∀ j, psum g m (n + j) = psum g m n
  | 0 => rfl
  | j + 1 => by
    have hb : m.testBit (n + j) = false := by
      cases hb : m.testBit (n + j)
      · rfl
      · exact absurd (bit_lt h hb) (by omega)
    have e : psum g m (n + (j + 1)) = psum g m (n + j) + if m.testBit (n + j) then g (n + j) else 0 := rfl
    rw [e, hb, psum_tail g h j]; simp
theorem psum_all (g : Nat → Nat) {m n : Nat} (h : m < 2 ^ n) (hn : n ≤ 8) : psum g m 10 = psum g m n := by
  have := psum_tail g h (10 - n)
  rw [show n + (10 - n) = 10 by omega] at this
  exact this
theorem own_apart {w : World} {g k : Nat} {u : Value} {base : Nat} {e : TypeId} {size : Nat} {v : Value} {n : Nat} {xs : List Value} (h : w.ownsRow base e size v n xs) (hne : v.ownBlock ≠ some g) : (w.setCell ⟨g, k, none⟩ u).ownsRow base e size v n xs :=
  own_same h (fun j hj => (grown_set (w := w) (wr := w) (g := g) ⟨rfl, rfl, rfl, Nat.le_refl _, fun _ _ _ => rfl⟩ k u).block j (h.lt j hj).2 (fun e => hne (by rw [hj, e])))
/-- What liPaths leaves, so deep. -/
def PlOk (c : List Bool) (t n f : Nat) : Prop := ∀ (u a : Nat) (tu : Bool) (B gs gc x y : Nat) (w : World), a < n → u < 2 ^ n → u.testBit a = true → pc (clr u (2 ^ a)) ≤ f → x + 10 ^ (f + 1) ≤ 1000000000000 → y + 10 ^ (f + 1) ≤ 1000000000000 → gs ≠ gc →
  w.ownsRow B 4 1 (.slice (some ⟨gs, 0, none⟩) n n) n (sv u n) → w.ownsRow B 3 1 (.slice (some ⟨gc, 0, none⟩) 2 2) 2 (rc x y) →
  Calls Tryd.prog 44 #[.string (cbs c), .int .i64 (a : Nat), .int .i64 (t : Nat), .slice (some ⟨gs, 0, none⟩) n n, .bool tu, .slice (some ⟨gc, 0, none⟩) 2 2] w fun e w' => e = .returned (.tuple #[]) ∧
    w'.ownsRow B 4 1 (.slice (some ⟨gs, 0, none⟩) n n) n (sv u n) ∧ w'.ownsRow B 3 1 (.slice (some ⟨gc, 0, none⟩) 2 2) 2 (rc (x + ph c t (f + 1) tu a (clr u (2 ^ a))) (y + ph c t (f + 1) (!tu) a (clr u (2 ^ a)))) ∧ Below B w w'

set_option maxHeartbeats 1600000 in
set_option maxRecDepth 20000 in
theorem pl_01 (c : List Bool) (t n : Nat) (Hn : Hid (n = c.length)) (hn : n ≤ 8) (f : Nat) (hf : f ≤ 8) (IH : Hid (∀ f', f = f' + 1 → PlOk c t n f')) (u a : Nat) (B gs gc x y : Nat) (w : World) (ha : a < n) (hu : u < 2 ^ n) (hb : u.testBit a = true) (hp : pc (clr u (2 ^ a)) ≤ f) (hx : x + 10 ^ (f + 1) ≤ 1000000000000) (hy : y + 10 ^ (f + 1) ≤ 1000000000000) (hgg : gs ≠ gc)
    (os : w.ownsRow B 4 1 (.slice (some ⟨gs, 0, none⟩) n n) n (sv u n)) (oc : w.ownsRow B 3 1 (.slice (some ⟨gc, 0, none⟩) 2 2) 2 (rc x y)) (hh : hon c a = true) :
    Calls Tryd.prog 44 #[.string (cbs c), .int .i64 (a : Nat), .int .i64 (t : Nat), .slice (some ⟨gs, 0, none⟩) n n, .bool false, .slice (some ⟨gc, 0, none⟩) 2 2] w fun e w' => e = .returned (.tuple #[]) ∧
    w'.ownsRow B 4 1 (.slice (some ⟨gs, 0, none⟩) n n) n (sv u n) ∧ w'.ownsRow B 3 1 (.slice (some ⟨gc, 0, none⟩) 2 2) 2 (rc (x + ph c t (f + 1) false a (clr u (2 ^ a))) (y + ph c t (f + 1) (!false) a (clr u (2 ^ a)))) ∧ Below B w w' := by
  obtain ⟨z, _, hz, hix⟩ := idx_c c (a : Int) (by omega) (by rw [← Hn.out]; omega)
  rw [hh] at hz
  simp only [Bool.not_true] at hz
  have hs0 := (os.lt gs rfl)
  have hc0 := (oc.lt gc rfl)
  have hpos : 0 < 10 ^ (f + 1) := Nat.pow_pos (by decide)
  have hx2 : x ≤ 1000000000000 - 1 := by omega
  have hy2 : y ≤ 1000000000000 - 1 := by omega
  have ha0 : (0 : Int) ≤ (a : Int) := by omega
  have ha1 : (a : Int) < (n : Int) := by omega
  by_cases hat : a = t
  · have e0 : ph c t (f + 1) false a (clr u (2 ^ a)) = 1 := by rw [ph_at hat, hh]; rfl
    have e1 : ph c t (f + 1) (!false) a (clr u (2 ^ a)) = 0 := by rw [ph_at hat, hh]; rfl
    rw [e0, e1]
    obtain ⟨v0, q0⟩ := own_some oc 0 (by decide)
    obtain ⟨v1, q1⟩ := own_some oc 1 (by decide)
    have qq0 := oc.cellAt 0 (by decide)
    have qq1 := oc.cellAt 1 (by decide)
    have qc0 : w.cell? ⟨gc, 0, none⟩ = some (.int .i64 (x : Int)) := qq0
    have qc1 : w.cell? ⟨gc, 1, none⟩ = some (.int .i64 (y : Int)) := qq1
    have zf0 := oc.frozenAt 0
    have zf1 := oc.frozenAt 1
    have hst := oc.stored 0 (.int .i64 ((x : Int) + 1))
    have Hst : Hid ((w.setCell ⟨gc, 0, none⟩ (.int .i64 ((x : Int) + 1))).ownsRow B 3 1 (.slice (some ⟨gc, 0, none⟩) 2 2) 2 (rc (x + 1) y)) := Lib.hid hst.1
    have Hot := Lib.hid (own_apart (g := gc) (k := 0) (u := .int .i64 ((x : Int) + 1)) os (by intro e; exact hgg (Option.some.inj e)))
    have Hbl := Lib.hid ((Below.refl B w).setCell (p := ⟨gc, 0, none⟩) hc0.1 (.int .i64 ((x : Int) + 1)))
    subst hat
    clear q0 q1 qq0 qq1 hst IH hh e0 e1 hs0 hc0 hx hy hpos os oc
    generalize cbs c = s at hix ⊢
    go_enter Tryd.func44, Tryd.ntmps44
    go_wp2_with fail
    go_none
    exact ⟨rfl, Hot.out, Hst.out, Hbl.out⟩
  · obtain ⟨m, hm⟩ : ∃ m, clr u (2 ^ a) = m := ⟨_, rfl⟩
    have h28 := two8 hn
    have hm2 : m < 2 ^ n := by rw [← hm]; exact Nat.lt_of_le_of_lt (clr_le _ _) hu
    have hm10 : m < 1024 := by omega
    obtain ⟨g0, hg0⟩ : ∃ g : Nat → Nat, g = fun x => ph c t f false x (clr m (2 ^ x)) := ⟨_, rfl⟩
    obtain ⟨g1, hg1⟩ : ∃ g : Nat → Nat, g = fun x => ph c t f (!false) x (clr m (2 ^ x)) := ⟨_, rfl⟩
    rw [hm] at hp ⊢
    have E : Hid (ph c t (f + 1) false a m = psum g0 m n ∧ ph c t (f + 1) (!false) a m = psum g1 m n) := Lib.hid (by
      rw [ph_go hat, ph_go hat, hg0, hg1, hh, ← psum_all _ hm2 hn, ← psum_all _ hm2 hn]; exact ⟨rfl, rfl⟩)
    have hsvm := sv_mark u n a ha hn
    have hsvb := sv_back u n a ha hn hb
    rw [hm] at hsvm hsvb
    have P10 : 10 ^ (f + 1) = 10 * 10 ^ f := by rw [Nat.pow_succ, Nat.mul_comm]
    have L0 := Lib.hid (fun k => psum_le g0 (10 ^ f) m (fun x => by rw [hg0]; exact ph_le c t f _ _ _) k)
    have L1 := Lib.hid (fun k => psum_le g1 (10 ^ f) m (fun x => by rw [hg1]; exact ph_le c t f _ _ _) k)
    have HC : Hid (∀ k wr, k < n → m.testBit k = true → wr.ownsRow B 4 1 (.slice (some ⟨gs, 0, none⟩) n n) n (sv m n) → wr.ownsRow B 3 1 (.slice (some ⟨gc, 0, none⟩) 2 2) 2 (rc (x + psum g0 m k) (y + psum g1 m k)) →
        Calls Tryd.prog 44 #[.string (cbs c), .int .i64 (k : Nat), .int .i64 (t : Nat), .slice (some ⟨gs, 0, none⟩) n n, .bool false, .slice (some ⟨gc, 0, none⟩) 2 2] wr fun e w' => e = .returned (.tuple #[]) ∧
        w'.ownsRow B 4 1 (.slice (some ⟨gs, 0, none⟩) n n) n (sv m n) ∧ w'.ownsRow B 3 1 (.slice (some ⟨gc, 0, none⟩) 2 2) 2 (rc (x + psum g0 m (k + 1)) (y + psum g1 m (k + 1))) ∧ Below B wr w') := Lib.hid fun k wr hk hbk o1 o2 => by
      have h1 := pc_clr ⟨m, hm10⟩ ⟨k, by omega⟩ hbk
      simp only at h1
      obtain ⟨f', hf'⟩ : ∃ f', f = f' + 1 := ⟨f - 1, by omega⟩
      have l0 := L0.out k
      have l1 := L1.out k
      have hk8 : k * 10 ^ f ≤ 7 * 10 ^ f := Nat.mul_le_mul_right _ (by omega)
      have h2 := IH.out f' hf' m k false B gs gc (x + psum g0 m k) (y + psum g1 m k) wr hk hm2 hbk (by omega) (by rw [← hf']; omega) (by rw [← hf']; omega) hgg o1 o2
      rw [← hf'] at h2
      rw [show psum g0 m (k + 1) = psum g0 m k + g0 k by rw [psum, hbk]; simp, show psum g1 m (k + 1) = psum g1 m k + g1 k by rw [psum, hbk]; simp, ← Nat.add_assoc, ← Nat.add_assoc, hg0, hg1]
      rw [hg0, hg1] at h2
      exact h2
    have HN : Hid (∀ k, m.testBit k = false → psum g0 m (k + 1) = psum g0 m k ∧ psum g1 m (k + 1) = psum g1 m k) := Lib.hid fun k hk => by
      constructor <;> (rw [psum, hk]; simp)
    have Hat : (((a : Nat) : Int) == ((t : Nat) : Int)) = false := by rw [beq_eq_false_iff_ne]; omega
    obtain ⟨v0, q0⟩ := own_some os a (by omega)
    have zf0 := os.frozenAt a
    have hst := (os.stored a (.bool true)).1
    rw [hsvm] at hst
    have Hst := Lib.hid hst
    have Hot := Lib.hid (own_apart (g := gs) (k := a) (u := .bool true) oc (by intro e; exact hgg (Option.some.inj e).symm))
    have Hbl := Lib.hid ((Below.refl B w).setCell (p := ⟨gs, a, none⟩) hs0.1 (.bool true))
    have Hsvb := Lib.hid hsvb
    obtain ⟨r0, hr0⟩ : ∃ r, ph c t (f + 1) false a m = r := ⟨_, rfl⟩
    obtain ⟨r1, hr1⟩ : ∃ r, ph c t (f + 1) (!false) a m = r := ⟨_, rfl⟩
    rw [hr0, hr1] at E ⊢
    have Hgs := Lib.hid hs0.1
    clear hst os oc hsvm hsvb hg0 hg1 hp hm IH hh hs0 hc0 hx hy hpos hr0 hr1 P10 L0 L1
    generalize cbs c = s at hix HC ⊢
    go_enter Tryd.func44, Tryd.ntmps44
    go_wp2_with fail
    go_loopw [38] (fun i wr => ∃ k : Nat, k ≤ n ∧ i = .int .i64 k ∧ wr.ownsRow B 4 1 (.slice (some ⟨gs, 0, none⟩) n n) n (sv m n) ∧ wr.ownsRow B 3 1 (.slice (some ⟨gc, 0, none⟩) 2 2) 2 (rc (x + psum g0 m k) (y + psum g1 m k)) ∧ Below B w wr) (fun i _ => n - (intOf i).toNat)
    case atStart => exact ⟨0, Nat.zero_le _, rfl, Hst.out, Hot.out, Hbl.out⟩
    case round =>
      obtain ⟨k, hk, rfl, o1, o2, hbel⟩ := hrel
      by_cases hlt : k < n
      · have hcell : wr.cell? ⟨gs, k, none⟩ = some (.bool (!m.testBit k)) := by rw [o1.cellAt k (by omega), sv_get _ _ _ hlt]
        have hb0 : (0 : Int) ≤ k := by omega
        have hb1 : (k : Int) < n := by omega
        cases ht : m.testBit k
        · rw [ht] at hcell
          simp only [Bool.not_false] at hcell
          have Hk := Lib.hid (HN.out k ht)
          have O1 := Lib.hid o1
          have O2 := Lib.hid o2
          have Hbel := Lib.hid hbel
          clear ht o1 o2 hbel
          go_wp2_with fail
          go_roundw
          case rel => exact ⟨k + 1, by omega, by go_num, O1.out, by rw [Hk.out.1, Hk.out.2]; exact O2.out, Hbel.out⟩
          case measure => simp [intOf]; omega
        · rw [ht] at hcell
          simp only [Bool.not_true] at hcell
          have HK := Lib.hid (HC.out k wr hlt ht o1 o2)
          have Hbel := Lib.hid hbel
          clear ht o1 o2 hbel
          go_wp2_with fail
          refine HK.out.mono ?_
          rintro e w2 ⟨rfl, p1, p2, hb2⟩
          have P1 := Lib.hid p1
          have P2 := Lib.hid p2
          have Hb2 := Lib.hid (Hbel.out.trans hb2)
          clear p1 p2 hb2
          go_wp2_with fail
          go_roundw
          case rel => exact ⟨k + 1, by omega, by go_num, P1.out, P2.out, Hb2.out⟩
          case measure => simp [intOf]; omega
      · obtain rfl : k = n := by omega
        obtain ⟨v1, q1⟩ := own_some o1 a (by omega)
        have zf1 := o1.frozenAt a
        have hst2 := (o1.stored a (.bool false)).1
        rw [Hsvb.out] at hst2
        have H1 := Lib.hid hst2
        have H2 := Lib.hid (own_apart (g := gs) (k := a) (u := .bool false) o2 (by intro e; exact hgg (Option.some.inj e).symm))
        have H3 := Lib.hid (hbel.setCell (p := ⟨gs, a, none⟩) Hgs.out (.bool false))
        rw [← E.out.1, ← E.out.2] at H2
        clear o1 o2 hbel hst2
        go_wp2_with fail
        go_none
        exact ⟨rfl, H1.out, H2.out, H3.out⟩

set_option maxHeartbeats 1600000 in
set_option maxRecDepth 20000 in
theorem pl_00 (c : List Bool) (t n : Nat) (Hn : Hid (n = c.length)) (hn : n ≤ 8) (f : Nat) (hf : f ≤ 8) (IH : Hid (∀ f', f = f' + 1 → PlOk c t n f')) (u a : Nat) (B gs gc x y : Nat) (w : World) (ha : a < n) (hu : u < 2 ^ n) (hb : u.testBit a = true) (hp : pc (clr u (2 ^ a)) ≤ f) (hx : x + 10 ^ (f + 1) ≤ 1000000000000) (hy : y + 10 ^ (f + 1) ≤ 1000000000000) (hgg : gs ≠ gc)
    (os : w.ownsRow B 4 1 (.slice (some ⟨gs, 0, none⟩) n n) n (sv u n)) (oc : w.ownsRow B 3 1 (.slice (some ⟨gc, 0, none⟩) 2 2) 2 (rc x y)) (hh : hon c a = false) :
    Calls Tryd.prog 44 #[.string (cbs c), .int .i64 (a : Nat), .int .i64 (t : Nat), .slice (some ⟨gs, 0, none⟩) n n, .bool false, .slice (some ⟨gc, 0, none⟩) 2 2] w fun e w' => e = .returned (.tuple #[]) ∧
    w'.ownsRow B 4 1 (.slice (some ⟨gs, 0, none⟩) n n) n (sv u n) ∧ w'.ownsRow B 3 1 (.slice (some ⟨gc, 0, none⟩) 2 2) 2 (rc (x + ph c t (f + 1) false a (clr u (2 ^ a))) (y + ph c t (f + 1) (!false) a (clr u (2 ^ a)))) ∧ Below B w w' := by
  obtain ⟨z, _, hz, hix⟩ := idx_c c (a : Int) (by omega) (by rw [← Hn.out]; omega)
  rw [hh] at hz
  simp only [Bool.not_false] at hz
  have hs0 := (os.lt gs rfl)
  have hc0 := (oc.lt gc rfl)
  have hpos : 0 < 10 ^ (f + 1) := Nat.pow_pos (by decide)
  have hx2 : x ≤ 1000000000000 - 1 := by omega
  have hy2 : y ≤ 1000000000000 - 1 := by omega
  have ha0 : (0 : Int) ≤ (a : Int) := by omega
  have ha1 : (a : Int) < (n : Int) := by omega
  by_cases hat : a = t
  · have e0 : ph c t (f + 1) false a (clr u (2 ^ a)) = 0 := by rw [ph_at hat, hh]; rfl
    have e1 : ph c t (f + 1) (!false) a (clr u (2 ^ a)) = 1 := by rw [ph_at hat, hh]; rfl
    rw [e0, e1]
    obtain ⟨v0, q0⟩ := own_some oc 0 (by decide)
    obtain ⟨v1, q1⟩ := own_some oc 1 (by decide)
    have qq0 := oc.cellAt 0 (by decide)
    have qq1 := oc.cellAt 1 (by decide)
    have qc0 : w.cell? ⟨gc, 0, none⟩ = some (.int .i64 (x : Int)) := qq0
    have qc1 : w.cell? ⟨gc, 1, none⟩ = some (.int .i64 (y : Int)) := qq1
    have zf0 := oc.frozenAt 0
    have zf1 := oc.frozenAt 1
    have hst := oc.stored 1 (.int .i64 ((y : Int) + 1))
    have Hst : Hid ((w.setCell ⟨gc, 1, none⟩ (.int .i64 ((y : Int) + 1))).ownsRow B 3 1 (.slice (some ⟨gc, 0, none⟩) 2 2) 2 (rc x (y + 1))) := Lib.hid hst.1
    have Hot := Lib.hid (own_apart (g := gc) (k := 1) (u := .int .i64 ((y : Int) + 1)) os (by intro e; exact hgg (Option.some.inj e)))
    have Hbl := Lib.hid ((Below.refl B w).setCell (p := ⟨gc, 1, none⟩) hc0.1 (.int .i64 ((y : Int) + 1)))
    subst hat
    clear q0 q1 qq0 qq1 hst IH hh e0 e1 hs0 hc0 hx hy hpos os oc
    generalize cbs c = s at hix ⊢
    go_enter Tryd.func44, Tryd.ntmps44
    go_wp2_with fail
    go_none
    exact ⟨rfl, Hot.out, Hst.out, Hbl.out⟩
  · obtain ⟨m, hm⟩ : ∃ m, clr u (2 ^ a) = m := ⟨_, rfl⟩
    have h28 := two8 hn
    have hm2 : m < 2 ^ n := by rw [← hm]; exact Nat.lt_of_le_of_lt (clr_le _ _) hu
    have hm10 : m < 1024 := by omega
    obtain ⟨g0, hg0⟩ : ∃ g : Nat → Nat, g = fun x => ph c t f true x (clr m (2 ^ x)) := ⟨_, rfl⟩
    obtain ⟨g1, hg1⟩ : ∃ g : Nat → Nat, g = fun x => ph c t f (!true) x (clr m (2 ^ x)) := ⟨_, rfl⟩
    rw [hm] at hp ⊢
    have E : Hid (ph c t (f + 1) false a m = psum g0 m n ∧ ph c t (f + 1) (!false) a m = psum g1 m n) := Lib.hid (by
      rw [ph_go hat, ph_go hat, hg0, hg1, hh, ← psum_all _ hm2 hn, ← psum_all _ hm2 hn]; exact ⟨rfl, rfl⟩)
    have hsvm := sv_mark u n a ha hn
    have hsvb := sv_back u n a ha hn hb
    rw [hm] at hsvm hsvb
    have P10 : 10 ^ (f + 1) = 10 * 10 ^ f := by rw [Nat.pow_succ, Nat.mul_comm]
    have L0 := Lib.hid (fun k => psum_le g0 (10 ^ f) m (fun x => by rw [hg0]; exact ph_le c t f _ _ _) k)
    have L1 := Lib.hid (fun k => psum_le g1 (10 ^ f) m (fun x => by rw [hg1]; exact ph_le c t f _ _ _) k)
    have HC : Hid (∀ k wr, k < n → m.testBit k = true → wr.ownsRow B 4 1 (.slice (some ⟨gs, 0, none⟩) n n) n (sv m n) → wr.ownsRow B 3 1 (.slice (some ⟨gc, 0, none⟩) 2 2) 2 (rc (x + psum g0 m k) (y + psum g1 m k)) →
        Calls Tryd.prog 44 #[.string (cbs c), .int .i64 (k : Nat), .int .i64 (t : Nat), .slice (some ⟨gs, 0, none⟩) n n, .bool true, .slice (some ⟨gc, 0, none⟩) 2 2] wr fun e w' => e = .returned (.tuple #[]) ∧
        w'.ownsRow B 4 1 (.slice (some ⟨gs, 0, none⟩) n n) n (sv m n) ∧ w'.ownsRow B 3 1 (.slice (some ⟨gc, 0, none⟩) 2 2) 2 (rc (x + psum g0 m (k + 1)) (y + psum g1 m (k + 1))) ∧ Below B wr w') := Lib.hid fun k wr hk hbk o1 o2 => by
      have h1 := pc_clr ⟨m, hm10⟩ ⟨k, by omega⟩ hbk
      simp only at h1
      obtain ⟨f', hf'⟩ : ∃ f', f = f' + 1 := ⟨f - 1, by omega⟩
      have l0 := L0.out k
      have l1 := L1.out k
      have hk8 : k * 10 ^ f ≤ 7 * 10 ^ f := Nat.mul_le_mul_right _ (by omega)
      have h2 := IH.out f' hf' m k true B gs gc (x + psum g0 m k) (y + psum g1 m k) wr hk hm2 hbk (by omega) (by rw [← hf']; omega) (by rw [← hf']; omega) hgg o1 o2
      rw [← hf'] at h2
      rw [show psum g0 m (k + 1) = psum g0 m k + g0 k by rw [psum, hbk]; simp, show psum g1 m (k + 1) = psum g1 m k + g1 k by rw [psum, hbk]; simp, ← Nat.add_assoc, ← Nat.add_assoc, hg0, hg1]
      rw [hg0, hg1] at h2
      exact h2
    have HN : Hid (∀ k, m.testBit k = false → psum g0 m (k + 1) = psum g0 m k ∧ psum g1 m (k + 1) = psum g1 m k) := Lib.hid fun k hk => by
      constructor <;> (rw [psum, hk]; simp)
    have Hat : (((a : Nat) : Int) == ((t : Nat) : Int)) = false := by rw [beq_eq_false_iff_ne]; omega
    obtain ⟨v0, q0⟩ := own_some os a (by omega)
    have zf0 := os.frozenAt a
    have hst := (os.stored a (.bool true)).1
    rw [hsvm] at hst
    have Hst := Lib.hid hst
    have Hot := Lib.hid (own_apart (g := gs) (k := a) (u := .bool true) oc (by intro e; exact hgg (Option.some.inj e).symm))
    have Hbl := Lib.hid ((Below.refl B w).setCell (p := ⟨gs, a, none⟩) hs0.1 (.bool true))
    have Hsvb := Lib.hid hsvb
    obtain ⟨r0, hr0⟩ : ∃ r, ph c t (f + 1) false a m = r := ⟨_, rfl⟩
    obtain ⟨r1, hr1⟩ : ∃ r, ph c t (f + 1) (!false) a m = r := ⟨_, rfl⟩
    rw [hr0, hr1] at E ⊢
    have Hgs := Lib.hid hs0.1
    clear hst os oc hsvm hsvb hg0 hg1 hp hm IH hh hs0 hc0 hx hy hpos hr0 hr1 P10 L0 L1
    generalize cbs c = s at hix HC ⊢
    go_enter Tryd.func44, Tryd.ntmps44
    go_wp2_with fail
    go_loopw [38] (fun i wr => ∃ k : Nat, k ≤ n ∧ i = .int .i64 k ∧ wr.ownsRow B 4 1 (.slice (some ⟨gs, 0, none⟩) n n) n (sv m n) ∧ wr.ownsRow B 3 1 (.slice (some ⟨gc, 0, none⟩) 2 2) 2 (rc (x + psum g0 m k) (y + psum g1 m k)) ∧ Below B w wr) (fun i _ => n - (intOf i).toNat)
    case atStart => exact ⟨0, Nat.zero_le _, rfl, Hst.out, Hot.out, Hbl.out⟩
    case round =>
      obtain ⟨k, hk, rfl, o1, o2, hbel⟩ := hrel
      by_cases hlt : k < n
      · have hcell : wr.cell? ⟨gs, k, none⟩ = some (.bool (!m.testBit k)) := by rw [o1.cellAt k (by omega), sv_get _ _ _ hlt]
        have hb0 : (0 : Int) ≤ k := by omega
        have hb1 : (k : Int) < n := by omega
        cases ht : m.testBit k
        · rw [ht] at hcell
          simp only [Bool.not_false] at hcell
          have Hk := Lib.hid (HN.out k ht)
          have O1 := Lib.hid o1
          have O2 := Lib.hid o2
          have Hbel := Lib.hid hbel
          clear ht o1 o2 hbel
          go_wp2_with fail
          go_roundw
          case rel => exact ⟨k + 1, by omega, by go_num, O1.out, by rw [Hk.out.1, Hk.out.2]; exact O2.out, Hbel.out⟩
          case measure => simp [intOf]; omega
        · rw [ht] at hcell
          simp only [Bool.not_true] at hcell
          have HK := Lib.hid (HC.out k wr hlt ht o1 o2)
          have Hbel := Lib.hid hbel
          clear ht o1 o2 hbel
          go_wp2_with fail
          refine HK.out.mono ?_
          rintro e w2 ⟨rfl, p1, p2, hb2⟩
          have P1 := Lib.hid p1
          have P2 := Lib.hid p2
          have Hb2 := Lib.hid (Hbel.out.trans hb2)
          clear p1 p2 hb2
          go_wp2_with fail
          go_roundw
          case rel => exact ⟨k + 1, by omega, by go_num, P1.out, P2.out, Hb2.out⟩
          case measure => simp [intOf]; omega
      · obtain rfl : k = n := by omega
        obtain ⟨v1, q1⟩ := own_some o1 a (by omega)
        have zf1 := o1.frozenAt a
        have hst2 := (o1.stored a (.bool false)).1
        rw [Hsvb.out] at hst2
        have H1 := Lib.hid hst2
        have H2 := Lib.hid (own_apart (g := gs) (k := a) (u := .bool false) o2 (by intro e; exact hgg (Option.some.inj e).symm))
        have H3 := Lib.hid (hbel.setCell (p := ⟨gs, a, none⟩) Hgs.out (.bool false))
        rw [← E.out.1, ← E.out.2] at H2
        clear o1 o2 hbel hst2
        go_wp2_with fail
        go_none
        exact ⟨rfl, H1.out, H2.out, H3.out⟩

set_option maxHeartbeats 1600000 in
set_option maxRecDepth 20000 in
theorem pl_11 (c : List Bool) (t n : Nat) (Hn : Hid (n = c.length)) (hn : n ≤ 8) (f : Nat) (hf : f ≤ 8) (IH : Hid (∀ f', f = f' + 1 → PlOk c t n f')) (u a : Nat) (B gs gc x y : Nat) (w : World) (ha : a < n) (hu : u < 2 ^ n) (hb : u.testBit a = true) (hp : pc (clr u (2 ^ a)) ≤ f) (hx : x + 10 ^ (f + 1) ≤ 1000000000000) (hy : y + 10 ^ (f + 1) ≤ 1000000000000) (hgg : gs ≠ gc)
    (os : w.ownsRow B 4 1 (.slice (some ⟨gs, 0, none⟩) n n) n (sv u n)) (oc : w.ownsRow B 3 1 (.slice (some ⟨gc, 0, none⟩) 2 2) 2 (rc x y)) (hh : hon c a = true) :
    Calls Tryd.prog 44 #[.string (cbs c), .int .i64 (a : Nat), .int .i64 (t : Nat), .slice (some ⟨gs, 0, none⟩) n n, .bool true, .slice (some ⟨gc, 0, none⟩) 2 2] w fun e w' => e = .returned (.tuple #[]) ∧
    w'.ownsRow B 4 1 (.slice (some ⟨gs, 0, none⟩) n n) n (sv u n) ∧ w'.ownsRow B 3 1 (.slice (some ⟨gc, 0, none⟩) 2 2) 2 (rc (x + ph c t (f + 1) true a (clr u (2 ^ a))) (y + ph c t (f + 1) (!true) a (clr u (2 ^ a)))) ∧ Below B w w' := by
  obtain ⟨z, _, hz, hix⟩ := idx_c c (a : Int) (by omega) (by rw [← Hn.out]; omega)
  rw [hh] at hz
  simp only [Bool.not_true] at hz
  have hs0 := (os.lt gs rfl)
  have hc0 := (oc.lt gc rfl)
  have hpos : 0 < 10 ^ (f + 1) := Nat.pow_pos (by decide)
  have hx2 : x ≤ 1000000000000 - 1 := by omega
  have hy2 : y ≤ 1000000000000 - 1 := by omega
  have ha0 : (0 : Int) ≤ (a : Int) := by omega
  have ha1 : (a : Int) < (n : Int) := by omega
  by_cases hat : a = t
  · have e0 : ph c t (f + 1) true a (clr u (2 ^ a)) = 0 := by rw [ph_at hat, hh]; rfl
    have e1 : ph c t (f + 1) (!true) a (clr u (2 ^ a)) = 1 := by rw [ph_at hat, hh]; rfl
    rw [e0, e1]
    obtain ⟨v0, q0⟩ := own_some oc 0 (by decide)
    obtain ⟨v1, q1⟩ := own_some oc 1 (by decide)
    have qq0 := oc.cellAt 0 (by decide)
    have qq1 := oc.cellAt 1 (by decide)
    have qc0 : w.cell? ⟨gc, 0, none⟩ = some (.int .i64 (x : Int)) := qq0
    have qc1 : w.cell? ⟨gc, 1, none⟩ = some (.int .i64 (y : Int)) := qq1
    have zf0 := oc.frozenAt 0
    have zf1 := oc.frozenAt 1
    have hst := oc.stored 1 (.int .i64 ((y : Int) + 1))
    have Hst : Hid ((w.setCell ⟨gc, 1, none⟩ (.int .i64 ((y : Int) + 1))).ownsRow B 3 1 (.slice (some ⟨gc, 0, none⟩) 2 2) 2 (rc x (y + 1))) := Lib.hid hst.1
    have Hot := Lib.hid (own_apart (g := gc) (k := 1) (u := .int .i64 ((y : Int) + 1)) os (by intro e; exact hgg (Option.some.inj e)))
    have Hbl := Lib.hid ((Below.refl B w).setCell (p := ⟨gc, 1, none⟩) hc0.1 (.int .i64 ((y : Int) + 1)))
    subst hat
    clear q0 q1 qq0 qq1 hst IH hh e0 e1 hs0 hc0 hx hy hpos os oc
    generalize cbs c = s at hix ⊢
    go_enter Tryd.func44, Tryd.ntmps44
    go_wp2_with fail
    go_none
    exact ⟨rfl, Hot.out, Hst.out, Hbl.out⟩
  · obtain ⟨m, hm⟩ : ∃ m, clr u (2 ^ a) = m := ⟨_, rfl⟩
    have h28 := two8 hn
    have hm2 : m < 2 ^ n := by rw [← hm]; exact Nat.lt_of_le_of_lt (clr_le _ _) hu
    have hm10 : m < 1024 := by omega
    obtain ⟨g0, hg0⟩ : ∃ g : Nat → Nat, g = fun x => ph c t f true x (clr m (2 ^ x)) := ⟨_, rfl⟩
    obtain ⟨g1, hg1⟩ : ∃ g : Nat → Nat, g = fun x => ph c t f (!true) x (clr m (2 ^ x)) := ⟨_, rfl⟩
    rw [hm] at hp ⊢
    have E : Hid (ph c t (f + 1) true a m = psum g0 m n ∧ ph c t (f + 1) (!true) a m = psum g1 m n) := Lib.hid (by
      rw [ph_go hat, ph_go hat, hg0, hg1, hh, ← psum_all _ hm2 hn, ← psum_all _ hm2 hn]; exact ⟨rfl, rfl⟩)
    have hsvm := sv_mark u n a ha hn
    have hsvb := sv_back u n a ha hn hb
    rw [hm] at hsvm hsvb
    have P10 : 10 ^ (f + 1) = 10 * 10 ^ f := by rw [Nat.pow_succ, Nat.mul_comm]
    have L0 := Lib.hid (fun k => psum_le g0 (10 ^ f) m (fun x => by rw [hg0]; exact ph_le c t f _ _ _) k)
    have L1 := Lib.hid (fun k => psum_le g1 (10 ^ f) m (fun x => by rw [hg1]; exact ph_le c t f _ _ _) k)
    have HC : Hid (∀ k wr, k < n → m.testBit k = true → wr.ownsRow B 4 1 (.slice (some ⟨gs, 0, none⟩) n n) n (sv m n) → wr.ownsRow B 3 1 (.slice (some ⟨gc, 0, none⟩) 2 2) 2 (rc (x + psum g0 m k) (y + psum g1 m k)) →
        Calls Tryd.prog 44 #[.string (cbs c), .int .i64 (k : Nat), .int .i64 (t : Nat), .slice (some ⟨gs, 0, none⟩) n n, .bool true, .slice (some ⟨gc, 0, none⟩) 2 2] wr fun e w' => e = .returned (.tuple #[]) ∧
        w'.ownsRow B 4 1 (.slice (some ⟨gs, 0, none⟩) n n) n (sv m n) ∧ w'.ownsRow B 3 1 (.slice (some ⟨gc, 0, none⟩) 2 2) 2 (rc (x + psum g0 m (k + 1)) (y + psum g1 m (k + 1))) ∧ Below B wr w') := Lib.hid fun k wr hk hbk o1 o2 => by
      have h1 := pc_clr ⟨m, hm10⟩ ⟨k, by omega⟩ hbk
      simp only at h1
      obtain ⟨f', hf'⟩ : ∃ f', f = f' + 1 := ⟨f - 1, by omega⟩
      have l0 := L0.out k
      have l1 := L1.out k
      have hk8 : k * 10 ^ f ≤ 7 * 10 ^ f := Nat.mul_le_mul_right _ (by omega)
      have h2 := IH.out f' hf' m k true B gs gc (x + psum g0 m k) (y + psum g1 m k) wr hk hm2 hbk (by omega) (by rw [← hf']; omega) (by rw [← hf']; omega) hgg o1 o2
      rw [← hf'] at h2
      rw [show psum g0 m (k + 1) = psum g0 m k + g0 k by rw [psum, hbk]; simp, show psum g1 m (k + 1) = psum g1 m k + g1 k by rw [psum, hbk]; simp, ← Nat.add_assoc, ← Nat.add_assoc, hg0, hg1]
      rw [hg0, hg1] at h2
      exact h2
    have HN : Hid (∀ k, m.testBit k = false → psum g0 m (k + 1) = psum g0 m k ∧ psum g1 m (k + 1) = psum g1 m k) := Lib.hid fun k hk => by
      constructor <;> (rw [psum, hk]; simp)
    have Hat : (((a : Nat) : Int) == ((t : Nat) : Int)) = false := by rw [beq_eq_false_iff_ne]; omega
    obtain ⟨v0, q0⟩ := own_some os a (by omega)
    have zf0 := os.frozenAt a
    have hst := (os.stored a (.bool true)).1
    rw [hsvm] at hst
    have Hst := Lib.hid hst
    have Hot := Lib.hid (own_apart (g := gs) (k := a) (u := .bool true) oc (by intro e; exact hgg (Option.some.inj e).symm))
    have Hbl := Lib.hid ((Below.refl B w).setCell (p := ⟨gs, a, none⟩) hs0.1 (.bool true))
    have Hsvb := Lib.hid hsvb
    obtain ⟨r0, hr0⟩ : ∃ r, ph c t (f + 1) true a m = r := ⟨_, rfl⟩
    obtain ⟨r1, hr1⟩ : ∃ r, ph c t (f + 1) (!true) a m = r := ⟨_, rfl⟩
    rw [hr0, hr1] at E ⊢
    have Hgs := Lib.hid hs0.1
    clear hst os oc hsvm hsvb hg0 hg1 hp hm IH hh hs0 hc0 hx hy hpos hr0 hr1 P10 L0 L1
    generalize cbs c = s at hix HC ⊢
    go_enter Tryd.func44, Tryd.ntmps44
    go_wp2_with fail
    go_loopw [38] (fun i wr => ∃ k : Nat, k ≤ n ∧ i = .int .i64 k ∧ wr.ownsRow B 4 1 (.slice (some ⟨gs, 0, none⟩) n n) n (sv m n) ∧ wr.ownsRow B 3 1 (.slice (some ⟨gc, 0, none⟩) 2 2) 2 (rc (x + psum g0 m k) (y + psum g1 m k)) ∧ Below B w wr) (fun i _ => n - (intOf i).toNat)
    case atStart => exact ⟨0, Nat.zero_le _, rfl, Hst.out, Hot.out, Hbl.out⟩
    case round =>
      obtain ⟨k, hk, rfl, o1, o2, hbel⟩ := hrel
      by_cases hlt : k < n
      · have hcell : wr.cell? ⟨gs, k, none⟩ = some (.bool (!m.testBit k)) := by rw [o1.cellAt k (by omega), sv_get _ _ _ hlt]
        have hb0 : (0 : Int) ≤ k := by omega
        have hb1 : (k : Int) < n := by omega
        cases ht : m.testBit k
        · rw [ht] at hcell
          simp only [Bool.not_false] at hcell
          have Hk := Lib.hid (HN.out k ht)
          have O1 := Lib.hid o1
          have O2 := Lib.hid o2
          have Hbel := Lib.hid hbel
          clear ht o1 o2 hbel
          go_wp2_with fail
          go_roundw
          case rel => exact ⟨k + 1, by omega, by go_num, O1.out, by rw [Hk.out.1, Hk.out.2]; exact O2.out, Hbel.out⟩
          case measure => simp [intOf]; omega
        · rw [ht] at hcell
          simp only [Bool.not_true] at hcell
          have HK := Lib.hid (HC.out k wr hlt ht o1 o2)
          have Hbel := Lib.hid hbel
          clear ht o1 o2 hbel
          go_wp2_with fail
          refine HK.out.mono ?_
          rintro e w2 ⟨rfl, p1, p2, hb2⟩
          have P1 := Lib.hid p1
          have P2 := Lib.hid p2
          have Hb2 := Lib.hid (Hbel.out.trans hb2)
          clear p1 p2 hb2
          go_wp2_with fail
          go_roundw
          case rel => exact ⟨k + 1, by omega, by go_num, P1.out, P2.out, Hb2.out⟩
          case measure => simp [intOf]; omega
      · obtain rfl : k = n := by omega
        obtain ⟨v1, q1⟩ := own_some o1 a (by omega)
        have zf1 := o1.frozenAt a
        have hst2 := (o1.stored a (.bool false)).1
        rw [Hsvb.out] at hst2
        have H1 := Lib.hid hst2
        have H2 := Lib.hid (own_apart (g := gs) (k := a) (u := .bool false) o2 (by intro e; exact hgg (Option.some.inj e).symm))
        have H3 := Lib.hid (hbel.setCell (p := ⟨gs, a, none⟩) Hgs.out (.bool false))
        rw [← E.out.1, ← E.out.2] at H2
        clear o1 o2 hbel hst2
        go_wp2_with fail
        go_none
        exact ⟨rfl, H1.out, H2.out, H3.out⟩

set_option maxHeartbeats 1600000 in
set_option maxRecDepth 20000 in
theorem pl_10 (c : List Bool) (t n : Nat) (Hn : Hid (n = c.length)) (hn : n ≤ 8) (f : Nat) (hf : f ≤ 8) (IH : Hid (∀ f', f = f' + 1 → PlOk c t n f')) (u a : Nat) (B gs gc x y : Nat) (w : World) (ha : a < n) (hu : u < 2 ^ n) (hb : u.testBit a = true) (hp : pc (clr u (2 ^ a)) ≤ f) (hx : x + 10 ^ (f + 1) ≤ 1000000000000) (hy : y + 10 ^ (f + 1) ≤ 1000000000000) (hgg : gs ≠ gc)
    (os : w.ownsRow B 4 1 (.slice (some ⟨gs, 0, none⟩) n n) n (sv u n)) (oc : w.ownsRow B 3 1 (.slice (some ⟨gc, 0, none⟩) 2 2) 2 (rc x y)) (hh : hon c a = false) :
    Calls Tryd.prog 44 #[.string (cbs c), .int .i64 (a : Nat), .int .i64 (t : Nat), .slice (some ⟨gs, 0, none⟩) n n, .bool true, .slice (some ⟨gc, 0, none⟩) 2 2] w fun e w' => e = .returned (.tuple #[]) ∧
    w'.ownsRow B 4 1 (.slice (some ⟨gs, 0, none⟩) n n) n (sv u n) ∧ w'.ownsRow B 3 1 (.slice (some ⟨gc, 0, none⟩) 2 2) 2 (rc (x + ph c t (f + 1) true a (clr u (2 ^ a))) (y + ph c t (f + 1) (!true) a (clr u (2 ^ a)))) ∧ Below B w w' := by
  obtain ⟨z, _, hz, hix⟩ := idx_c c (a : Int) (by omega) (by rw [← Hn.out]; omega)
  rw [hh] at hz
  simp only [Bool.not_false] at hz
  have hs0 := (os.lt gs rfl)
  have hc0 := (oc.lt gc rfl)
  have hpos : 0 < 10 ^ (f + 1) := Nat.pow_pos (by decide)
  have hx2 : x ≤ 1000000000000 - 1 := by omega
  have hy2 : y ≤ 1000000000000 - 1 := by omega
  have ha0 : (0 : Int) ≤ (a : Int) := by omega
  have ha1 : (a : Int) < (n : Int) := by omega
  by_cases hat : a = t
  · have e0 : ph c t (f + 1) true a (clr u (2 ^ a)) = 1 := by rw [ph_at hat, hh]; rfl
    have e1 : ph c t (f + 1) (!true) a (clr u (2 ^ a)) = 0 := by rw [ph_at hat, hh]; rfl
    rw [e0, e1]
    obtain ⟨v0, q0⟩ := own_some oc 0 (by decide)
    obtain ⟨v1, q1⟩ := own_some oc 1 (by decide)
    have qq0 := oc.cellAt 0 (by decide)
    have qq1 := oc.cellAt 1 (by decide)
    have qc0 : w.cell? ⟨gc, 0, none⟩ = some (.int .i64 (x : Int)) := qq0
    have qc1 : w.cell? ⟨gc, 1, none⟩ = some (.int .i64 (y : Int)) := qq1
    have zf0 := oc.frozenAt 0
    have zf1 := oc.frozenAt 1
    have hst := oc.stored 0 (.int .i64 ((x : Int) + 1))
    have Hst : Hid ((w.setCell ⟨gc, 0, none⟩ (.int .i64 ((x : Int) + 1))).ownsRow B 3 1 (.slice (some ⟨gc, 0, none⟩) 2 2) 2 (rc (x + 1) y)) := Lib.hid hst.1
    have Hot := Lib.hid (own_apart (g := gc) (k := 0) (u := .int .i64 ((x : Int) + 1)) os (by intro e; exact hgg (Option.some.inj e)))
    have Hbl := Lib.hid ((Below.refl B w).setCell (p := ⟨gc, 0, none⟩) hc0.1 (.int .i64 ((x : Int) + 1)))
    subst hat
    clear q0 q1 qq0 qq1 hst IH hh e0 e1 hs0 hc0 hx hy hpos os oc
    generalize cbs c = s at hix ⊢
    go_enter Tryd.func44, Tryd.ntmps44
    go_wp2_with fail
    go_none
    exact ⟨rfl, Hot.out, Hst.out, Hbl.out⟩
  · obtain ⟨m, hm⟩ : ∃ m, clr u (2 ^ a) = m := ⟨_, rfl⟩
    have h28 := two8 hn
    have hm2 : m < 2 ^ n := by rw [← hm]; exact Nat.lt_of_le_of_lt (clr_le _ _) hu
    have hm10 : m < 1024 := by omega
    obtain ⟨g0, hg0⟩ : ∃ g : Nat → Nat, g = fun x => ph c t f false x (clr m (2 ^ x)) := ⟨_, rfl⟩
    obtain ⟨g1, hg1⟩ : ∃ g : Nat → Nat, g = fun x => ph c t f (!false) x (clr m (2 ^ x)) := ⟨_, rfl⟩
    rw [hm] at hp ⊢
    have E : Hid (ph c t (f + 1) true a m = psum g0 m n ∧ ph c t (f + 1) (!true) a m = psum g1 m n) := Lib.hid (by
      rw [ph_go hat, ph_go hat, hg0, hg1, hh, ← psum_all _ hm2 hn, ← psum_all _ hm2 hn]; exact ⟨rfl, rfl⟩)
    have hsvm := sv_mark u n a ha hn
    have hsvb := sv_back u n a ha hn hb
    rw [hm] at hsvm hsvb
    have P10 : 10 ^ (f + 1) = 10 * 10 ^ f := by rw [Nat.pow_succ, Nat.mul_comm]
    have L0 := Lib.hid (fun k => psum_le g0 (10 ^ f) m (fun x => by rw [hg0]; exact ph_le c t f _ _ _) k)
    have L1 := Lib.hid (fun k => psum_le g1 (10 ^ f) m (fun x => by rw [hg1]; exact ph_le c t f _ _ _) k)
    have HC : Hid (∀ k wr, k < n → m.testBit k = true → wr.ownsRow B 4 1 (.slice (some ⟨gs, 0, none⟩) n n) n (sv m n) → wr.ownsRow B 3 1 (.slice (some ⟨gc, 0, none⟩) 2 2) 2 (rc (x + psum g0 m k) (y + psum g1 m k)) →
        Calls Tryd.prog 44 #[.string (cbs c), .int .i64 (k : Nat), .int .i64 (t : Nat), .slice (some ⟨gs, 0, none⟩) n n, .bool false, .slice (some ⟨gc, 0, none⟩) 2 2] wr fun e w' => e = .returned (.tuple #[]) ∧
        w'.ownsRow B 4 1 (.slice (some ⟨gs, 0, none⟩) n n) n (sv m n) ∧ w'.ownsRow B 3 1 (.slice (some ⟨gc, 0, none⟩) 2 2) 2 (rc (x + psum g0 m (k + 1)) (y + psum g1 m (k + 1))) ∧ Below B wr w') := Lib.hid fun k wr hk hbk o1 o2 => by
      have h1 := pc_clr ⟨m, hm10⟩ ⟨k, by omega⟩ hbk
      simp only at h1
      obtain ⟨f', hf'⟩ : ∃ f', f = f' + 1 := ⟨f - 1, by omega⟩
      have l0 := L0.out k
      have l1 := L1.out k
      have hk8 : k * 10 ^ f ≤ 7 * 10 ^ f := Nat.mul_le_mul_right _ (by omega)
      have h2 := IH.out f' hf' m k false B gs gc (x + psum g0 m k) (y + psum g1 m k) wr hk hm2 hbk (by omega) (by rw [← hf']; omega) (by rw [← hf']; omega) hgg o1 o2
      rw [← hf'] at h2
      rw [show psum g0 m (k + 1) = psum g0 m k + g0 k by rw [psum, hbk]; simp, show psum g1 m (k + 1) = psum g1 m k + g1 k by rw [psum, hbk]; simp, ← Nat.add_assoc, ← Nat.add_assoc, hg0, hg1]
      rw [hg0, hg1] at h2
      exact h2
    have HN : Hid (∀ k, m.testBit k = false → psum g0 m (k + 1) = psum g0 m k ∧ psum g1 m (k + 1) = psum g1 m k) := Lib.hid fun k hk => by
      constructor <;> (rw [psum, hk]; simp)
    have Hat : (((a : Nat) : Int) == ((t : Nat) : Int)) = false := by rw [beq_eq_false_iff_ne]; omega
    obtain ⟨v0, q0⟩ := own_some os a (by omega)
    have zf0 := os.frozenAt a
    have hst := (os.stored a (.bool true)).1
    rw [hsvm] at hst
    have Hst := Lib.hid hst
    have Hot := Lib.hid (own_apart (g := gs) (k := a) (u := .bool true) oc (by intro e; exact hgg (Option.some.inj e).symm))
    have Hbl := Lib.hid ((Below.refl B w).setCell (p := ⟨gs, a, none⟩) hs0.1 (.bool true))
    have Hsvb := Lib.hid hsvb
    obtain ⟨r0, hr0⟩ : ∃ r, ph c t (f + 1) true a m = r := ⟨_, rfl⟩
    obtain ⟨r1, hr1⟩ : ∃ r, ph c t (f + 1) (!true) a m = r := ⟨_, rfl⟩
    rw [hr0, hr1] at E ⊢
    have Hgs := Lib.hid hs0.1
    clear hst os oc hsvm hsvb hg0 hg1 hp hm IH hh hs0 hc0 hx hy hpos hr0 hr1 P10 L0 L1
    generalize cbs c = s at hix HC ⊢
    go_enter Tryd.func44, Tryd.ntmps44
    go_wp2_with fail
    go_loopw [38] (fun i wr => ∃ k : Nat, k ≤ n ∧ i = .int .i64 k ∧ wr.ownsRow B 4 1 (.slice (some ⟨gs, 0, none⟩) n n) n (sv m n) ∧ wr.ownsRow B 3 1 (.slice (some ⟨gc, 0, none⟩) 2 2) 2 (rc (x + psum g0 m k) (y + psum g1 m k)) ∧ Below B w wr) (fun i _ => n - (intOf i).toNat)
    case atStart => exact ⟨0, Nat.zero_le _, rfl, Hst.out, Hot.out, Hbl.out⟩
    case round =>
      obtain ⟨k, hk, rfl, o1, o2, hbel⟩ := hrel
      by_cases hlt : k < n
      · have hcell : wr.cell? ⟨gs, k, none⟩ = some (.bool (!m.testBit k)) := by rw [o1.cellAt k (by omega), sv_get _ _ _ hlt]
        have hb0 : (0 : Int) ≤ k := by omega
        have hb1 : (k : Int) < n := by omega
        cases ht : m.testBit k
        · rw [ht] at hcell
          simp only [Bool.not_false] at hcell
          have Hk := Lib.hid (HN.out k ht)
          have O1 := Lib.hid o1
          have O2 := Lib.hid o2
          have Hbel := Lib.hid hbel
          clear ht o1 o2 hbel
          go_wp2_with fail
          go_roundw
          case rel => exact ⟨k + 1, by omega, by go_num, O1.out, by rw [Hk.out.1, Hk.out.2]; exact O2.out, Hbel.out⟩
          case measure => simp [intOf]; omega
        · rw [ht] at hcell
          simp only [Bool.not_true] at hcell
          have HK := Lib.hid (HC.out k wr hlt ht o1 o2)
          have Hbel := Lib.hid hbel
          clear ht o1 o2 hbel
          go_wp2_with fail
          refine HK.out.mono ?_
          rintro e w2 ⟨rfl, p1, p2, hb2⟩
          have P1 := Lib.hid p1
          have P2 := Lib.hid p2
          have Hb2 := Lib.hid (Hbel.out.trans hb2)
          clear p1 p2 hb2
          go_wp2_with fail
          go_roundw
          case rel => exact ⟨k + 1, by omega, by go_num, P1.out, P2.out, Hb2.out⟩
          case measure => simp [intOf]; omega
      · obtain rfl : k = n := by omega
        obtain ⟨v1, q1⟩ := own_some o1 a (by omega)
        have zf1 := o1.frozenAt a
        have hst2 := (o1.stored a (.bool false)).1
        rw [Hsvb.out] at hst2
        have H1 := Lib.hid hst2
        have H2 := Lib.hid (own_apart (g := gs) (k := a) (u := .bool false) o2 (by intro e; exact hgg (Option.some.inj e).symm))
        have H3 := Lib.hid (hbel.setCell (p := ⟨gs, a, none⟩) Hgs.out (.bool false))
        rw [← E.out.1, ← E.out.2] at H2
        clear o1 o2 hbel hst2
        go_wp2_with fail
        go_none
        exact ⟨rfl, H1.out, H2.out, H3.out⟩

theorem pl_step (c : List Bool) (t n : Nat) (Hn : Hid (n = c.length)) (hn : n ≤ 8) (f : Nat) (hf : f ≤ 8) (IH : Hid (∀ f', f = f' + 1 → PlOk c t n f')) : PlOk c t n f := by
  intro u a tu B gs gc x y w ha hu hb hp hx hy hgg os oc
  cases hh : hon c a
  · cases tu
    · exact pl_00 c t n Hn hn f hf IH u a B gs gc x y w ha hu hb hp hx hy hgg os oc hh
    · exact pl_10 c t n Hn hn f hf IH u a B gs gc x y w ha hu hb hp hx hy hgg os oc hh
  · cases tu
    · exact pl_01 c t n Hn hn f hf IH u a B gs gc x y w ha hu hb hp hx hy hgg os oc hh
    · exact pl_11 c t n Hn hn f hf IH u a B gs gc x y w ha hu hb hp hx hy hgg os oc hh
theorem pl_any (c : List Bool) (t n : Nat) (Hn : Hid (n = c.length)) (hn : n ≤ 8) : ∀ f, f ≤ 8 → PlOk c t n f
  | 0, h => pl_step c t n Hn hn 0 h (Lib.hid fun f' e => by omega)
  | f + 1, h => pl_step c t n Hn hn (f + 1) h (Lib.hid fun f' e => by
      obtain rfl : f = f' := by omega
      exact pl_any c t n Hn hn f (by omega))

end Go.Proofs.YtaangjidkkpogaaDoor
