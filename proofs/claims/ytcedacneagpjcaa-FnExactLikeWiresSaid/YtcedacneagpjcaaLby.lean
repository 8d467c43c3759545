/- The wires of each label: the program. -/
import Derived.Test.YtcedacneagpjcaaMe
namespace Go.Proofs.Ytcedacneagpjcaa
open Go.ChangeShapes Go.WideShapes Go.ChangeAt Go.RowKit Go.Maps
set_option linter.unusedVariables false


def inR (x : Int) : Prop := 0 ≤ x ∧ x < 13

/-- The wires with one label, among the first k. -/
def wz (l m : List Int) (k : Nat) (x y : Int) : List Int := ((List.range k).filter fun i => decide (((sz l i : Nat) : Int) = x ∧ ((sz m i : Nat) : Int) = y)).map fun i => ((i : Nat) : Int)

theorem wz_succ (l m : List Int) (k : Nat) (x y : Int) : wz l m (k + 1) x y = if ((sz l k : Nat) : Int) = x ∧ ((sz m k : Nat) : Int) = y then wz l m k x y ++ [((k : Nat) : Int)] else wz l m k x y := by
  unfold wz
  rw [List.range_succ, List.filter_append, List.map_append]
  by_cases h : ((sz l k : Nat) : Int) = x ∧ ((sz m k : Nat) : Int) = y
  · rw [if_pos h]; simp [h]
  · rw [if_neg h]; simp [h]

theorem wz_len (l m : List Int) (k : Nat) (x y : Int) : (wz l m k x y).length ≤ k := by
  unfold wz
  rw [List.length_map]
  have := List.length_filter_le (fun i => decide (((sz l i : Nat) : Int) = x ∧ ((sz m i : Nat) : Int) = y)) (List.range k)
  rw [List.length_range] at this; exact this

/-- A map from labels to lists of the call's own. -/
structure GrpD (w : World) (base : Nat) (D : DataW Value) (V : Int → Int → Value) (Z : Int → Int → List Int) : Prop where
  isMap : Maps.IsMap D
  look : ∀ x y, inR x → inR y → D.atKey (kx x y) (.held nlV) = .held (V x y)
  own : ∀ x y, inR x → inR y → w.ownsRow base 3 1 (V x y) (Z x y).length (ns (Z x y))
  apart : ∀ x y x' y' g, inR x → inR y → inR x' → inR y' → ¬ (x' = x ∧ y' = y) → (V x y).ownBlock = some g → (V x' y').ownBlock ≠ some g
  has : ∀ x y, inR x → inR y → (Maps.has D (kx x y) = true ↔ Z x y ≠ [])
  keys : ∀ kl, Maps.has D kl = true → ∃ x y, inR x ∧ inR y ∧ kl = kx x y

theorem GrpD.nil (w : World) (base : Nat) : GrpD w base (.map []) (fun _ _ => nlV) (fun _ _ => []) where
  isMap := ⟨_, rfl⟩
  look x y _ _ := by
    have h : Maps.has (.map [] : DataW Value) (kx x y) = false := by generalize kx x y = q; rfl
    rw [Maps.atKey_of_not_has h]
  own x y _ _ := World.ownsRow_nil _ _ _ _
  apart x y x' y' g _ _ _ _ _ h := by cases h
  has x y _ _ := by
    have h : Maps.has (.map [] : DataW Value) (kx x y) = false := by generalize kx x y = q; rfl
    rw [h]; simp
  keys kl h := by cases h

theorem GrpD.stay {w w' : World} {base : Nat} {D : DataW Value} {V : Int → Int → Value} {Z : Int → Int → List Int} (h : GrpD w base D V Z) (ho : ∀ x y, inR x → inR y → w'.ownsRow base 3 1 (V x y) (Z x y).length (ns (Z x y))) : GrpD w' base D V Z :=
  ⟨h.isMap, h.look, ho, h.apart, h.has, h.keys⟩

theorem GrpD.put {w w' : World} {base : Nat} {D : DataW Value} {V : Int → Int → Value} {Z : Int → Int → List Int} (h : GrpD w base D V Z) {x y : Int} (hx : inR x) (hy : inR y) {v' : Value} {k : Int}
    (hown : w'.ownsRow base 3 1 v' (Z x y ++ [k]).length (ns (Z x y ++ [k]))) (hold : ∀ a b, inR a → inR b → ¬ (a = x ∧ b = y) → w'.ownsRow base 3 1 (V a b) (Z a b).length (ns (Z a b)))
    (hlie : ∀ g, v'.ownBlock = some g → (V x y).ownBlock = some g ∨ w.heap.size ≤ g) :
    GrpD w' base (D.put (kx x y) (.held v')) (fun a b => if a = x ∧ b = y then v' else V a b) (fun a b => if a = x ∧ b = y then Z x y ++ [k] else Z a b) := by
  have hk : WideAt.IsKeyLit (kx x y) := law_lb.key (key_lb hx hy)
  have hne : ∀ a b, inR a → inR b → ¬ (a = x ∧ b = y) → kx a b ≠ kx x y := fun a b ha hb hn e => hn (kx_inj ha hb hx hy e)
  have far : ∀ a b g, inR a → inR b → ¬ (a = x ∧ b = y) → v'.ownBlock = some g → (V a b).ownBlock ≠ some g := fun a b g ha hb hn hg => by
    rcases hlie g hg with h1 | h1
    · exact h.apart x y a b g hx hy ha hb hn h1
    · intro h2
      have := ((h.own a b ha hb).lt g h2).2
      omega
  refine ⟨h.isMap.put _ _, fun a b ha hb => ?_, fun a b ha hb => ?_, fun a b a' b' g ha hb ha' hb' hn hg => ?_, fun a b ha hb => ?_, fun kl hkl => ?_⟩
  · by_cases e : a = x ∧ b = y
    · simp only [if_pos e]
      rw [e.1, e.2, Maps.atKey_put_same h.isMap hk]
    · simp only [if_neg e]
      rw [Maps.atKey_put_other (hne a b ha hb e)]
      exact h.look a b ha hb
  · by_cases e : a = x ∧ b = y
    · simp only [if_pos e]; exact hown
    · simp only [if_neg e]; exact hold a b ha hb e
  · by_cases e : a = x ∧ b = y
    · simp only [if_pos e] at hg
      have e2 : ¬ (a' = x ∧ b' = y) := fun h2 => hn ⟨by rw [h2.1, e.1], by rw [h2.2, e.2]⟩
      simp only [if_neg e2]
      exact far a' b' g ha' hb' e2 hg
    · simp only [if_neg e] at hg
      by_cases e2 : a' = x ∧ b' = y
      · simp only [if_pos e2]
        intro h3
        exact far a b g ha hb e h3 hg
      · simp only [if_neg e2]
        exact h.apart a b a' b' g ha hb ha' hb' hn hg
  · by_cases e : a = x ∧ b = y
    · simp only [if_pos e]
      rw [e.1, e.2, Maps.has_put_same h.isMap hk]; simp
    · simp only [if_neg e]
      rw [Maps.has_put_other (hne a b ha hb e)]
      exact h.has a b ha hb
  · by_cases e : kl = kx x y
    · exact ⟨x, y, hx, hy, e⟩
    · rw [Maps.has_put_other e] at hkl
      exact h.keys kl hkl

set_option maxHeartbeats 1600000 in
set_option maxRecDepth 20000 in
theorem labelledBy_pos (w : World) (b off ka b' off' kb : Nat) (l m : List Int) (n : Nat) (Hn : Hid (n = l.length)) (Hm : Hid (n = m.length)) (Hg : Hid (grB l = true)) (Hg2 : Hid (grB m = true))
    (Hc : Hid (∀ i, i < n → w.cell? ⟨b, off + i, none⟩ = some (.int .i64 (na l i)))) (Hd : Hid (∀ i, i < n → w.cell? ⟨b', off' + i, none⟩ = some (.int .i64 (na m i)))) :
    Calls Try.prog 53 #[.slice (some ⟨b, off, none⟩) n ka, .slice (some ⟨b', off', none⟩) n kb] w fun e w' => ∃ B D V, e = .returned (.map (some B)) ∧ w'.ownsMap Try.prog 60 RV B n D ∧ GrpD w' (B + 1) D V (wz l m n) ∧ w.heap.size ≤ B ∧ Below w.heap.size w w' := by
  obtain ⟨i3, hi3, hz30, hz31, hz32⟩ := info_parts info3
  have hlen := grB_len Hg.out
  have hn12 : n ≤ 12 := by have := Hn.out; omega
  have HM0 := Lib.hid (World.ownsMap_made (H := Value) w Try.prog 60 RV)
  have HB0 := Lib.hid ((Below.refl w.heap.size w).alloc (Nat.le_refl _) (.map #[] 0))
  have hmm := @run_makeMap Try.prog
  obtain ⟨B, hB⟩ : ∃ B, B = w.heap.size := ⟨_, rfl⟩
  have hBw : w.heap.size ≤ B := by omega
  have HBq := Lib.hid hB
  obtain ⟨wm, hwm⟩ : ∃ wm, wm = w.alloc (.map #[] 0) := ⟨_, rfl⟩
  rw [← hB, ← hwm] at HM0
  rw [← hwm] at HB0
  have Hwm := Lib.hid hwm
  have hBm : B < wm.heap.size := HM0.out.lt
  clear hlen hB hwm
  go_enter Try.func53, Try.ntmps53
  go_upto_region 2 with (fail)
  rw [← Hwm.out, ← HBq.out]
  go_wp2_with fail
  refine (labelsOf_pos wm b off ka b' off' kb l m n Hn Hm Hg Hg2 (fun i hi => cell_old HB0.out (Hc.out i hi)) (fun i hi => cell_old HB0.out (Hd.out i hi))).mono ?_
  rintro e w1 ⟨g, c, rfl, hO, hb1⟩
  have HLl : Hid (n = (LB l m).length) := by show _ = _; rw [LB_length]; exact Hn.out
  have HO := Lib.hid hO
  have Hb1 := Lib.hid (HB0.out.trans (hb1.mono HB0.out.size))
  have hgB : g ≠ B := by have := (hO.lt g rfl).1; omega
  have HM1 : Hid (w1.ownsMap Try.prog 60 RV B 0 (.map [] : DataW Value)) := by
    obtain ⟨es, clock, hb, F, hs, hD⟩ := HM0.out
    exact ⟨es, clock, (hb1.block B hBm).trans hb, F, hs, hD⟩
  have hB1 : B < w1.heap.size := Nat.lt_of_lt_of_le hBm hb1.size
  clear hO hb1
  go_wp2_with fail
  go_loopw [13] (fun i wr => ∃ (k : Nat) (D : DataW Value) (V : Int → Int → Value), k ≤ n ∧ i = .int .i64 k ∧ Hid (wr.ownsMap Try.prog 60 RV B k D) ∧ Hid (GrpD wr (B + 1) D V (wz l m k)) ∧ B < wr.heap.size ∧ wr.ownsRow w.heap.size 60 2 (.slice (some ⟨g, 0, none⟩) n c) n (cs (LB l m)) ∧ Hid (∀ x y h, inR x → inR y → (V x y).ownBlock = some h → h ≠ g) ∧ Below w.heap.size w wr) (fun i _ => n - (intOf i).toNat)
  case atStart => exact ⟨0, .map [], fun _ _ => nlV, Nat.zero_le _, rfl, HM1, GrpD.nil _ _, hB1, own_base HB0.out.size HO.out, (fun _ _ _ _ _ h => by cases h), Hb1.out⟩
  case round =>
    obtain ⟨k, D, V, hk, rfl, HM, HS, hBr, hor, HV, hbel⟩ := hrel
    by_cases hlt : k < n
    · have hkl : k < l.length := by have := Hn.out; omega
      have hcell := own_cells hor HLl.out k hlt
      rw [LB_a l m k hkl, LB_b l m k hkl] at hcell
      have hx1 := sz_le l k
      have hy1 := sz_le m k
      have hnl := Hn.out
      have hnm := Hm.out
      have hws := fun a b => wz_succ l m k a b
      obtain ⟨x, hx⟩ : ∃ x, ((sz l k : Nat) : Int) = x := ⟨_, rfl⟩
      obtain ⟨y, hy⟩ : ∃ x, ((sz m k : Nat) : Int) = x := ⟨_, rfl⟩
      rw [hx, hy] at hcell hws
      have hxx : inR x := by unfold inR; omega
      have hyy : inR y := by unfold inR; omega
      obtain ⟨h0, h1⟩ := hcell
      have hsz := hbel.size
      have hzl := wz_len l m k x y
      obtain ⟨Z, hZ⟩ : ∃ Z, wz l m k = Z := ⟨_, rfl⟩
      rw [hZ] at HS hws hzl
      obtain ⟨wA, hwA⟩ : ∃ wA, wA = (wr.alloc (.cells #[.int .i64 x, .int .i64 y] 60)).alloc (.cells #[.int .i64 (k : Int)] 3) := ⟨_, rfl⟩
      have bA : Below wr.heap.size wr wA := by rw [hwA]; exact ((Below.refl _ _).alloc (Nat.le_refl _) _).alloc (by simp) _
      have hsA : wA.heap.size = wr.heap.size + 2 := by rw [hwA]; simp
      have hMA : wA.ownsMap Try.prog 60 RV B k D := by rw [hwA]; exact (HM.out.alloc _).alloc _
      have hckA : wA.cell? ⟨wr.heap.size + 1, 0, none⟩ = some (.int .i64 (k : Int)) := by
        rw [hwA]
        have e : (wr.alloc (.cells #[.int .i64 x, .int .i64 y] 60)).heap.size = wr.heap.size + 1 := by simp
        rw [← e, cell_of_row _ _ _ _ _ _ (heap_alloc_new _ _)]; rfl
      have e0 : (wr.alloc (.cells #[.int .i64 x, .int .i64 y] 60)).cell? ⟨wr.heap.size, 0, none⟩ = some (.int .i64 x) := by rw [cell_of_row _ _ _ _ _ _ (heap_alloc_new wr _)]; rfl
      have e1 : (wr.alloc (.cells #[.int .i64 x, .int .i64 y] 60)).cell? ⟨wr.heap.size, 1, none⟩ = some (.int .i64 y) := by rw [cell_of_row _ _ _ _ _ _ (heap_alloc_new wr _)]; rfl
      obtain ⟨v0, st, w5, hrun, hat, hg1, hsz1, hback⟩ := entry_lb hMA (by unfold maxLen; omega) (key_lb hxx hyy)
      have hv0 : v0 = V x y := by
        have h2 := HS.out.look x y hxx hyy
        rw [hat] at h2
        injection h2
      subst hv0
      have hownV := HS.out.own x y hxx hyy
      obtain ⟨aoV, capV, hVe, _⟩ := nums_shape hownV rfl
      obtain ⟨q, hq⟩ : ∃ q, (Z x y).length = q := ⟨_, rfl⟩
      have hnB : ∀ a b, inR a → inR b → (V a b).ownBlock ≠ some B := fun a b ha hb h2 => by
        have := ((HS.out.own a b ha hb).lt B h2).1
        omega
      have hall5 : ∀ a b, inR a → inR b → w5.ownsRow (B + 1) 3 1 (V a b) (Z a b).length (ns (Z a b)) := fun a b ha hb =>
        (own_later (HS.out.own a b ha hb) bA).kept hg1 (.inr (hnB a b ha hb))
      have hor5 : w5.ownsRow w.heap.size 60 2 (.slice (some ⟨g, 0, none⟩) n c) n (cs (LB l m)) := (own_later hor bA).kept hg1 (.inr (by show (some g : Option Nat) ≠ some B; intro e; injection e with e; exact hgB e))
      have hb5 : Below w.heap.size w w5 := (hbel.trans (bA.mono hsz)).grown hg1 (by omega) (fun q hq => by cases hq; exact hBw)
      have hck5 : w5.cell? ⟨wr.heap.size + 1, 0, none⟩ = some (.int .i64 (k : Int)) := by
        rw [hg1.cell_far _ (show wr.heap.size + 1 < wA.heap.size by omega) (by show some (wr.heap.size + 1) ≠ some B; intro e; injection e; omega)]; exact hckA
      rw [hVe] at hrun
      rw [hq] at hVe
      have hB5 : B + 1 ≤ w5.heap.size := by omega
      have hS5 : wr.heap.size ≤ w5.heap.size := by omega
      have hgl : g < wr.heap.size := (hor.lt g rfl).2
      have Hall5 := Lib.hid hall5
      have Hor5 := Lib.hid hor5
      have Hb5 := Lib.hid hb5
      have Hck5 := Lib.hid hck5
      have Hback := Lib.hid hback
      have HVe := Lib.hid hVe
      have HnB := Lib.hid hnB
      have Hws := Lib.hid hws
      have Hxx := Lib.hid hxx
      have Hyy := Lib.hid hyy
      have HZ := Lib.hid hZ
      have Hq := Lib.hid hq
      have HownV : Hid (w5.ownsRow (B + 1) 3 1 (.slice aoV q capV) q (ns (Z x y))) := by
        show World.ownsRow _ _ _ _ _ _ _
        have h2 := hall5 x y hxx hyy
        rw [hVe, hq] at h2
        exact h2
      rw [hq] at hrun hzl
      rw [hwA] at hrun
      clear hall5 hor5 hb5 hck5 hback hVe hnB hws hxx hyy hZ hq hownV hat hg1 hMA bA hckA HM hor hbel hnl hnm hx1 hy1 hx hy hsA
      go_wp2_with (at_builtin; refine push_num _ rfl _ _ 22 rfl (B + 1) i3 Try.underlying22 hi3 hz30 hz31 hz32 (.slice aoV q capV) (Z x y) q rfl HownV.out (by omega) (k : Int) 1 (wr.heap.size + 1) rfl Hck5.out (by omega) ?_)
      intro g9 cap9 w9 own9 hgr9 hat9
      have hne9 : some B ≠ (Value.slice aoV q capV).ownBlock := by
        have h2 := HnB.out x y Hxx.out Hyy.out
        rw [HVe.out] at h2
        exact fun e => h2 e.symm
      have hgB9 : B + 1 ≤ g9 := (own9.lt g9 rfl).1
      have hs9 : w5.heap.size ≤ w9.heap.size := hgr9.size
      obtain ⟨w10, hst, hown10, hg10, hsz10⟩ := Hback.out w9 _ hgr9 hne9 (.slice (some ⟨g9, 0, none⟩) (q + 1) cap9)
      have hA : w10.ownsRow (B + 1) 3 1 (.slice (some ⟨g9, 0, none⟩) (q + 1) cap9) (Z x y ++ [(k : Int)]).length (ns (Z x y ++ [(k : Int)])) := by
        rw [List.length_append, List.length_singleton, Hq.out]
        exact own9.kept hg10 (.inr (by show some g9 ≠ some B; intro e; injection e; omega))
      have hap : ∀ a b, inR a → inR b → ¬ (a = x ∧ b = y) → (V a b).ownBlock = none ∨ (V a b).ownBlock ≠ (Value.slice aoV q capV).ownBlock := fun a b ha hb hn => by
        cases h2 : (V a b).ownBlock with
        | none => exact .inl rfl
        | some h =>
          right
          intro e
          exact HS.out.apart x y a b h Hxx.out Hyy.out ha hb hn (by rw [HVe.out]; exact e.symm) h2
      have hold : ∀ a b, inR a → inR b → ¬ (a = x ∧ b = y) → w10.ownsRow (B + 1) 3 1 (V a b) (Z a b).length (ns (Z a b)) := fun a b ha hb hn =>
        ((Hall5.out a b ha hb).kept hgr9 (hap a b ha hb hn)).kept hg10 (.inr (HnB.out a b ha hb))
      have hput := HS.out.put Hxx.out Hyy.out hA hold (fun g2 hg2 => by
        have e : g9 = g2 := by injection hg2
        subst e
        rcases hat9 with h2 | h2
        · exact .inl (by rw [HVe.out]; exact h2)
        · exact .inr (by omega))
      have hZ2 : (fun a b => if a = x ∧ b = y then Z x y ++ [(k : Int)] else Z a b) = wz l m (k + 1) := by
        funext a b
        rw [Hws.out a b]
        by_cases e : a = x ∧ b = y
        · rw [if_pos e, if_pos ⟨e.1.symm, e.2.symm⟩, e.1, e.2]
        · rw [if_neg e, if_neg (fun h2 => e ⟨h2.1.symm, h2.2.symm⟩)]
      rw [hZ2] at hput
      have hor10 := (Hor5.out.kept hgr9 (.inr (by
        show some g ≠ _
        intro e
        exact HV.out x y g Hxx.out Hyy.out (by rw [HVe.out]; exact e.symm) rfl))).kept hg10 (.inr (by show (some g : Option Nat) ≠ some B; intro e; injection e with e; exact hgB e))
      have hV10 : ∀ a b h, inR a → inR b → ((fun a b => if a = x ∧ b = y then (Value.slice (some ⟨g9, 0, none⟩) (q + 1) cap9) else V a b) a b).ownBlock = some h → h ≠ g := fun a b h ha hb hh => by
        by_cases e : a = x ∧ b = y
        · simp only [if_pos e] at hh
          have e2 : g9 = h := by injection hh
          subst e2
          rcases hat9 with h2 | h2
          · exact HV.out x y g9 Hxx.out Hyy.out (by rw [HVe.out]; exact h2)
          · omega
        · simp only [if_neg e] at hh
          exact HV.out a b h ha hb hh
      have hb9 := Hb5.out.grown hgr9 (by omega) (fun bb hb => by have := (HownV.out.lt bb hb).1; omega)
      have hb10 := hb9.grown hg10 (by omega) (fun q hq => by cases hq; exact hBw)
      have hB10 : B < w10.heap.size := by omega
      have HM10 := Lib.hid hown10
      have HG10 := Lib.hid hput
      have Hor10 := Lib.hid hor10
      have HV10 := Lib.hid hV10
      have Hb10 := Lib.hid hb10
      clear hown10 hput hor10 hV10 hb10 hb9 hZ2 hold hap hA hne9 own9 hgr9 hat9 hg10 Hall5 Hor5 Hb5 Hck5 Hback HVe HnB HownV
      go_wp2_with fail
      go_roundw
      case rel => exact ⟨k + 1, _, _, by omega, by go_num, HM10, HG10, hB10, Hor10.out, HV10, Hb10.out⟩
      case measure => simp [intOf]; omega
    · obtain rfl : k = n := by omega
      have Hor := Lib.hid hor
      clear hor
      go_wp2_with fail
      go_ret
      exact ⟨B, D, V, rfl, HM.out, HS.out, hBw, hbel⟩

end Go.Proofs.Ytcedacneagpjcaa
