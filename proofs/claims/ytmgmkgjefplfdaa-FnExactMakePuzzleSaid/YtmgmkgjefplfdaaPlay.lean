/- What the model says is known. -/
import Derived.Test.YtmgmkgjefplfdaaKnow
import Derived.Test.YtmgmkgjefplfdaaInts
namespace Go.Proofs.Ytmgmkgjefplfdaa
open Go.ChangeShapes Go.WideShapes Go.ChangeAt Go.RowKit
set_option linter.unusedVariables false

/-- The model's list of what each friend knows, as numbers. -/
def kl (f : Nat) (s : Nat → Nat) : List Int := (List.range f).map fun i => (s i : Int)

theorem kl_length (f : Nat) (s : Nat → Nat) : (kl f s).length = f := by simp [kl]

theorem kl_get (f : Nat) (s : Nat → Nat) (i : Nat) (h : i < f) : na (kl f s) i = s i := by simp [na, kl, List.getD_eq_getElem?_getD, h]

theorem kl_succ (f : Nat) (s : Nat → Nat) : kl (f + 1) s = kl f s ++ [(s f : Int)] := by simp [kl, List.range_succ]

theorem kl_set (f : Nat) (s : Nat → Nat) (i v : Nat) : (kl f s).set i (v : Int) = kl f (upd s i v) := by
  apply List.ext_getElem?
  intro j
  rw [List.getElem?_set]
  by_cases hj : j < f
  · by_cases hij : i = j
    · subst hij; simp [kl, upd, hj]
    · simp [kl, upd, hj, hij, Ne.symm hij]
  · by_cases hij : i = j
    · subst hij; simp [kl, hj]
    · simp [kl, hj, hij]

theorem kl_own0 (f k : Nat) (h : k ≤ f) : kl k (own0 f) = (List.range k).map fun i => ((2 ^ i : Nat) : Int) := by
  apply List.ext_getElem?
  intro j
  by_cases hj : j < k
  · simp [kl, own0, hj, show j < f by omega]
  · simp [kl, hj]

theorem wrap_pow64 : ∀ k : Nat, k < 11 → wrap64 ((2 : Int) ^ k) = ((2 ^ k : Nat) : Int) := by unfold wrap64; decide

set_option maxRecDepth 20000 in
theorem caStart_any (f : Nat) (w : World) (hf : f ≤ 10) :
    Calls Try.prog 135 #[.int .i64 f] w fun e w' => ∃ v, e = .returned v ∧ w'.ownsRow w.heap.size 3 1 v f (ns (kl f (own0 f))) ∧ Below w.heap.size w w' := by
  obtain ⟨i0, hi, hz0, hz1, hz2⟩ := info_parts info3
  go_enter Try.func135, Try.ntmps135
  go_wp2_with fail
  go_loopw [3, 4] (fun v i wr => ∃ k : Nat, k ≤ f ∧ i = .int .i64 k ∧ wr.ownsRow w.heap.size 3 1 v k (ns (kl k (own0 f))) ∧ Below w.heap.size w wr) (fun _ i _ => f - (intOf i).toNat)
  case atStart => exact ⟨0, Nat.zero_le _, rfl, World.ownsRow_nil _ _ _ _, Below.refl _ _⟩
  case round =>
    obtain ⟨k, hk, rfl, hor, hbel⟩ := hrel
    by_cases hlt : k < f
    · have hsz := hbel.size
      go_wp2_with (at_builtin; refine wpList_append_own _ rfl _ _ 61 rfl w.heap.size 3 i0 (.int .i64 0) 1 8 Try.underlying61 hi hz0 hz1 hz2 rfl (by decide) _ _ _ rfl (hor.alloc _) ⟨wr.heap.size, 0, none⟩ 1 1 [.int .i64 (wrap64 (2 ^ k))] rfl rfl ?c1 ?c2 ?c3 ?c4 ?c5 ?_)
      case c1 => exact World.news_of_block (cs := #[.int .i64 (wrap64 (2 ^ k))]) (t := 3) (fr := (0, 0)) (heap_alloc_new _ _)
      case c2 => intro u hu; simp at hu; subst hu; rfl
      case c3 => unfold maxLen; omega
      case c4 => omega
      case c5 => simp; omega
      intro v' w1 hown' hgr _
      rw [wrap_pow64 k (by omega)] at hown'
      have Hown := Lib.hid hown'
      have Hbel := Lib.hid ((hbel.alloc hsz _).grown hgr (by simp; omega) (fun b hb => (hor.lt b hb).1))
      clear hown' hgr hor hbel
      go_wp2_with fail
      go_roundw
      case rel => exact ⟨k + 1, by omega, by go_num, by rw [kl_succ, ns_append, show own0 f k = 2 ^ k by simp [own0, hlt]]; exact Hown.out, Hbel.out⟩
      case measure => simp [intOf]; omega
    · obtain rfl : k = f := by omega
      have Hor := Lib.hid hor
      clear hor hlt hk
      go_wp2_with fail
      go_ret
      exact ⟨_, rfl, Hor.out, hbel⟩

theorem own_apos' {w : World} {base : Nat} {e : TypeId} {size : Nat} {v : Value} {n : Nat} {xs : List Value} (h : w.ownsRow base e size v n xs) (hn : 0 < n) : ∃ g cap, v = .slice (some ⟨g, 0, none⟩) n cap := by
  rcases h.2 with ⟨_, h0⟩ | ⟨g, cap, cur, rfl, _⟩
  · omega
  · exact ⟨g, cap, rfl⟩

theorem l1Own_any (b off cap n : Nat) (l : List Int) (w : World) (Hn : Hid (n = l.length)) (h0 : 0 < n) (hl : n ≤ 1048576) (Hc : Hid (∀ i, i < n → w.cell? ⟨b, off + i, none⟩ = some (.int .i64 (na l i)))) :
    Calls Try.prog 144 #[.slice (some ⟨b, off, none⟩) n cap] w fun e w' => ∃ g cap', e = .returned (.slice (some ⟨g, 0, none⟩) n cap') ∧ w'.ownsRow w.heap.size 3 1 (.slice (some ⟨g, 0, none⟩) n cap') n (ns l) ∧ Below w.heap.size w w' := by
  obtain ⟨i0, hi, hz0, hz1, hz2⟩ := info_parts info3
  have hown0 : (w.alloc (.cells #[] 3)).ownsRow w.heap.size 3 1 (.slice (some ⟨w.heap.size, 0, none⟩) 0 0) 0 [] := World.ownsRow_lit w #[] 0 (Nat.le_refl _) (by unfold maxLen; omega) rfl
  have Hown0 := Lib.hid hown0
  clear hown0
  have hbw : ∀ j u, (ns l)[j]? = some u → (w.alloc (.cells #[] 3)).cell? ((⟨b, off, none⟩ : Addr).add j) = some u := by
    intro j u hu
    have hj : j < n := by have := (List.getElem?_eq_some_iff.1 hu).1; rw [ns_length] at this; rw [Hn.out]; exact this
    have hc := Hc.out j hj
    rw [ns_get l j (by rw [← Hn.out]; exact hj)] at hu
    have ha : (⟨b, off, none⟩ : Addr).add j = ⟨b, off + j, none⟩ := by unfold Addr.add; split <;> simp_all
    rw [ha]
    have hb : b < w.heap.size := World.block_lt_of_cell? w _ hc
    rw [World.cell?_of_block (w := w) (Below.heap_alloc w _ _ hb), hc]
    exact hu
  have Hbw := Lib.hid hbw
  clear hbw
  go_enter Try.func144, Try.ntmps144
  go_wp2_with (at_builtin; refine wpList_append_own _ rfl _ _ 61 rfl w.heap.size 3 i0 (.int .i64 0) 1 8 Try.underlying61 hi hz0 hz1 hz2 rfl (by decide) _ _ _ rfl Hown0.out ⟨b, off, none⟩ n cap (ns l) rfl ?c0 ?c1 ?c2 ?c3 ?c4 ?c5 ?_)
  case c0 => rw [ns_length, Nat.mul_one, ← Hn.out]
  case c1 => exact Hbw.out
  case c2 => exact ns_one _
  case c3 => unfold maxLen; omega
  case c4 => omega
  case c5 => simp
  intro v' w1 hown' hgr hnil
  have Hs := Lib.hid (own_apos' hown' h0)
  obtain ⟨g, cap', hv⟩ := Hs.out
  rw [hv] at hown'
  have Hown := Lib.hid hown'
  have Hbel := Lib.hid (((Below.refl w.heap.size w).alloc (Nat.le_refl _) (.cells #[] 3)).grown hgr (by simp) (fun b hb => (Hown0.out.lt b hb).1))
  rw [hv]
  clear hown' hgr hv Hs hnil
  go_wp2_with fail
  go_ret
  exact ⟨g, cap', rfl, Hown.out, Hbel.out⟩

theorem bits_or_int (x y : Nat) (hx : x < 1024) (hy : y < 1024) : bits BinOp.or IntKind.i64 x y = ((x ||| y : Nat) : Int) := by
  have hx2 : x ||| y < 2 ^ 10 := Nat.or_lt_two_pow (n := 10) hx hy
  have h1 : (BitVec.ofInt 64 (x : Int)).toNat = x := by
    rw [BitVec.ofInt_natCast, BitVec.toNat_ofNat]; exact Nat.mod_eq_of_lt (by omega)
  have h2 : (BitVec.ofInt 64 (y : Int)).toNat = y := by
    rw [BitVec.ofInt_natCast, BitVec.toNat_ofNat]; exact Nat.mod_eq_of_lt (by omega)
  show IntKind.i64.wrap ((BitVec.ofInt 64 (x : Int) ||| BitVec.ofInt 64 (y : Int)).toNat : Int) = _
  rw [BitVec.toNat_or, h1, h2, IntKind.wrap_i64]
  omega

theorem own_lower {w : World} {b1 b2 : Nat} {e : TypeId} {size : Nat} {v : Value} {n : Nat} {xs : List Value} (h : w.ownsRow b1 e size v n xs) (hb : b2 ≤ b1) : w.ownsRow b2 e size v n xs := by
  refine ⟨h.1, ?_⟩
  rcases h.2 with hn | ⟨g, cap, cur, hv, hbg, rest⟩
  · exact .inl hn
  · exact .inr ⟨g, cap, cur, hv, by omega, rest⟩

theorem cell_below2 {w w' : World} {a : Addr} {v : Value} (hb : Below w.heap.size w w') (h : w.cell? a = some v) : w'.cell? a = some v := (hb.cell (World.block_lt_of_cell? w _ h)).trans h

set_option maxRecDepth 20000 in
theorem caMake_nat (b off cap f : Nat) (s : Nat → Nat) (x y : Nat) (w : World) (hs : ∀ i, s i < 1024) (hf : f ≤ 10) (hxy : x < y) (hy : y < f) (Hc : Hid (∀ i, i < f → w.cell? ⟨b, off + i, none⟩ = some (.int .i64 (s i)))) :
    Calls Try.prog 136 #[.slice (some ⟨b, off, none⟩) f cap, .agg #[.int .i64 x, .int .i64 y]] w fun e w' => ∃ g cap', e = .returned (.slice (some ⟨g, 0, none⟩) f cap') ∧ w'.ownsRow w.heap.size 3 1 (.slice (some ⟨g, 0, none⟩) f cap') f (ns (kl f (upd (upd s x (s x ||| s y)) y (s x ||| s y)))) ∧ Below w.heap.size w w' := by
  have Hs := Lib.hid hs
  have hbz : b < w.heap.size := World.block_lt_of_cell? w _ (Hc.out y hy)
  have HO := Lib.hid (bits_or_int (s x) (s y) (hs x) (hs y))
  clear hs
  have hx0 : (0 : Int) ≤ x := by omega
  have hx1 : (x : Int) < f := by omega
  have hy0 : (0 : Int) ≤ y := by omega
  have hy1 : (y : Int) < f := by omega
  have hc1 : ∀ i, i < f → (w.alloc (.cells #[.int .i64 x, .int .i64 y] 83)).cell? ⟨b, off + i, none⟩ = some (.int .i64 (na (kl f s) i)) := by
    intro i hi
    rw [World.cell?_of_block (w := w) (Below.heap_alloc w _ _ hbz), Hc.out i hi, kl_get f s i hi]
  have Hc1 := Lib.hid hc1
  clear hc1
  go_enter Try.func136, Try.ntmps136
  go_wp2_with fail
  refine (l1Own_any b off cap f (kl f s) _ (by show f = _; rw [kl_length]) (by omega) (by omega) Hc1).mono ?_
  rintro e w1 ⟨g, cap', rfl, own1, bel1⟩
  have q0 := cell_below2 bel1 (Hc1.out x (by omega))
  have q1 := cell_below2 bel1 (Hc1.out y hy)
  rw [kl_get f s x (by omega)] at q0
  rw [kl_get f s y hy] at q1
  have r0 : w1.cell? ⟨w.heap.size, 0, none⟩ = some (.int .i64 x) := cell_below2 bel1 (by rw [cell_of_row _ _ _ _ _ _ (heap_alloc_new w _)]; rfl)
  have r1 : w1.cell? ⟨w.heap.size, 1, none⟩ = some (.int .i64 y) := cell_below2 bel1 (by rw [cell_of_row _ _ _ _ _ _ (heap_alloc_new w _)]; rfl)
  have hg := (own1.lt g rfl).1
  have hgw : w.heap.size + 1 ≤ g := by simpa using hg
  have hb1 : Below w.heap.size w w1 := ((Below.refl _ _).alloc (Nat.le_refl _) _).trans (bel1.mono (by simp))
  have Hown1 := Lib.hid own1
  clear own1 bel1 hg
  go_wp2_with fail
  go_quiet (fail)
  obtain ⟨u0, z0⟩ := own_some Hown1.out x (by omega)
  obtain ⟨u1, z1⟩ := own_some Hown1.out y (by omega)
  have zf0 := Hown1.out.frozenAt x
  have zf1 := Hown1.out.frozenAt y
  go_wp2_with fail
  go_ret
  have o1 : (w1.drewN nq).ownsRow w.heap.size 3 1 (.slice (some ⟨g, 0, none⟩) f cap') f (ns (kl f s)) := (own_lower Hown1.out (by simp))
  have o2 := ((o1.stored x (.int .i64 (bits BinOp.or IntKind.i64 (s x) (s y)))).1.stored y (.int .i64 (bits BinOp.or IntKind.i64 (s x) (s y)))).1
  rw [HO.out, ns_set, ns_set, kl_set, kl_set] at o2
  rw [HO.out]
  exact ⟨g, cap', rfl, o2, ((below_drewN hb1 _).setCell (by show _ ≤ g; omega) _).setCell (by show _ ≤ g; omega) _⟩

theorem caMake_int (b off cap f : Nat) (s : Nat → Nat) (x y : Int) (w : World) (hs : ∀ i, s i < 1024) (hf : f ≤ 10) (hx : 0 ≤ x) (hxy : x < y) (hy : y < f) (Hc : Hid (∀ i, i < f → w.cell? ⟨b, off + i, none⟩ = some (.int .i64 (s i)))) :
    Calls Try.prog 136 #[.slice (some ⟨b, off, none⟩) f cap, .agg #[.int .i64 x, .int .i64 y]] w fun e w' => ∃ g cap', e = .returned (.slice (some ⟨g, 0, none⟩) f cap') ∧ w'.ownsRow w.heap.size 3 1 (.slice (some ⟨g, 0, none⟩) f cap') f (ns (kl f (stp s (x, y)))) ∧ Below w.heap.size w w' := by
  obtain ⟨x, rfl⟩ := Int.eq_ofNat_of_zero_le hx
  obtain ⟨y, rfl⟩ := Int.eq_ofNat_of_zero_le (show 0 ≤ y by omega)
  exact caMake_nat b off cap f s x y w hs hf (by omega) (by omega) Hc

/-- A value that owns what each friend knows reads so. -/
theorem kl_cells {w : World} {base g cap f : Nat} {s : Nat → Nat} (h : w.ownsRow base 3 1 (.slice (some ⟨g, 0, none⟩) f cap) f (ns (kl f s))) : ∀ i, i < f → w.cell? ⟨g, 0 + i, none⟩ = some (.int .i64 (s i)) := by
  intro i hi
  have h1 := h.cellAt i (by omega)
  rw [ns_get _ i (by rw [kl_length]; exact hi), kl_get f s i hi] at h1
  rw [Nat.zero_add]
  exact h1

set_option maxRecDepth 20000 in
theorem caPlay_pos (b off cap : Nat) (f : Nat) (l : List (Int × Int)) (n : Nat) (w : World) (Hn : Hid (n = l.length)) (hl : n ≤ 60) (hg : gdB (f : Int) l = true)
    (Hc : Hid (∀ i, i < n → w.cell? ⟨b, off + i * 2, none⟩ = some (.int .i64 (ca l i)) ∧ w.cell? ⟨b, off + i * 2 + 1, none⟩ = some (.int .i64 (cb l i)))) :
    Calls Try.prog 119 #[.int .i64 f, .slice (some ⟨b, off, none⟩) n cap] w fun e w' => ∃ v, e = .returned v ∧ w'.ownsRow w.heap.size 3 1 v f (ns (kl f (play f l))) ∧ Below w.heap.size w w' := by
  have hff := gd_fr hg
  have Hg := Lib.hid hg
  clear hg
  go_enter Try.func119, Try.ntmps119
  go_wp2_with fail
  refine (caStart_any f w (by omega)).mono ?_
  rintro e w1 ⟨v1, rfl, own1, bel1⟩
  have Hown1 := Lib.hid own1
  have Hbel1 := Lib.hid bel1
  clear own1 bel1
  go_wp2_with fail
  go_loopw [5, 12] (fun v i wr => ∃ k : Nat, k ≤ n ∧ i = .int .i64 k ∧ wr.ownsRow w.heap.size 3 1 v f (ns (kl f (play f (l.take k)))) ∧ Below w.heap.size w wr) (fun _ i _ => n - (intOf i).toNat)
  case atStart => exact ⟨0, Nat.zero_le _, rfl, Hown1.out, Hbel1.out⟩
  case round =>
    obtain ⟨k, hk, rfl, hor, hbel⟩ := hrel
    by_cases hlt : k < n
    · have h0 := hbel.cell (p := ⟨b, off + k * 2, none⟩) (World.block_lt_of_cell? w _ (Hc.out k hlt).1)
      have h1 := hbel.cell (p := ⟨b, off + k * 2 + 1, none⟩) (World.block_lt_of_cell? w _ (Hc.out k hlt).2)
      rw [(Hc.out k hlt).1] at h0
      rw [(Hc.out k hlt).2] at h1
      have hgc := gd_call Hg.out (by rw [← Hn.out]; exact hlt)
      obtain ⟨g, cap', hv⟩ := own_apos' hor (by omega)
      have hor2 := hor.alloc (.cells #[.int .i64 (ca l k), .int .i64 (cb l k)] 83)
      rw [hv] at hor2
      have Hor := Lib.hid hor2
      have hsz := hbel.size
      rw [hv]
      clear hor hor2 hv
      go_wp2_with fail
      refine (caMake_int g 0 cap' f (play f (l.take k)) _ _ _ (play_small f (by omega) _) (by omega) hgc.1 hgc.2.1 (by omega) (kl_cells Hor.out)).mono ?_
      rintro e w3 ⟨g3, cap3, rfl, own3, bel3⟩
      have hb3 : Below w.heap.size w w3 := (hbel.alloc hsz _).trans (bel3.mono (by simp; omega))
      have own4 := own_lower own3 (b2 := w.heap.size) (by simp; omega)
      rw [← play_succ f l k (by rw [← Hn.out]; exact hlt)] at own4
      have Hown4 := Lib.hid own4
      clear own3 own4 bel3 hbel h0 h1
      go_wp2_with fail
      go_roundw
      case rel => exact ⟨k + 1, by omega, by go_num, Hown4.out, hb3⟩
      case measure => simp [intOf]; omega
    · obtain rfl : k = n := by omega
      have hp : l.take k = l := List.take_of_length_le (by rw [← Hn.out]; exact Nat.le_refl _)
      rw [hp] at hor
      have Hor := Lib.hid hor
      clear hor hlt hk hp
      go_wp2_with fail
      go_ret
      exact ⟨_, rfl, Hor.out, hbel⟩

set_option maxRecDepth 20000 in
theorem caPlay_zero (ao : Option Addr) (cap : Nat) (f : Nat) (w : World) (hf : f ≤ 10) :
    Calls Try.prog 119 #[.int .i64 f, .slice ao 0 cap] w fun e w' => ∃ v, e = .returned v ∧ w'.ownsRow w.heap.size 3 1 v f (ns (kl f (own0 f))) ∧ Below w.heap.size w w' := by
  go_enter Try.func119, Try.ntmps119
  go_wp2_with fail
  refine (caStart_any f w (by omega)).mono ?_
  rintro e w1 ⟨v1, rfl, own1, bel1⟩
  have Hown1 := Lib.hid own1
  clear own1
  go_wp2_with fail
  go_rounds 1
  go_ret
  exact ⟨_, rfl, Hown1.out, bel1⟩

/-- What the model says is known behind calls. -/
theorem caPlay_any (f : Nat) (ao : Option Addr) (cap : Nat) (l : List (Int × Int)) (n : Nat) (w : World) (Hn : Hid (n = l.length)) (hg : gdB (f : Int) l = true) (hc : CallsAt w ao l) :
    Calls Try.prog 119 #[.int .i64 f, .slice ao n cap] w fun e w' => ∃ v, e = .returned v ∧ w'.ownsRow w.heap.size 3 1 v f (ns (kl f (play f l))) ∧ Below w.heap.size w w' := by
  have hf := gd_fr hg
  by_cases h0 : n = 0
  · subst h0
    have : l = [] := List.eq_nil_of_length_eq_zero Hn.out.symm
    subst this
    exact caPlay_zero ao cap f w (by omega)
  · rcases hc with h | ⟨b, off, rfl, hc⟩
    · subst h; exact absurd Hn.out h0
    · exact caPlay_pos b off cap f l n w Hn (by rw [Hn.out]; exact gd_len' hg) hg (by rw [Hn.out]; exact hc)

end Go.Proofs.Ytmgmkgjefplfdaa
