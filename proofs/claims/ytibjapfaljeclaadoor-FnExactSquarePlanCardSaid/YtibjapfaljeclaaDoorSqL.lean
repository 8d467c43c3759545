/- Lists of the members of a set; what lies apart from what grows. -/
import Derived.Test.YtibjapfaljeclaaDoorSqS
namespace Go.Proofs.YtibjapfaljeclaaDoor
open Go.ChangeShapes Go.WideShapes Go.ChangeAt Go.RowKit
set_option linter.unusedVariables false

theorem wrap_pow16 : ∀ k : Nat, k < 10 → IntKind.u16.wrap ((2 : Int) ^ k) = ((2 ^ k : Nat) : Int) := wrap_pow

theorem and_pow (n x : Nat) : n &&& 2 ^ x = if n.testBit x then 2 ^ x else 0 := by
  apply Nat.eq_of_testBit_eq
  intro i
  rw [Nat.testBit_and, Nat.testBit_two_pow]
  by_cases h : x = i
  · subst h
    cases hb : n.testBit x <;> simp [Nat.testBit_two_pow_self]
  · cases hb : n.testBit x <;> simp [h]

theorem has_test (n x : Nat) (hn : n < 1024) (hx : x < 10) : (bits BinOp.and IntKind.u16 (n : Int) (IntKind.u16.wrap (2 ^ x)) != 0) = n.testBit x := by
  rw [wrap_pow16 x hx, bits_and_nat n (2 ^ x) hn (pow_small x hx), and_pow]
  have hp : 0 < 2 ^ x := Nat.two_pow_pos x
  cases n.testBit x
  · simp
  · simp only [if_true]; rw [bne_iff_ne]; omega

theorem has_any (n x : Nat) (w : World) (hn : n < 1024) (hx : x < 10) :
    Calls Tryd.prog 53 #[.int .u16 n, .int .i64 x] w fun e w' => e = .returned (.bool (n.testBit x)) ∧ w = w' := by
  have HT := Lib.hid (has_test n x hn hx)
  go_enter Tryd.func53, Tryd.ntmps53
  go_wp2
  go_ret
  exact ⟨ret_bool HT.out, rfl⟩

set_option maxRecDepth 20000 in
theorem list_any (x : Nat) (w : World) (hx : x < 1024) :
    Calls Tryd.prog 56 #[.int .u16 x] w fun e w' => ∃ v, e = .returned v ∧ w'.ownsRow w.heap.size 3 1 v (pc x) (ns (bl x 10)) ∧ Below w.heap.size w w' := by
  obtain ⟨i0, hi, hz0, hz1, hz2⟩ := info_parts info3
  have hpc : pc x ≤ 10 := by have := bl_le x 10; rw [bl_length] at this; exact this
  go_enter Tryd.func56, Tryd.ntmps56
  go_wp2_with fail
  refine (setCount_any x w hx).mono ?_
  rintro e w1 ⟨rfl, hb1⟩
  have hs1 := hb1.size
  go_wp2_with (refine wpList_make_own _ rfl _ _ 33 rfl w.heap.size 3 i0 (.int .i64 0) 1 Tryd.underlying33 hi hz0 hz1 .i64 .i64 _ (pc x) rfl rfl rfl ?_ ?_ ?_ ?_)
  · rw [hz2]; omega
  · unfold maxLen; omega
  · exact hs1
  intro w2 hown hgr
  have Hown0 := Lib.hid hown
  have Hb2 := Lib.hid (hb1.grown hgr hs1 (fun _ h => by cases h))
  clear hown hgr hb1
  go_wp2_with fail
  go_loopw [3, 8] (fun v i wr => ∃ k : Nat, k ≤ 10 ∧ i = .int .i64 k ∧ wr.ownsRow w.heap.size 3 1 v (bl x k).length (ns (bl x k)) ∧ Below w.heap.size w wr) (fun _ i _ => 10 - (intOf i).toNat)
  case atStart => exact ⟨0, Nat.zero_le _, rfl, Hown0.out, Hb2.out⟩
  case round =>
    obtain ⟨k, hk, rfl, hor, hbel⟩ := hrel
    by_cases hlt : k < 10
    · have hsz := hbel.size
      have hle := bl_le x k
      cases ht : x.testBit k
      · have hor2 := hor
        rw [← bl_no x k ht] at hor2
        have Hor := Lib.hid hor2
        have Ht := Lib.hid ht
        clear hor2 hor ht
        go_wp2_with fail
        refine (has_any x k wr hx hlt).mono ?_
        rintro e w' ⟨rfl, rfl⟩
        rw [Ht.out]
        go_wp2_with fail
        go_roundw
        case rel => exact ⟨k + 1, by omega, by go_num, Hor.out, hbel⟩
        case measure => simp [intOf]; omega
      · have Hyes := Lib.hid (bl_yes x k ht)
        have Ht := Lib.hid ht
        have Hor := Lib.hid hor
        clear ht hor
        go_wp2_with fail
        refine (has_any x k wr hx hlt).mono ?_
        rintro e w' ⟨rfl, rfl⟩
        rw [Ht.out]
        go_wp2_with (at_builtin; refine wpList_append_own _ rfl _ _ 33 rfl w.heap.size 3 i0 (.int .i64 0) 1 8 Tryd.underlying33 hi hz0 hz1 hz2 rfl (by decide) _ _ _ rfl (Hor.out.alloc _) ⟨wr.heap.size, 0, none⟩ 1 1 [.int .i64 k] rfl rfl ?c1 ?c2 ?c3 ?c4 ?c5 ?_)
        case c1 => exact World.news_of_block (cs := #[.int .i64 k]) (t := 3) (fr := (0, 0)) (heap_alloc_new _ _)
        case c2 => intro u hu; simp at hu; subst hu; rfl
        case c3 => unfold maxLen; omega
        case c4 => omega
        case c5 => simp; omega
        intro v' w6 hown' hgr _
        have Hown := Lib.hid hown'
        have Hbel := Lib.hid ((hbel.alloc hsz _).grown hgr (by simp; omega) (fun b hb => (Hor.out.lt b hb).1))
        clear hown' hgr hbel
        go_wp2_with fail
        go_roundw
        case rel => exact ⟨k + 1, by omega, by go_num, by rw [Hyes.out, ns_append, List.length_append]; exact Hown.out, Hbel.out⟩
        case measure => simp [intOf]; omega
    · obtain rfl : k = 10 := by omega
      rw [bl_length] at hor
      have Hor := Lib.hid hor
      clear hor hlt hk
      go_wp2_with fail
      go_ret
      exact ⟨_, rfl, Hor.out, hbel⟩


theorem ab_le (s f : Nat) : ab s f ≤ s := by
  unfold ab
  rw [Nat.shiftRight_eq_div_pow, Nat.shiftLeft_eq]
  exact Nat.div_mul_le_self _ _
theorem ab_val : ∀ s : Fin 1024, ∀ f : Fin 10, IntKind.u16.wrap (((s.val : Nat) : Int) / 2 ^ (f.val + 1) * 2 ^ (f.val + 1)) = ((ab s.val f.val : Nat) : Int) := by decide +kernel
theorem above_any (s f : Nat) (w : World) (hs : s < 1024) (hf : f < 10) :
    Calls Tryd.prog 55 #[.int .u16 s, .int .i64 f] w fun e w' => e = .returned (.int .u16 (ab s f)) ∧ w = w' := by
  have HV := Lib.hid (ab_val ⟨s, hs⟩ ⟨f, hf⟩)
  have hw1 : IntKind.i64.wrap ((f : Int) + 1) = ((f + 1 : Nat) : Int) := by rw [IntWalk.i64_in _ (by omega)]; rfl
  go_enter Tryd.func55, Tryd.ntmps55
  go_wp2_with fail
  go_ret
  exact ⟨by first | exact congrArg (fun v => Ending.returned (Value.int IntKind.u16 v)) HV.out | (simp; exact HV.out), rfl⟩
theorem bl_at {x k i : Nat} (h : i < (bl x k).length) : ∃ u : Nat, na (bl x k) i = u ∧ u < k ∧ x.testBit u = true := by
  have h1 := List.getElem_mem h
  have e : na (bl x k) i = (bl x k)[i] := by simp [na, List.getD_eq_getElem?_getD, h]
  rw [e]
  unfold bl at h1 ⊢
  obtain ⟨u, hu, e2⟩ := List.mem_map.1 h1
  rw [List.mem_filter, List.mem_range] at hu
  exact ⟨u, e2.symm, hu.1, hu.2⟩

/-- A list of numbers that lies apart from what grows. -/
structure Kp (wr : World) (G g : Option Addr) (L : List Int) : Prop where
  here : NumsAt wr g L
  apart : ∀ b off, g = some ⟨b, off, none⟩ → b < wr.heap.size ∧ ∀ a, G = some a → a.block ≠ b
theorem Kp.below {wr w' : World} {G g : Option Addr} {L : List Int} (h : Kp wr G g L) (hb : Below wr.heap.size wr w') : Kp w' G g L :=
  ⟨h.here.kept hb, fun b off e => ⟨Nat.lt_of_lt_of_le (h.apart b off e).1 hb.size, (h.apart b off e).2⟩⟩
theorem Kp.grown {wr w' : World} {G g : Option Addr} {L : List Int} {n c g' H : Nat} (h : Kp wr G g L) (hgr : wr.grownBy w' (Value.slice G n c).ownBlock) (hat : (Value.slice G n c).ownBlock = some g' ∨ g' = H) (hH : wr.heap.size ≤ H) : Kp w' (some ⟨g', 0, none⟩) g L := by
  refine ⟨?_, fun b off e => ⟨Nat.lt_of_lt_of_le (h.apart b off e).1 hgr.size, fun a ha => ?_⟩⟩
  · rcases h.here with e | ⟨b, off, e, hc⟩
    · exact .inl e
    · refine .inr ⟨b, off, e, fun i hi => ?_⟩
      have h1 := h.apart b off e
      rw [World.cell?_of_block (hgr.block b h1.1 (fun he => by
        cases G with
        | none => cases he
        | some a => exact h1.2 a rfl (Option.some.inj he).symm))]
      exact hc i hi
  · cases ha
    have h1 := h.apart b off e
    show g' ≠ b
    rcases hat with hat | hat
    · cases G with
      | none => cases hat
      | some a => have h2 := h1.2 a rfl; have h3 : a.block = g' := Option.some.inj hat; omega
    · omega
theorem Kp.new {w' : World} {G ao : Option Addr} {L : List Int} {base n cap : Nat} (own : w'.ownsRow base 3 1 (.slice ao n cap) n (ns L)) (hn : n = L.length) (hG : ∀ a, G = some a → a.block < base) : Kp w' G ao L := by
  obtain ⟨ao2, k, e, h⟩ := nums_shape own hn
  cases e
  refine ⟨h, fun b off e => ?_⟩
  have h1 := own.lt b (by rw [e]; rfl)
  exact ⟨h1.2, fun a ha => by have := hG a ha; omega⟩
theorem col_pre {α : Type} (p : Nat → Bool) (g : Nat → List α) (k : Nat) : ∀ m, col p g k <+: col p g (k + m)
  | 0 => List.prefix_refl _
  | m + 1 => (col_pre p g k m).trans (List.prefix_append _ _)
theorem take_flat {α : Type} (L : List Int) (g : Int → List α) {i : Nat} (h : i < L.length) : (L.take (i + 1)).flatMap g = (L.take i).flatMap g ++ g (na L i) := by
  have e : na L i = L[i] := by simp [na, List.getD_eq_getElem?_getD, h]
  rw [List.take_succ_eq_append_getElem h, List.flatMap_append, e]
  simp
/-- What is found for the members of a set, one after the other. -/
theorem pre_open {A T : List (List Int)} (m : Nat) (g : Int → List (List Int)) (h : A ++ (bl m 10).flatMap g <+: T) :
    ∃ (L : List Int) (f : Nat → List (List Int)), L = bl m 10 ∧ L.length ≤ 10 ∧ f 0 = A ∧ f L.length = A ++ (bl m 10).flatMap g ∧
      (∀ i, i < L.length → ∃ u : Nat, na L i = u ∧ u < 10 ∧ f (i + 1) = f i ++ g u ∧ f i ++ g u <+: T) := by
  have key : ∀ i, i < (bl m 10).length → A ++ ((bl m 10).take (i + 1)).flatMap g = (A ++ ((bl m 10).take i).flatMap g) ++ g (na (bl m 10) i) := fun i hi => by
    rw [take_flat _ g hi, List.append_assoc]
  refine ⟨bl m 10, fun i => A ++ ((bl m 10).take i).flatMap g, rfl, bl_le m 10, by simp, by simp, fun i hi => ?_⟩
  obtain ⟨u, h1, h2, _⟩ := bl_at hi
  refine ⟨u, h1, h2, by rw [← h1]; exact key i hi, ?_⟩
  show (A ++ ((bl m 10).take i).flatMap g) ++ g u <+: T
  rw [← h1, ← key i hi]
  refine List.IsPrefix.trans ?_ h
  refine ⟨((bl m 10).drop (i + 1)).flatMap g, ?_⟩
  rw [List.append_assoc, ← List.flatMap_append, List.take_append_drop]
theorem above_b (s f : Nat) (w : World) (hs : s < 1024) (hf : f < 10) :
    Calls Tryd.prog 55 #[.int .u16 s, .int .i64 f] w fun e w' => e = .returned (.int .u16 (ab s f)) ∧ Below w.heap.size w w' :=
  (above_any s f w hs hf).mono fun e w' h => ⟨h.1, h.2 ▸ Below.refl _ _⟩
theorem and_small {x : Nat} (hx : x < 1024) (y : Nat) : x &&& y < 1024 := Nat.lt_of_le_of_lt Nat.and_le_left hx
theorem take_all {T : List (List Int)} {M : Int} (h : (T.length : Int) < M) : T.take M.toNat = T := List.take_of_length_le (by omega)
theorem take_pre {T f : List (List Int)} {M : Int} (h : f <+: T) (e : (f.length : Int) = M) : T.take M.toNat = f := by
  have := List.prefix_iff_eq_take.1 h
  rw [← e, Int.toNat_natCast, ← this]
theorem info51 : (Tryd.prog.info? 51).map (fun i => (i.zero, i.size, i.bytes)) = some (some (.agg #[.int .i64 0, .int .i64 0, .int .i64 0, .int .i64 0]), 4, 32) := by kernel_rfl
theorem flat_snoc (L : List (List Int)) (q : List Int) : (L ++ [q]).flatten = L.flatten ++ q := by simp
theorem found_shape {w : World} {base e size n : Nat} {v : Value} {xs : List Value} (h : w.ownsRow base e size v n xs) : ∃ A C, v = .slice A n C := by
  rcases h.2 with ⟨rfl, h0⟩ | ⟨g, cap, cur, rfl, _⟩
  · exact ⟨none, 0, by rw [h0]⟩
  · exact ⟨_, _, rfl⟩

end Go.Proofs.YtibjapfaljeclaaDoor
