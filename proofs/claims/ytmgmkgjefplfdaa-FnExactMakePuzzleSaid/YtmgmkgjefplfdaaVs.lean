/- What a clue tells of a list, by the model. -/
import Derived.Test.YtmgmkgjefplfdaaIdle
import Derived.Test.YtmgmkgjefplfdaaKc
namespace Go.Proofs.Ytmgmkgjefplfdaa
open Go.ChangeShapes Go.WideShapes Go.ChangeAt Go.RowKit
set_option linter.unusedVariables false


/-- What a clue of a kind tells of a list, with two numbers. -/
def vlB (F : Nat) (l : List (Int × Int)) (k a b : Int) : Int :=
  if k = 0 then ((tl (pOf a) F l l.length).length : Int)
  else if k = 1 then (pc (play F l a.toNat) : Int)
  else if k = 2 then (if (play F l a.toNat).testBit b.toNat then 1 else 0)
  else if k = 3 then ((tl pIdle F l l.length).length : Int)
  else if k = 4 then (if (ca l a.toNat == b || cb l a.toNat == b) then 1 else 0)
  else (cntTo (play F l) F : Int)

theorem pzIn_any (A B z : Int) (w : World) : Calls Try.prog 120 #[.agg #[.int .i64 A, .int .i64 B], .int .i64 z] w fun e w' => e = .returned (.int .i64 (if (A == z || B == z) then 1 else 0)) ∧ Below w.heap.size w w' := by
  by_cases h1 : A = z
  · rw [if_pos (by simp [h1])]
    subst h1
    go_enter Try.func120, Try.ntmps120
    go_wp2_with fail
    go_ret
    exact ⟨rfl, by go_grown⟩
  · have e1 : (A == z) = false := by simpa using h1
    by_cases h2 : B = z
    · rw [if_pos (by simp [h2])]
      subst h2
      go_enter Try.func120, Try.ntmps120
      go_wp2_with fail
      go_ret
      exact ⟨rfl, by go_grown⟩
    · have e2 : (B == z) = false := by simpa using h2
      rw [if_neg (by simp [h1, h2])]
      go_enter Try.func120, Try.ntmps120
      go_wp2_with fail
      go_ret
      exact ⟨rfl, by go_grown⟩
theorem tl_len_step (p : (Nat → Nat) → Int × Int → Bool) (F : Nat) (l : List (Int × Int)) (k : Nat) : ((tl p F l (k + 1)).length : Int) = (tl p F l k).length + (if p (play F (l.take k)) (ca l k, cb l k) then 1 else 0) := by
  cases h : p (play F (l.take k)) (ca l k, cb l k)
  · rw [tl_no p F l k h]; simp
  · rw [tl_yes p F l k h]; simp
set_option maxHeartbeats 1600000 in
set_option maxRecDepth 20000 in
theorem value_0 (w : World) (F : Nat) (ao : Option Addr) (cap : Nat) (l : List (Int × Int)) (n : Nat) (Hn : Hid (n = l.length)) (hs : n ≤ 60) (HHc : Hid (CallsAt w ao l)) (Hg : Hid (gdB (F : Int) l = true)) (a b : Int) :
    Calls Try.prog 106 #[.int .i64 (F : Int), .int .i64 0, .int .i64 a, .int .i64 b, .slice ao n cap] w fun e w' => e = .returned (.int .i64 ((tl (pOf a) F l l.length).length : Int)) ∧ Below w.heap.size w w' := by
  have HL : Hid ((tl (pOf a) F l l.length).length = (tl (pOf a) F l n).length) := by show _ = _; rw [Hn.out]
  rw [HL.out]
  go_enter Try.func106, Try.ntmps106
  go_wp2_with fail
  refine (caPlay_any F ao cap l n w Hn Hg.out HHc.out).mono ?_
  rintro e w1 ⟨v1, rfl, own1, hb1⟩
  have Hb1 := Lib.hid hb1
  have HC1 := Lib.hid (HHc.out.kept hb1)
  have hs1 := hb1.size
  clear own1 hb1
  go_wp2_with fail
  go_loopw [12, 26] (fun u i wr => ∃ q : Nat, q ≤ n ∧ i = .int .i64 q ∧ u = .int .i64 ((tl (pOf a) F l q).length : Int) ∧ Below w1.heap.size w1 wr) (fun _ i _ => n - (intOf i).toNat)
  case atStart => exact ⟨0, Nat.zero_le _, rfl, rfl, Below.refl _ _⟩
  case round =>
    obtain ⟨q, hq, rfl, rfl, hbel⟩ := hrel
    by_cases hlt : q < n
    · obtain ⟨b', off, rfl, hc⟩ : ∃ b' off, ao = some ⟨b', off, none⟩ ∧ ∀ i, i < n → w1.cell? ⟨b', off + i * 2, none⟩ = some (.int .i64 (ca l i)) ∧ w1.cell? ⟨b', off + i * 2 + 1, none⟩ = some (.int .i64 (cb l i)) := by
        rcases HC1.out with h | ⟨b', off, h, hc⟩
        · subst h; have := Hn.out; simp at this; omega
        · exact ⟨b', off, h, fun i hi => hc i (by rw [← Hn.out]; exact hi)⟩
      have c0 := cell_old hbel (hc q hlt).1
      have c1 := cell_old hbel (hc q hlt).2
      have hsz := hbel.size
      have Hst := Lib.hid (tl_len_step (pOf a) F l q)
      have hle := tl_le (pOf a) F l q
      obtain ⟨A, hA⟩ : ∃ A, ca l q = A := ⟨_, rfl⟩
      obtain ⟨B, hB⟩ : ∃ B, cb l q = B := ⟨_, rfl⟩
      rw [hA, hB] at Hst
      rw [hA] at c0
      rw [hB] at c1
      obtain ⟨T, hT⟩ : ∃ T, (tl (pOf a) F l q).length = T := ⟨_, rfl⟩
      rw [hT] at Hst hle ⊢
      obtain ⟨I, hI⟩ : ∃ I : Int, (if (A == a || B == a) = true then (1 : Int) else 0) = I := ⟨_, rfl⟩
      have hI1 : 0 ≤ I ∧ I ≤ 1 := by rw [← hI]; split <;> omega
      have hw : IntKind.i64.wrap ((T : Int) + I) = (T : Int) + I := IntWalk.i64_in _ (by omega)
      have Hst2 : Hid (((tl (pOf a) F l (q + 1)).length : Int) = (T : Int) + I) := by show _ = _; rw [Hst.out, ← hI]; rfl
      have HP := fun (W : World) => pzIn_any A B a W
      rw [hI] at HP
      obtain ⟨wr2, hwr⟩ : ∃ x, x = wr := ⟨_, rfl⟩
      subst hwr
      have bd : Below wr2.heap.size wr2 (wr2.alloc (.cells #[.int .i64 A, .int .i64 B] 83)) := (Below.refl _ _).alloc (Nat.le_refl _) _
      clear hA hB hI hT hc
      go_wp2_with fail
      refine (HP _).mono ?_
      rintro e w3 ⟨rfl, hb3⟩
      have HB := Lib.hid (hbel.trans ((bd.trans (hb3.mono bd.size)).mono hsz))
      clear hb3 bd c0 c1 HP hbel
      go_wp2_with fail
      go_roundw
      case rel => exact ⟨q + 1, by omega, by go_num, by rw [Hst2.out], HB.out⟩
      case measure => simp [intOf]; omega
    · obtain rfl : q = n := by omega
      have HB := Lib.hid (Hb1.out.trans (hbel.mono hs1))
      go_wp2_with fail
      go_ret
      exact ⟨rfl, HB.out⟩
set_option maxHeartbeats 1600000 in
set_option maxRecDepth 20000 in
theorem value_3 (w : World) (F : Nat) (ao : Option Addr) (cap : Nat) (l : List (Int × Int)) (n : Nat) (Hn : Hid (n = l.length)) (hs : n ≤ 60) (hcap : n ≤ cap) (HHc : Hid (CallsAt w ao l)) (Hg : Hid (gdB (F : Int) l = true)) (a b : Int) :
    Calls Try.prog 106 #[.int .i64 (F : Int), .int .i64 3, .int .i64 a, .int .i64 b, .slice ao n cap] w fun e w' => e = .returned (.int .i64 ((tl pIdle F l l.length).length : Int)) ∧ Below w.heap.size w w' := by
  have HL : Hid ((tl pIdle F l l.length).length = (tl pIdle F l n).length) := by show _ = _; rw [Hn.out]
  have hff := gd_fr Hg.out
  rw [HL.out]
  go_enter Try.func106, Try.ntmps106
  go_wp2_with fail
  refine (caPlay_any F ao cap l n w Hn Hg.out HHc.out).mono ?_
  rintro e w1 ⟨v1, rfl, own1, hb1⟩
  have Hb1 := Lib.hid hb1
  have HC1 := Lib.hid (HHc.out.kept hb1)
  have hs1 := hb1.size
  clear own1 hb1
  go_wp2_with fail
  go_loopw [12, 57] (fun u i wr => ∃ q : Nat, q ≤ n ∧ i = .int .i64 q ∧ u = .int .i64 ((tl pIdle F l q).length : Int) ∧ Below w1.heap.size w1 wr) (fun _ i _ => n - (intOf i).toNat)
  case atStart => exact ⟨0, Nat.zero_le _, rfl, rfl, Below.refl _ _⟩
  case round =>
    obtain ⟨q, hq, rfl, rfl, hbel⟩ := hrel
    by_cases hlt : q < n
    · have hsz := hbel.size
      have Hst := Lib.hid (tl_len_step pIdle F l q)
      have hle := tl_le pIdle F l q
      have hie := idle_eq Hg.out (show q < l.length by rw [← Hn.out]; exact hlt)
      obtain ⟨T, hT⟩ : ∃ T, (tl pIdle F l q).length = T := ⟨_, rfl⟩
      rw [hT] at Hst hle ⊢
      obtain ⟨D, hD⟩ : ∃ D : Int, ((cntTo (play F (l.take (q + 1))) F : Int) - cntTo (play F (l.take q)) F) = D := ⟨_, rfl⟩
      rw [hD] at hie
      have HP := fun (W : World) h => caLearned_any W F ao cap l n q Hn hs hcap hlt h Hg hff
      simp only [hD] at HP
      have hw : IntKind.i64.wrap ((T : Int) + 1) = (T : Int) + 1 := IntWalk.i64_in _ (by omega)
      have HP2 := Lib.hid (HP wr (HC1.out.kept hbel))
      clear HP hT hD
      cases hp : pIdle (play F (l.take q)) (ca l q, cb l q)
      · rw [hp] at hie
        have Hst2 : Hid (((tl pIdle F l (q + 1)).length : Int) = (T : Int)) := by show _ = _; rw [Hst.out, hp]; simp
        clear hp
        go_wp2_with fail
        refine HP2.out.mono ?_
        rintro e w3 ⟨rfl, hb3⟩
        have HB := Lib.hid (hbel.trans (hb3.mono hsz))
        clear hb3 HP2 hbel
        go_wp2_with fail
        go_roundw
        case rel => exact ⟨q + 1, by omega, by go_num, by rw [Hst2.out], HB.out⟩
        case measure => simp [intOf]; omega
      · rw [hp] at hie
        have Hst2 : Hid (((tl pIdle F l (q + 1)).length : Int) = (T : Int) + 1) := by show _ = _; rw [Hst.out, hp]; simp
        clear hp
        go_wp2_with fail
        refine HP2.out.mono ?_
        rintro e w3 ⟨rfl, hb3⟩
        have HB := Lib.hid (hbel.trans (hb3.mono hsz))
        clear hb3 HP2 hbel
        go_wp2_with fail
        go_roundw
        case rel => exact ⟨q + 1, by omega, by go_num, by rw [Hst2.out], HB.out⟩
        case measure => simp [intOf]; omega
    · obtain rfl : q = n := by omega
      have HB := Lib.hid (Hb1.out.trans (hbel.mono hs1))
      go_wp2_with fail
      go_ret
      exact ⟨rfl, HB.out⟩

end Go.Proofs.Ytmgmkgjefplfdaa
