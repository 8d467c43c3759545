/- Rounds that double what is known: the program. -/
import Derived.Test.YtnngdoiempmkkaaDbl0
import Derived.Test.YtnngdoiempmkkaaRowsI
namespace Go.Proofs.Ytnngdoiempmkkaa
open Go.ChangeShapes Go.WideShapes Go.ChangeAt Go.RowKit
set_option linter.unusedVariables false


/-- A round is appended to rounds. -/
theorem push_round {P : Program} (w : World) {ops : Array Oper} {rest : List Oper} {o : Oper} {a : Act} {Q : Exit → Act → World → Prop} (hgd : o.guard = none) (s x : Operand) (t : TypeId)
    (ho : o.op = .call { callee := .builtin .append, args := #[s, x], argTypes := #[t, t] })
    (base : Nat) (i : TypeInfo) (ht : P.underlying t = some (.slice 29)) (hi : P.info? 29 = some i) (hz : i.zero = some (.slice none 0 0))
    (hsize : i.size = 1) (hby : i.bytes = 24)
    (v : Value) (X : List Value) (L : List (List (Int × Int))) (k : Nat) (hk : L.length = k) (hs : a.eval s = v) (hown : OwnCS w base v X L) (hsml : k ≤ 1000000)
    (r : Value) (l : List (Int × Int)) (hr : w.ownsRow base 46 2 r l.length (cs l)) (hrv : ∀ b, r.ownBlock = some b → v.ownBlock ≠ some b) (hrX : ∀ (i : Nat) (y : Value) (b : Nat), X[i]? = some y → y.ownBlock = some b → r.ownBlock ≠ some b)
    (c : Nat) (ad : Nat) (hx : a.eval x = .slice (some ⟨ad, 0, none⟩) 1 c) (had : w.cell? ⟨ad, 0, none⟩ = some r) (h1 : r.oneCell' = true) (hbase : base ≤ w.heap.size)
    (h : ∀ v' w', OwnCS w' base v' (X ++ [r]) (L ++ [l]) → Below base w w' → wpList P ops Q rest (a.put o.dst v') w') : wpList P ops Q (o :: rest) a w := by
  refine wpList_append_lies w hgd s x t ho base 29 i (.slice none 0 0) 1 24 ht hi hz hsize hby rfl (by decide) v k X hs (by rw [← hk]; exact hown.1) ⟨ad, 0, none⟩ 1 c [r] hx rfl ?_ ?_ (by omega) (by unfold maxLen; omega) (by omega) hbase w.heap.size rfl ?_
  · intro j u hu
    cases j with
    | zero => simp at hu; subst hu; exact had
    | succ j => simp at hu
  · intro u hu
    simp at hu
    subst hu
    exact h1
  · intro g cap w' hown' hgr hat _
    refine h _ w' ?_ ((Below.refl base w).grown hgr hbase (fun b hb => (hown.1.lt b hb).1))
    exact OwnCS.push (v' := .slice (some ⟨g, 0, none⟩) (k + 1) cap) (H := w.heap.size) hown hr hrv hrX hgr (by rw [hk]; exact hown') (by
      rcases hat with e | e
      · exact .inl e.symm
      · exact .inr (by rw [e]; rfl)) (Nat.le_refl _)
theorem OwnCS.far {w w1 : World} {base : Nat} {v : Value} {X : List Value} {L : List (List (Int × Int))} (h : OwnCS w base v X L) {r : Value} {n : Nat} {e : TypeId} {s : Nat} {xs : List Value} (hr : w1.ownsRow w.heap.size e s r n xs) :
    (∀ b, r.ownBlock = some b → v.ownBlock ≠ some b) ∧ (∀ (i : Nat) (y : Value) (b : Nat), X[i]? = some y → y.ownBlock = some b → r.ownBlock ≠ some b) := by
  refine ⟨fun b hb e => ?_, fun i y b hy hb e => ?_⟩
  · have h1 := (hr.lt b hb).1
    have h2 := (h.1.lt b e).2
    omega
  · have h1 := (hr.lt b e).1
    have hi := (List.getElem?_eq_some_iff.1 hy).1
    have h2 := ((h.2.2.1 i y _ hy (List.getElem?_eq_getElem (by rw [← h.2.1]; exact hi))).1.lt b hb).2
    omega
theorem own_one {w : World} {base : Nat} {e : TypeId} {size : Nat} {v : Value} {n : Nat} {xs : List Value} (h : w.ownsRow base e size v n xs) : v.oneCell' = true := by
  rcases h.2 with ⟨rfl, _⟩ | ⟨g, cap, cur, rfl, _⟩ <;> rfl

set_option maxRecDepth 20000 in
theorem implDbl_yes (F H : Nat) (w : World) (hF : F = 2 * H) (h1 : 1 ≤ H) (h2 : H ≤ 5) :
    Calls Try.prog 24 #[.int .i64 F] w fun e w' => ∃ v X, e = .returned (.tuple #[v, .bool true]) ∧ OwnCS w' w.heap.size v X (dR F (KK F)) ∧ Below w.heap.size w w' := by
  obtain ⟨i0, hi, hz0, hz1, hz2⟩ := info_parts info29
  have Hfr : Hid (frB F = true) := Lib.hid (by simp [frB]; omega)
  have hrem : ((F : Int) % 2 != 0) = false := by
    have : (F : Int) % 2 = 0 := by omega
    rw [this]; rfl
  have hF10 : F ≤ 10 := by omega
  have hH : F / 2 = H := by omega
  have HH := Lib.hid hH
  have HF := Lib.hid hF
  clear hF hH
  go_enter Try.func24, Try.ntmps24
  go_wp2_with fail
  refine (canBeFriends_any F w).mono ?_
  rintro e w1 ⟨rfl, rfl⟩
  rw [Hfr.out]
  go_wp2_with fail
  go_loopw [4, 5] (fun v i wr => ∃ (k : Nat) (X : List Value), k ≤ 4 ∧ i = .int .i64 ((2 ^ k : Nat) : Int) ∧ Hid (∀ j, j < k → 2 ^ j < F) ∧ OwnCS wr w.heap.size v X (dR F k) ∧ Below w.heap.size w wr) (fun _ i _ => 16 - (intOf i).toNat)
  case atStart => exact ⟨0, [], Nat.zero_le _, rfl, Lib.hid (fun j hj => absurd hj (Nat.not_lt_zero j)), OwnCS.nil _ _, Below.refl _ _⟩
  case round =>
    obtain ⟨k, X, hk, rfl, hall, hor, hbel⟩ := hrel
    have hsz := hbel.size
    have Hor := Lib.hid hor
    obtain ⟨I, hI⟩ : ∃ I, 2 ^ k = I := ⟨_, rfl⟩
    rw [hI]
    have hIp : 1 ≤ I := by rw [← hI]; exact Nat.one_le_two_pow
    clear hor
    by_cases hlt : I < F
    · obtain ⟨hk3, hI8, hpw⟩ := pow_step hk (by rw [hI]; exact hlt) hF10
      rw [hI] at hI8 hpw
      have hltI : (I : Int) < (F : Int) := by omega
      have Hall : Hid (∀ j, j < k + 1 → 2 ^ j < F) := Lib.hid (fun j hj => by
        by_cases hjk : j = k
        · subst hjk; rw [hI]; exact hlt
        · exact hall.out j (by omega))
      have Hfa : Hid (2 * (I : Int) - 1 = fak k) := Lib.hid (by rw [fak, hpw]; omega)
      have Hpw := Lib.hid hpw
      have Hodd := Lib.hid (oddCalls_any F H (2 * (I : Int) - 1) wr HF.out h1 h2 (by omega) (by omega))
      clear hI hpw
      go_wp2_with fail
      refine Hodd.out.mono ?_
      rintro e w2 ⟨r, rfl, own2, hb2⟩
      have own2q : w2.ownsRow wr.heap.size 46 2 r (srt (drow F (fak k) (F / 2))).length (cs (srt (drow F (fak k) (F / 2)))) := by
        rw [srt_length, drow_length, HH.out, ← Hfa.out]; exact own2
      clear own2
      have own2 := own2q
      clear own2q
      obtain ⟨a5, c5, rfl, _⟩ := own_shape_s own2 rfl
      have hbel2 : Below w.heap.size w w2 := hbel.trans (hb2.mono hsz)
      have hs2 := hbel2.size
      have Hor2 := Lib.hid (Hor.out.later hb2)
      have Hfar := Lib.hid (Hor.out.far own2)
      have Hown2 := Lib.hid (own_base hsz own2)
      have hone := own_one own2
      have hone2 := Lib.hid hone
      clear own2 hb2 hbel hone
      go_wp2_with (at_builtin; refine push_round _ rfl _ _ 25 rfl w.heap.size i0 Try.underlying25 hi hz0 hz1 hz2 _ X (dR F k) k (dR_length F k) rfl (Hor2.out.alloc _) (by omega) _ _ (Hown2.out.alloc _) Hfar.out.1 Hfar.out.2 1 w2.heap.size rfl (by simp) hone2.out (by simp; omega) ?_)
      intro v3 w3 own3 hb3
      rw [← dR_succ] at own3
      have Hown3 := Lib.hid own3
      have Hb3 := Lib.hid ((hbel2.alloc hs2 _).trans hb3)
      clear own3 hb3 hbel2
      have Hnx : Hid (((2 ^ (k + 1) : Nat) : Int) = (I : Int) * 2) := Lib.hid (by rw [Hpw.out]; omega)
      go_wp2_with fail
      go_roundw
      case rel => exact ⟨k + 1, _, by omega, by rw [Hnx.out], Hall, Hown3.out, Hb3.out⟩
      case measure => simp [intOf]; omega
    · have hltI : ¬ (I : Int) < (F : Int) := by omega
      have hkk : k = KK F := KK_eq hk hall.out (by rw [hI]; exact hlt) hF10
      have Hor2 := Hor.out
      rw [hkk] at Hor2
      have Hor3 := Lib.hid Hor2
      obtain ⟨ao, cap, rfl, _⟩ := Hor2.rows
      clear Hor2 hkk hI
      go_wp2_with fail
      go_ret2
      first | exact ⟨_, X, rfl, Hor3.out, hbel⟩ | exact ⟨_, rfl, ⟨X, Hor3.out⟩, hbel⟩ | exact ⟨⟨_, rfl⟩, ⟨X, Hor3.out⟩, hbel⟩

end Go.Proofs.Ytnngdoiempmkkaa
