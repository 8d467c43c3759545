/- The squares: the model. -/
import Derived.Test.YtibjapfaljeclaaDoorSq
import Derived.Test.YtibjapfaljeclaaDoorRowsL
namespace Go.Proofs.YtibjapfaljeclaaDoor
open Go.ChangeShapes Go.WideShapes Go.ChangeAt Go.RowKit
set_option linter.unusedVariables false

/-- The value owns an outer row of the values X, each of which owns the row of one of the lists; the blocks are apart. -/
def OwnSS (w : World) (base : Nat) (v : Value) (X : List Value) (L : List (List Int)) : Prop :=
  w.ownsRow base 33 1 v L.length X ∧ X.length = L.length ∧
  (∀ (i : Nat) (x : Value) (l : List Int), X[i]? = some x → L[i]? = some l → w.ownsRow base 3 1 x l.length (ns l) ∧ (∀ b, x.ownBlock = some b → v.ownBlock ≠ some b)) ∧
  (∀ (i j : Nat) (x y : Value) (b : Nat), i < j → X[i]? = some x → X[j]? = some y → x.ownBlock = some b → y.ownBlock ≠ some b)

theorem OwnSS.nil (w : World) (base : Nat) : OwnSS w base (.slice none 0 0) [] [] :=
  ⟨World.ownsRow_nil w base 33 1, rfl, fun i x l h _ => by simp at h, fun i j x y b _ h _ _ => by simp at h⟩

theorem OwnSS.later {w w' : World} {base : Nat} {v : Value} {X : List Value} {L : List (List Int)} (h : OwnSS w base v X L) (hb : Below w.heap.size w w') : OwnSS w' base v X L :=
  ⟨own_later h.1 hb, h.2.1, fun i x l hx hl => ⟨own_later (h.2.2.1 i x l hx hl).1 hb, (h.2.2.1 i x l hx hl).2⟩, h.2.2.2⟩

/-- What the blocks of a value that owns the row are: its own were there. -/
theorem OwnSS.push {w w' : World} {base : Nat} {v v' : Value} {X : List Value} {L : List (List Int)} {x : Value} {l : List Int} {H : Nat}
    (h : OwnSS w base v X L) (hx : w.ownsRow base 3 1 x l.length (ns l)) (hxv : ∀ b, x.ownBlock = some b → v.ownBlock ≠ some b) (hxX : ∀ (i : Nat) (y : Value) (b : Nat), X[i]? = some y → y.ownBlock = some b → x.ownBlock ≠ some b)
    (hgr : w.grownBy w' v.ownBlock) (hown : w'.ownsRow base 33 1 v' (L.length + 1) (X ++ [x])) (hat : v'.ownBlock = v.ownBlock ∨ v'.ownBlock = some H) (hH : w.heap.size ≤ H) :
    OwnSS w' base v' (X ++ [x]) (L ++ [l]) := by
  have hXL := h.2.1
  refine ⟨by rw [List.length_append]; exact hown, by simp [hXL], ?_, ?_⟩
  · intro i y m hy hm
    by_cases hi : i < X.length
    · rw [List.getElem?_append_left hi] at hy
      rw [List.getElem?_append_left (by omega)] at hm
      obtain ⟨h1, h2⟩ := h.2.2.1 i y m hy hm
      refine ⟨h1.kept hgr ?_, fun b hb => ?_⟩
      · cases hq : y.ownBlock with
        | none => exact .inl rfl
        | some b => exact .inr (fun e => h2 b hq e.symm)
      · rcases hat with e | e
        · rw [e]; exact h2 b hb
        · rw [e]; intro hc; cases hc; have := (h1.lt _ hb).2; omega
    · have hi2 : i = X.length := by
        have := (List.getElem?_eq_some_iff.1 hy).1
        simp at this; omega
      subst hi2
      simp at hy
      rw [hXL] at hm
      simp at hm
      subst hy
      subst hm
      refine ⟨hx.kept hgr ?_, fun b hb => ?_⟩
      · cases hq : x.ownBlock with
        | none => exact .inl rfl
        | some b => exact .inr (fun e => hxv b hq e.symm)
      · rcases hat with e | e
        · rw [e]; exact hxv b hb
        · rw [e]; intro hc; cases hc; have := (hx.lt _ hb).2; omega
  · intro i j y z b hij hy hz hb
    have hj : j < X.length + 1 := by have := (List.getElem?_eq_some_iff.1 hz).1; simpa using this
    rw [List.getElem?_append_left (by omega)] at hy
    by_cases hjX : j < X.length
    · rw [List.getElem?_append_left hjX] at hz
      exact h.2.2.2 i j y z b hij hy hz hb
    · obtain rfl : j = X.length := by omega
      simp at hz
      subst hz
      exact hxX i y b hy hb

theorem OwnSS.weaken {w : World} {base b' : Nat} {v : Value} {X : List Value} {L : List (List Int)} (h : OwnSS w base v X L) (hb : b' ≤ base) : OwnSS w b' v X L :=
  ⟨own_base hb h.1, h.2.1, fun i x l hx hl => ⟨own_base hb (h.2.2.1 i x l hx hl).1, (h.2.2.1 i x l hx hl).2⟩, h.2.2.2⟩

theorem OwnSS.alloc {w : World} {base : Nat} {v : Value} {X : List Value} {L : List (List Int)} (h : OwnSS w base v X L) (o : Obj) : OwnSS (w.alloc o) base v X L :=
  h.later ((Below.refl _ _).alloc (Nat.le_refl _) o)


theorem infoI : (Tryd.prog.info? 33).map (fun i => (i.zero, i.size, i.bytes)) = some (some (.slice none 0 0), 1, 24) := by kernel_rfl
theorem oss_shape {w : World} {base : Nat} {v : Value} {X : List Value} {L : List (List Int)} (h : OwnSS w base v X L) : ∃ A C, v = .slice A L.length C := by
  rcases h.1.2 with ⟨rfl, h0⟩ | ⟨g, cap, cur, rfl, _⟩
  · exact ⟨none, 0, by rw [h0]⟩
  · exact ⟨_, _, rfl⟩

set_option maxHeartbeats 4000000 in
set_option maxRecDepth 20000 in
theorem neSquares_any (F : Nat) (ao : Option Addr) (cap : Nat) (l : List (Int × Int)) (n : Nat) (w : World) (Hn : Hid (n = l.length)) (hs : n ≤ 1048576) (hF : F ≤ 10) (HA : Hid (CallsAt w ao l)) :
    Calls Tryd.prog 24 #[.int .i64 F, .slice ao n cap] w fun e w' => ∃ v X, e = .returned v ∧ OwnSS w' w.heap.size v X (sqW l F F) ∧ Below w.heap.size w w' := by
  obtain ⟨i0, hi, iz0, iz1, iz2⟩ := info_parts infoI
  go_enter Tryd.func24, Tryd.ntmps24
  go_wp2_with fail
  go_loopw [5, 6] (fun v i wr => ∃ (a : Nat) (X : List Value), a ≤ F ∧ i = .int .i64 a ∧ Hid (OwnSS wr w.heap.size v X (sqW l F a)) ∧ Below w.heap.size w wr) (fun _ i _ => F - (intOf i).toNat)
  case atStart => exact ⟨0, [], Nat.zero_le _, rfl, Lib.hid (OwnSS.nil _ _), Below.refl _ _⟩
  case round =>
    obtain ⟨a, X, ha, rfl, Hor, hbel⟩ := hrel
    have hwl := sqW_len l hF a
    by_cases hla : a < F
    · go_wp2_with fail
      go_loopw [5, 7] (fun v i wr => ∃ (x : Nat) (X : List Value), a + 1 ≤ x ∧ x ≤ F ∧ i = .int .i64 x ∧ Hid (OwnSS wr w.heap.size v X (sqW l F a ++ sqX l F a x)) ∧ Below w.heap.size w wr) (fun _ i _ => F - (intOf i).toNat)
      case atStart => exact ⟨a + 1, X, Nat.le_refl _, hla, by go_num, by rw [show sqX l F a (a + 1) = [] from col_low (fun i hi => by simp; omega), List.append_nil]; exact Hor, hbel⟩
      case round =>
        clear Hor hbel
        obtain ⟨x, X, hx1, hx2, rfl, Hor, hbel⟩ := hrel
        have hxl := sqX_len l hF a x
        by_cases hlx : x < F
        · go_wp2_with fail
          go_loopw [5, 8] (fun v i wr => ∃ (y : Nat) (X : List Value), a + 1 ≤ y ∧ y ≤ F ∧ i = .int .i64 y ∧ Hid (OwnSS wr w.heap.size v X (sqW l F a ++ sqX l F a x ++ sqY l F a x y)) ∧ Below w.heap.size w wr) (fun _ i _ => F - (intOf i).toNat)
          case atStart => exact ⟨a + 1, X, Nat.le_refl _, by omega, by go_num, by rw [show sqY l F a x (a + 1) = [] from col_low (fun i hi => by simp; omega), List.append_nil]; exact Hor, hbel⟩
          case round =>
            clear Hor hbel
            obtain ⟨y, X, hy1, hy2, rfl, Hor, hbel⟩ := hrel
            have hyl := sqY_len l hF a x y
            by_cases hly : y < F
            · go_wp2_with fail
              go_loopw [5, 9] (fun v i wr => ∃ (z : Nat) (X : List Value) (N : Nat) (A : Option Addr) (C : Nat), x + 1 ≤ z ∧ z ≤ F ∧ i = .int .i64 z ∧ v = .slice A N C ∧ Hid (N = (sqW l F a ++ sqX l F a x ++ sqY l F a x y ++ sqZ l a x y z).length) ∧ Hid (OwnSS wr w.heap.size (.slice A N C) X (sqW l F a ++ sqX l F a x ++ sqY l F a x y ++ sqZ l a x y z)) ∧ Below w.heap.size w wr) (fun _ i _ => F - (intOf i).toNat)
              case atStart =>
                obtain ⟨A, C, hv⟩ := oss_shape Hor.out
                refine ⟨x + 1, X, _, A, C, Nat.le_refl _, by omega, by go_num, hv, ?_, ?_, hbel⟩
                · rw [show sqZ l a x y (x + 1) = [] from col_low (fun i hi => by simp; omega), List.append_nil]; exact Lib.hid rfl
                · rw [show sqZ l a x y (x + 1) = [] from col_low (fun i hi => by simp; omega), List.append_nil, ← hv]; exact Hor
              case round =>
                clear Hor hbel
                obtain ⟨z, X, N, A, C, hz1, hz2, rfl, rfl, HN, Hor, hbel⟩ := hrel
                have hzl := sqZ_len l a x y z
                have hN : N ≤ 12000 := by rw [HN.out]; simp only [List.length_append]; omega
                have hsz := hbel.size
                by_cases hlz : z < F
                · by_cases e0 : y = x
                  · have q0 : ((y : Int) != (x : Int)) = false := by simp [e0]
                    have Hs : Hid (sqZ l a x y (z + 1) = sqZ l a x y z) := Lib.hid (col_no (by simp [okq, e0]))
                    clear e0
                    go_wp2_with fail
                    go_roundw
                    case rel => exact ⟨z + 1, X, N, A, C, by omega, by omega, by go_num, rfl, by rw [Hs.out]; exact HN, by rw [Hs.out]; exact Hor, hbel⟩
                    case measure => simp [intOf]; omega
                  · have q0 : ((y : Int) != (x : Int)) = true := by simp; omega
                    by_cases e1 : y = z
                    · have q1 : ((y : Int) != (z : Int)) = false := by simp [e1]
                      have Hs : Hid (sqZ l a x y (z + 1) = sqZ l a x y z) := Lib.hid (col_no (by simp [okq, e1]))
                      clear e1
                      go_wp2_with fail
                      go_roundw
                      case rel => exact ⟨z + 1, X, N, A, C, by omega, by omega, by go_num, rfl, by rw [Hs.out]; exact HN, by rw [Hs.out]; exact Hor, hbel⟩
                      case measure => simp [intOf]; omega
                    · have q1 : ((y : Int) != (z : Int)) = true := by simp; omega
                      cases g2 : adj l a x
                      · have Hs : Hid (sqZ l a x y (z + 1) = sqZ l a x y z) := Lib.hid (col_no (by simp [okq, g2]))
                        have G2 := Lib.hid g2
                        clear g2
                        go_wp2_with fail
                        refine (neIs_any ao cap l n a x wr Hn hs (HA.out.kept hbel)).mono ?_
                        rintro e u1 ⟨rfl, hc1⟩
                        have ea1 : hasC l (min (a : Int) x) (max (a : Int) x) = false := G2.out
                        rw [ea1]
                        have Ho1 := Lib.hid (Hor.out.later hc1)
                        have hb1 := hbel.trans (hc1.mono hsz)
                        have hs1 := hb1.size
                        clear hc1 ea1 Hor hbel
                        go_wp2_with fail
                        go_roundw
                        case rel => exact ⟨z + 1, X, N, A, C, by omega, by omega, by go_num, rfl, by rw [Hs.out]; exact HN, by rw [Hs.out]; exact Ho1, hb1⟩
                        case measure => simp [intOf]; omega
                      · have G2 := Lib.hid g2
                        clear g2
                        cases g3 : adj l x y
                        · have Hs : Hid (sqZ l a x y (z + 1) = sqZ l a x y z) := Lib.hid (col_no (by simp [okq, g3]))
                          have G3 := Lib.hid g3
                          clear g3
                          go_wp2_with fail
                          refine (neIs_any ao cap l n a x wr Hn hs (HA.out.kept hbel)).mono ?_
                          rintro e u1 ⟨rfl, hc1⟩
                          have ea1 : hasC l (min (a : Int) x) (max (a : Int) x) = true := G2.out
                          rw [ea1]
                          have Ho1 := Lib.hid (Hor.out.later hc1)
                          have hb1 := hbel.trans (hc1.mono hsz)
                          have hs1 := hb1.size
                          clear hc1 ea1 Hor hbel
                          go_wp2_with fail
                          refine (neIs_any ao cap l n x y u1 Hn hs (HA.out.kept hb1)).mono ?_
                          rintro e u2 ⟨rfl, hc2⟩
                          have ea2 : hasC l (min (x : Int) y) (max (x : Int) y) = false := G3.out
                          rw [ea2]
                          have Ho2 := Lib.hid (Ho1.out.later hc2)
                          have hb2 := hb1.trans (hc2.mono hs1)
                          have hs2 := hb2.size
                          clear hc2 ea2 Ho1 hb1
                          go_wp2_with fail
                          go_roundw
                          case rel => exact ⟨z + 1, X, N, A, C, by omega, by omega, by go_num, rfl, by rw [Hs.out]; exact HN, by rw [Hs.out]; exact Ho2, hb2⟩
                          case measure => simp [intOf]; omega
                        · have G3 := Lib.hid g3
                          clear g3
                          cases g4 : adj l y z
                          · have Hs : Hid (sqZ l a x y (z + 1) = sqZ l a x y z) := Lib.hid (col_no (by simp [okq, g4]))
                            have G4 := Lib.hid g4
                            clear g4
                            go_wp2_with fail
                            refine (neIs_any ao cap l n a x wr Hn hs (HA.out.kept hbel)).mono ?_
                            rintro e u1 ⟨rfl, hc1⟩
                            have ea1 : hasC l (min (a : Int) x) (max (a : Int) x) = true := G2.out
                            rw [ea1]
                            have Ho1 := Lib.hid (Hor.out.later hc1)
                            have hb1 := hbel.trans (hc1.mono hsz)
                            have hs1 := hb1.size
                            clear hc1 ea1 Hor hbel
                            go_wp2_with fail
                            refine (neIs_any ao cap l n x y u1 Hn hs (HA.out.kept hb1)).mono ?_
                            rintro e u2 ⟨rfl, hc2⟩
                            have ea2 : hasC l (min (x : Int) y) (max (x : Int) y) = true := G3.out
                            rw [ea2]
                            have Ho2 := Lib.hid (Ho1.out.later hc2)
                            have hb2 := hb1.trans (hc2.mono hs1)
                            have hs2 := hb2.size
                            clear hc2 ea2 Ho1 hb1
                            go_wp2_with fail
                            refine (neIs_any ao cap l n y z u2 Hn hs (HA.out.kept hb2)).mono ?_
                            rintro e u3 ⟨rfl, hc3⟩
                            have ea3 : hasC l (min (y : Int) z) (max (y : Int) z) = false := G4.out
                            rw [ea3]
                            have Ho3 := Lib.hid (Ho2.out.later hc3)
                            have hb3 := hb2.trans (hc3.mono hs2)
                            have hs3 := hb3.size
                            clear hc3 ea3 Ho2 hb2
                            go_wp2_with fail
                            go_roundw
                            case rel => exact ⟨z + 1, X, N, A, C, by omega, by omega, by go_num, rfl, by rw [Hs.out]; exact HN, by rw [Hs.out]; exact Ho3, hb3⟩
                            case measure => simp [intOf]; omega
                          · have G4 := Lib.hid g4
                            clear g4
                            cases g5 : adj l z a
                            · have Hs : Hid (sqZ l a x y (z + 1) = sqZ l a x y z) := Lib.hid (col_no (by simp [okq, g5]))
                              have G5 := Lib.hid g5
                              clear g5
                              go_wp2_with fail
                              refine (neIs_any ao cap l n a x wr Hn hs (HA.out.kept hbel)).mono ?_
                              rintro e u1 ⟨rfl, hc1⟩
                              have ea1 : hasC l (min (a : Int) x) (max (a : Int) x) = true := G2.out
                              rw [ea1]
                              have Ho1 := Lib.hid (Hor.out.later hc1)
                              have hb1 := hbel.trans (hc1.mono hsz)
                              have hs1 := hb1.size
                              clear hc1 ea1 Hor hbel
                              go_wp2_with fail
                              refine (neIs_any ao cap l n x y u1 Hn hs (HA.out.kept hb1)).mono ?_
                              rintro e u2 ⟨rfl, hc2⟩
                              have ea2 : hasC l (min (x : Int) y) (max (x : Int) y) = true := G3.out
                              rw [ea2]
                              have Ho2 := Lib.hid (Ho1.out.later hc2)
                              have hb2 := hb1.trans (hc2.mono hs1)
                              have hs2 := hb2.size
                              clear hc2 ea2 Ho1 hb1
                              go_wp2_with fail
                              refine (neIs_any ao cap l n y z u2 Hn hs (HA.out.kept hb2)).mono ?_
                              rintro e u3 ⟨rfl, hc3⟩
                              have ea3 : hasC l (min (y : Int) z) (max (y : Int) z) = true := G4.out
                              rw [ea3]
                              have Ho3 := Lib.hid (Ho2.out.later hc3)
                              have hb3 := hb2.trans (hc3.mono hs2)
                              have hs3 := hb3.size
                              clear hc3 ea3 Ho2 hb2
                              go_wp2_with fail
                              refine (neIs_any ao cap l n z a u3 Hn hs (HA.out.kept hb3)).mono ?_
                              rintro e u4 ⟨rfl, hc4⟩
                              have ea4 : hasC l (min (z : Int) a) (max (z : Int) a) = false := G5.out
                              rw [ea4]
                              have Ho4 := Lib.hid (Ho3.out.later hc4)
                              have hb4 := hb3.trans (hc4.mono hs3)
                              have hs4 := hb4.size
                              clear hc4 ea4 Ho3 hb3
                              go_wp2_with fail
                              go_roundw
                              case rel => exact ⟨z + 1, X, N, A, C, by omega, by omega, by go_num, rfl, by rw [Hs.out]; exact HN, by rw [Hs.out]; exact Ho4, hb4⟩
                              case measure => simp [intOf]; omega
                            · have G5 := Lib.hid g5
                              clear g5
                              have Hs : Hid (sqZ l a x y (z + 1) = sqZ l a x y z ++ [qd a x y z]) := Lib.hid (col_yes (by simp only [okq, G2.out, G3.out, G4.out, G5.out, Bool.and_true, Bool.and_eq_true, decide_eq_true_eq, bne_iff_ne]; exact ⟨by omega, by omega, by omega⟩))
                              go_wp2_with fail
                              refine (neIs_any ao cap l n a x wr Hn hs (HA.out.kept hbel)).mono ?_
                              rintro e u1 ⟨rfl, hc1⟩
                              have ea1 : hasC l (min (a : Int) x) (max (a : Int) x) = true := G2.out
                              rw [ea1]
                              have Ho1 := Lib.hid (Hor.out.later hc1)
                              have hb1 := hbel.trans (hc1.mono hsz)
                              have hs1 := hb1.size
                              clear hc1 ea1 Hor hbel
                              go_wp2_with fail
                              refine (neIs_any ao cap l n x y u1 Hn hs (HA.out.kept hb1)).mono ?_
                              rintro e u2 ⟨rfl, hc2⟩
                              have ea2 : hasC l (min (x : Int) y) (max (x : Int) y) = true := G3.out
                              rw [ea2]
                              have Ho2 := Lib.hid (Ho1.out.later hc2)
                              have hb2 := hb1.trans (hc2.mono hs1)
                              have hs2 := hb2.size
                              clear hc2 ea2 Ho1 hb1
                              go_wp2_with fail
                              refine (neIs_any ao cap l n y z u2 Hn hs (HA.out.kept hb2)).mono ?_
                              rintro e u3 ⟨rfl, hc3⟩
                              have ea3 : hasC l (min (y : Int) z) (max (y : Int) z) = true := G4.out
                              rw [ea3]
                              have Ho3 := Lib.hid (Ho2.out.later hc3)
                              have hb3 := hb2.trans (hc3.mono hs2)
                              have hs3 := hb3.size
                              clear hc3 ea3 Ho2 hb2
                              go_wp2_with fail
                              refine (neIs_any ao cap l n z a u3 Hn hs (HA.out.kept hb3)).mono ?_
                              rintro e u4 ⟨rfl, hc4⟩
                              have ea4 : hasC l (min (z : Int) a) (max (z : Int) a) = true := G5.out
                              rw [ea4]
                              have Ho4 := Lib.hid (Ho3.out.later hc4)
                              have hb4 := hb3.trans (hc4.mono hs3)
                              have hs4 := hb4.size
                              clear hc4 ea4 Ho3 hb3
                              have hlit : (u4.alloc (.cells #[.int .i64 a, .int .i64 x, .int .i64 y, .int .i64 z] 3)).ownsRow u4.heap.size 3 1 (.slice (some ⟨u4.heap.size, 0, none⟩) 4 4) 4 (ns (qd a x y z)) := World.ownsRow_lit (e := 3) (size := 1) u4 #[.int .i64 a, .int .i64 x, .int .i64 y, .int .i64 z] 4 (Nat.le_refl _) (by unfold maxLen; omega) rfl
                              have Hlit := Lib.hid (hlit.alloc (.cells #[.slice (some ⟨u4.heap.size, 0, none⟩) 4 4] 33))
                              have hoo := (Ho4.out.alloc (.cells #[.int .i64 a, .int .i64 x, .int .i64 y, .int .i64 z] 3)).alloc (.cells #[.slice (some ⟨u4.heap.size, 0, none⟩) 4 4] 33)
                              have Hoo := Lib.hid hoo
                              have hbb := (hb4.alloc hs4 (.cells #[.int .i64 a, .int .i64 x, .int .i64 y, .int .i64 z] 3)).alloc (by simp; omega) (.cells #[.slice (some ⟨u4.heap.size, 0, none⟩) 4 4] 33)
                              have Hbb := Lib.hid hbb
                              clear hlit hoo hbb
                              go_wp2_with (at_builtin; refine wpList_append_lies _ rfl _ _ 47 rfl w.heap.size 33 i0 (.slice none 0 0) 1 24 Tryd.underlying47 hi iz0 iz1 iz2 rfl (by decide) _ N X rfl (by have h := Hoo.out.1; rw [← HN.out] at h; exact h) ⟨u4.heap.size + 1, 0, none⟩ 1 1 [.slice (some ⟨u4.heap.size, 0, none⟩) 4 4] rfl rfl ?c1 ?c2 (by omega) ?c3 ?c4 ?c5 (u4.heap.size + 2) ?c6 ?_)
                              case c1 => exact World.news_of_block (cs := #[.slice (some ⟨u4.heap.size, 0, none⟩) 4 4]) (t := 33) (fr := (0, 0)) (by have h9 := heap_alloc_new (u4.alloc (.cells #[.int .i64 a, .int .i64 x, .int .i64 y, .int .i64 z] 3)) (.cells #[.slice (some ⟨u4.heap.size, 0, none⟩) 4 4] 33); simpa using h9)
                              case c2 => intro u hu; simp at hu; subst hu; rfl
                              case c3 => unfold maxLen; omega
                              case c4 => omega
                              case c5 => simp; omega
                              case c6 => simp
                              intro g cap6 w6 hown hgr hat _
                              have hp := OwnSS.push (v' := .slice (some ⟨g, 0, none⟩) (N + 1) cap6) (H := u4.heap.size + 2) (x := .slice (some ⟨u4.heap.size, 0, none⟩) 4 4) (l := qd a x y z) Hoo.out (own_base hs4 Hlit.out)
                                (fun b hb e => by have h1 := (Hlit.out.lt b hb).1; have h2 := (Ho4.out.1.lt b e).2; omega)
                                (fun i y b hy hb e => by
                                  have hi := (List.getElem?_eq_some_iff.1 hy).1
                                  have h2 := ((Ho4.out.2.2.1 i y _ hy (List.getElem?_eq_getElem (by rw [← Ho4.out.2.1]; exact hi))).1.lt b hb).2
                                  have h1 := (Hlit.out.lt b e).1
                                  omega)
                                hgr (by rw [← HN.out]; exact hown) (by rcases hat with e | e
                                                                       · exact .inl e.symm
                                                                       · exact .inr (by rw [e]; rfl)) (by simp)
                              have Hp : Hid (OwnSS w6 w.heap.size (.slice (some ⟨g, 0, none⟩) (N + 1) cap6) (X ++ [.slice (some ⟨u4.heap.size, 0, none⟩) 4 4]) (sqW l F a ++ sqX l F a x ++ sqY l F a x y ++ sqZ l a x y (z + 1))) := Lib.hid (by rw [Hs.out, ← List.append_assoc]; exact hp)
                              have HN2 : Hid (N + 1 = (sqW l F a ++ sqX l F a x ++ sqY l F a x y ++ sqZ l a x y (z + 1)).length) := Lib.hid (by rw [Hs.out, ← List.append_assoc, List.length_append, ← HN.out]; rfl)
                              have Hb6 := Lib.hid (Hbb.out.grown hgr (by simp; omega) (fun b hb => (Ho4.out.1.lt b hb).1))
                              clear hown hgr hat hp
                              go_wp2_with fail
                              go_roundw
                              case rel => exact ⟨z + 1, _, N + 1, some ⟨g, 0, none⟩, cap6, by omega, by omega, by go_num, rfl, HN2, Hp, Hb6.out⟩
                              case measure => simp [intOf]; omega
                · obtain rfl : z = F := by omega
                  have Hy : Hid (sqY l z a x (y + 1) = sqY l z a x y ++ sqZ l a x y z) := Lib.hid (col_yes (by simp; omega))
                  go_wp2_with fail
                  go_roundw
                  case rel => exact ⟨y + 1, X, by omega, by omega, by go_num, by rw [Hy.out, ← List.append_assoc]; exact Hor, hbel⟩
                  case measure => simp [intOf]; omega
            · obtain rfl : y = F := by omega
              have Hx : Hid (sqX l y a (x + 1) = sqX l y a x ++ sqY l y a x y) := Lib.hid (col_yes (by simp; omega))
              go_wp2_with fail
              go_roundw
              case rel => exact ⟨x + 1, X, by omega, by omega, by go_num, by rw [Hx.out, ← List.append_assoc]; exact Hor, hbel⟩
              case measure => simp [intOf]; omega
        · obtain rfl : x = F := by omega
          have Hw : Hid (sqW l x (a + 1) = sqW l x a ++ sqX l x a x) := Lib.hid (col_yes rfl)
          go_wp2_with fail
          go_roundw
          case rel => exact ⟨a + 1, X, by omega, by go_num, by rw [Hw.out]; exact Hor, hbel⟩
          case measure => simp [intOf]; omega
    · obtain rfl : a = F := by omega
      go_wp2_with fail
      go_ret
      exact ⟨_, X, rfl, Hor.out, hbel⟩

end Go.Proofs.YtibjapfaljeclaaDoor
