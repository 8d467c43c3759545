/- Lists of calls that grow; all calls of so many friends. -/
import Derived.Test.YtmgmkgjefplfdaaHl
namespace Go.Proofs.Ytmgmkgjefplfdaa
open Go.ChangeShapes Go.WideShapes Go.ChangeAt Go.RowKit
set_option linter.unusedVariables false


theorem infoC : (Try.prog.info? 83).map (fun i => (i.zero, i.size, i.bytes)) = some (some (.agg #[.int .i64 0, .int .i64 0]), 2, 16) := by kernel_rfl
theorem own_cap2 {w : World} {base : Nat} {e : TypeId} {size n m cap : Nat} {ao : Option Addr} {xs : List Value} (h : w.ownsRow base e size (.slice ao n cap) m xs) : n ≤ cap := by
  rcases h.2 with ⟨h', _⟩ | ⟨g', cap', cur, h', _, _, hnc, _⟩
  · simp at h'; omega
  · simp only [Value.slice.injEq] at h'
    obtain ⟨_, h2, h3⟩ := h'
    omega
theorem cs_append_one (l : List (Int × Int)) (x : Int × Int) : cs (l ++ [x]) = cs l ++ [.int .i64 x.1, .int .i64 x.2] := by simp [cs]
/-- One list more. -/
theorem push_row {P : Program} (w : World) {ops : Array Oper} {rest : List Oper} {o : Oper} {a : Act} {Q : Exit → Act → World → Prop} (hgd : o.guard = none) (s x : Operand) (t : TypeId)
    (ho : o.op = .call { callee := .builtin .append, args := #[s, x], argTypes := #[t, t] })
    (base : Nat) (i : TypeInfo) (ht : P.underlying t = some (.slice 46)) (hi : P.info? 46 = some i) (hz : i.zero = some (.slice none 0 0))
    (hsize : i.size = 1) (hby : i.bytes = 24)
    (v : Value) (X : List Value) (L : List (List (Int × Int))) (k : Nat) (hk : L.length = k) (hs : a.eval s = v) (hown : OwnCS w base v X L) (hsml : k ≤ 1000000)
    (r : Value) (l : List (Int × Int)) (hr : w.ownsRow base 83 2 r l.length (cs l)) (hrv : ∀ b, r.ownBlock = some b → v.ownBlock ≠ some b) (hrX : ∀ (i : Nat) (y : Value) (b : Nat), X[i]? = some y → y.ownBlock = some b → r.ownBlock ≠ some b)
    (c : Nat) (ad : Nat) (hx : a.eval x = .slice (some ⟨ad, 0, none⟩) 1 c) (had : w.cell? ⟨ad, 0, none⟩ = some r) (h1 : r.oneCell' = true) (hbase : base ≤ w.heap.size)
    (h : ∀ v' w', OwnCS w' base v' (X ++ [r]) (L ++ [l]) → w.grownBy w' v.ownBlock → (v'.ownBlock = v.ownBlock ∨ v'.ownBlock = some w.heap.size) → wpList P ops Q rest (a.put o.dst v') w') : wpList P ops Q (o :: rest) a w := by
  refine wpList_append_lies w hgd s x t ho base 46 i (.slice none 0 0) 1 24 ht hi hz hsize hby rfl (by decide) v k X hs (by rw [← hk]; exact hown.1) ⟨ad, 0, none⟩ 1 c [r] hx rfl ?_ ?_ (by omega) (by unfold maxLen; omega) (by omega) hbase w.heap.size rfl ?_
  · intro j u hu
    cases j with
    | zero => simp at hu; subst hu; exact had
    | succ j => simp at hu
  · intro u hu
    simp at hu
    subst hu
    exact h1
  · intro g cap w' hown' hgr hat _
    have hat2 : (Value.slice (some ⟨g, 0, none⟩) (k + 1) cap).ownBlock = v.ownBlock ∨ (Value.slice (some ⟨g, 0, none⟩) (k + 1) cap).ownBlock = some w.heap.size := by
      rcases hat with e | e
      · exact .inl e.symm
      · exact .inr (by rw [e]; rfl)
    exact h _ w' (OwnCS.push (v' := .slice (some ⟨g, 0, none⟩) (k + 1) cap) (H := w.heap.size) hown hr hrv hrX hgr (by rw [hk]; exact hown') hat2 (Nat.le_refl _)) hgr hat2


set_option maxRecDepth 20000 in
theorem allCalls_any (F : Nat) (w : World) (hF : F ≤ 10) :
    Calls Try.prog 104 #[.int .i64 F] w fun e w' => ∃ v, e = .returned v ∧ w'.ownsRow w.heap.size 83 2 v (wholeP (pr 3 0 F) F F).length (cs (wholeP (pr 3 0 F) F F)) ∧ Below w.heap.size w w' := by
  obtain ⟨i0, hi, hz0, hz1, hz2⟩ := info_parts infoC
  go_enter Try.func104, Try.ntmps104
  go_wp2_with fail
  go_loopw [3, 7] (fun v i wr => ∃ a : Nat, a ≤ F ∧ i = .int .i64 a ∧ wr.ownsRow w.heap.size 83 2 v (wholeP (pr 3 0 F) F a).length (cs (wholeP (pr 3 0 F) F a)) ∧ Below w.heap.size w wr) (fun _ i _ => F - (intOf i).toNat)
  case atStart => exact ⟨0, Nat.zero_le _, rfl, World.ownsRow_nil _ _ _ _, Below.refl _ _⟩
  case round =>
    obtain ⟨a, ha, rfl, hor, hbel⟩ := hrel
    have hwl := wholeP_len (pr 3 0 F) hF a
    by_cases hlt : a < F
    · have Hor := Lib.hid hor
      clear hor
      go_wp2_with fail
      go_loopw [3, 5] (fun v i wr => ∃ m : Nat, a + 1 ≤ m ∧ m ≤ F ∧ i = .int .i64 m ∧ wr.ownsRow w.heap.size 83 2 v (wholeP (pr 3 0 F) F a ++ rowP (pr 3 0 F) a m).length (cs (wholeP (pr 3 0 F) F a ++ rowP (pr 3 0 F) a m)) ∧ Below w.heap.size w wr) (fun _ i _ => F - (intOf i).toNat)
      case atStart => exact ⟨a + 1, Nat.le_refl _, hlt, by go_num, by rw [rowP_low _ _ _ (Nat.le_refl _), List.append_nil]; exact Hor.out, hbel⟩
      case round =>
        clear Hor hbel
        obtain ⟨m, hm1, hm, rfl, hor, hbel⟩ := hrel
        have hrl := rowP_len (pr 3 0 F) a m
        have hll : (wholeP (pr 3 0 F) F a ++ rowP (pr 3 0 F) a m).length ≤ 200 := by rw [List.length_append]; omega
        have hsz := hbel.size
        by_cases hlm : m < F
        · have Hs : Hid (rowP (pr 3 0 F) a (m + 1) = rowP (pr 3 0 F) a m ++ [((a : Int), (m : Int))]) := Lib.hid (rowP_yes (by omega) (by simp [pr]))
          go_wp2_with (at_builtin; refine wpList_append_own _ rfl _ _ 46 rfl w.heap.size 83 i0 (.agg #[.int .i64 0, .int .i64 0]) 2 16 Try.underlying46 hi hz0 hz1 hz2 rfl (by decide) _ _ _ rfl (hor.alloc _) ⟨wr.heap.size, 0, none⟩ 1 1 [.int .i64 a, .int .i64 m] rfl rfl ?c1 ?c2 ?c3 ?c4 ?c5 ?_)
          case c1 => exact World.news_of_block (cs := #[.int .i64 a, .int .i64 m]) (t := 83) (fr := (0, 0)) (heap_alloc_new _ _)
          case c2 => intro u hu; simp at hu; rcases hu with rfl | rfl <;> rfl
          case c3 => unfold maxLen; omega
          case c4 => omega
          case c5 => simp; omega
          intro v' w8 hown' hgr _
          have Hown := Lib.hid hown'
          have Hbel := Lib.hid ((hbel.alloc hsz _).grown hgr (by simp; omega) (fun b hb => (hor.lt b hb).1))
          clear hown' hgr
          clear hor hbel
          go_wp2_with fail
          go_roundw
          case rel => exact ⟨m + 1, by omega, by omega, by go_num, by rw [Hs.out, ← List.append_assoc, cs_append, List.length_append, List.length_append]; exact Hown.out, Hbel.out⟩
          case measure => simp [intOf]; omega
        · obtain rfl : m = F := by omega
          have Hor := Lib.hid hor
          clear hor
          go_wp2_with fail
          go_roundw
          case rel => exact ⟨a + 1, by omega, by go_num, Hor.out, hbel⟩
          case measure => simp [intOf]; omega
    · obtain rfl : a = F := by omega
      have Hor := Lib.hid hor
      clear hor
      go_wp2_with fail
      go_ret
      exact ⟨_, rfl, Hor.out, hbel⟩

end Go.Proofs.Ytmgmkgjefplfdaa
