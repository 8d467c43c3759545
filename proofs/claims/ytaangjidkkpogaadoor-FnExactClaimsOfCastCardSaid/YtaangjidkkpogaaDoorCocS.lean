/- ClaimsOfCast, the model's way. -/
import Derived.Test.YtaangjidkkpogaaDoorCa
namespace Go.Proofs.YtaangjidkkpogaaDoor
open Go.ChangeShapes Go.WideShapes Go.ChangeAt Go.RowKit
set_option linter.unusedVariables false


theorem infoCL : (Tryd.prog.info? 48).map (fun i => (i.zero, i.size, i.bytes)) = some (some (.agg #[.int .i64 0, .int .i64 0, .bool false]), 3, 24) := by kernel_rfl
/-- What each of the first k says about the next one. -/
def cocL (c : List Bool) (k : Nat) : List Snd := (List.range k).map fun (i : Nat) => ((i : Int), (i : Int) + 1, hon c ((i : Int) + 1) == hon c (i : Int))
theorem cocL_len (c : List Bool) (k : Nat) : (cocL c k).length = k := by simp [cocL]
theorem cocL_succ (c : List Bool) (k : Nat) : cocL c (k + 1) = cocL c k ++ [((k : Int), (k : Int) + 1, hon c ((k : Int) + 1) == hon c (k : Int))] := by simp [cocL, List.range_succ]
theorem cocL_at (c : List Bool) (n k : Nat) (h : k < n) : sf (cocL c n) k = (k : Int) ∧ st (cocL c n) k = (k : Int) + 1 ∧ sm (cocL c n) k = (hon c ((k : Int) + 1) == hon c (k : Int)) := by
  simp [sf, st, sm, cocL, List.getD_eq_getElem?_getD, h]
def cocR (s : ByteArray) : List Snd := if castB s then cocL (cOf s) (s.size - 1) else []
theorem cocR_len (s : ByteArray) : (cocR s).length ≤ 1000 := by
  unfold cocR
  split
  · rename_i h; rw [cocL_len]; have := (cast_of h).2.2.2; omega
  · simp
theorem say_true (c : List Bool) (x y : Int) : sayB c x y true = (hon c y == hon c x) := by
  unfold sayB; cases hon c x <;> cases hon c y <;> rfl
theorem push_snd {P : Program} (w : World) {ops : Array Oper} {rest : List Oper} {o : Oper} {a : Act} {Q : Exit → Act → World → Prop} (hgd : o.guard = none) (s x : Operand) (t e : TypeId)
    (ho : o.op = .call { callee := .builtin .append, args := #[s, x], argTypes := #[t, t] })
    (base : Nat) (i : TypeInfo) (ht : P.underlying t = some (.slice e)) (hi : P.info? e = some i) (hz : i.zero = some (.agg #[.int .i64 0, .int .i64 0, .bool false]))
    (hsize : i.size = 3) (hby : i.bytes = 24)
    (v : Value) (l : List Snd) (k : Nat) (hs : a.eval s = v) (hown : w.ownsRow base e 3 v k (ss l)) (hsml : k ≤ 1000000)
    (q : Snd) (c : Nat) (ad : Nat) (hx : a.eval x = .slice (some ⟨ad, 0, none⟩) 1 c) (h0 : w.cell? ⟨ad, 0, none⟩ = some (.int .i64 q.1)) (h1 : w.cell? ⟨ad, 1, none⟩ = some (.int .i64 q.2.1)) (h2 : w.cell? ⟨ad, 2, none⟩ = some (.bool q.2.2)) (hbase : base ≤ w.heap.size)
    (h : ∀ g cap w', w'.ownsRow base e 3 (.slice (some ⟨g, 0, none⟩) (k + 1) cap) (k + 1) (ss (l ++ [q])) → w.grownBy w' v.ownBlock → (v.ownBlock = some g ∨ g = w.heap.size) → wpList P ops Q rest (a.put o.dst (.slice (some ⟨g, 0, none⟩) (k + 1) cap)) w') : wpList P ops Q (o :: rest) a w := by
  refine wpList_append_lies w hgd s x t ho base e i (.agg #[.int .i64 0, .int .i64 0, .bool false]) 3 24 ht hi hz hsize hby rfl (by decide) v k (ss l) hs hown ⟨ad, 0, none⟩ 1 c (ss [q]) hx (by rw [ss_length]; rfl) ?_ (ss_one _) (by omega) (by unfold maxLen; omega) (by omega) hbase w.heap.size rfl ?_
  · intro j u hu
    have hj : j < (ss [q]).length := (List.getElem?_eq_some_iff.1 hu).1
    rw [ss_length] at hj
    rw [show (⟨ad, 0, none⟩ : Addr).add j = ⟨ad, j, none⟩ from by unfold Addr.add; split <;> simp_all]
    have hj3 : j = 0 ∨ j = 1 ∨ j = 2 := by simp at hj; omega
    rcases hj3 with rfl | rfl | rfl
    · rw [h0]; exact hu
    · rw [h1]; exact hu
    · rw [h2]; exact hu
  · intro g cap w' hown' hgr hat _
    exact h g cap w' (by rw [ss_append]; exact hown') hgr hat
set_option maxHeartbeats 1600000 in
set_option maxRecDepth 20000 in
theorem specCoc_any (w : World) (s : ByteArray) (hs : s.size ≤ 1048576) :
    Calls Tryd.prog 13 #[.string s] w fun e w' => ∃ v, e = .returned (.tuple #[v, .bool (castB s)]) ∧ w'.ownsRow w.heap.size 48 3 v (cocR s).length (ss (cocR s)) ∧ Below w.heap.size w w' := by
  obtain ⟨i0, hi, hz0, hz1, hz2⟩ := info_parts infoCL
  have HC := Lib.hid (liCast_any s w hs)
  cases hca : castB s
  · have hr : cocR s = [] := by unfold cocR; rw [hca]; rfl
    rw [hr]
    rw [hca] at HC
    clear hr hca
    go_enter Tryd.func13, Tryd.ntmps13
    go_wp2_with fail
    refine HC.out.mono ?_
    rintro e w1 ⟨rfl, hb1⟩
    go_wp2_with fail
    go_ret2
    exact ⟨.slice none 0 0, rfl, World.ownsRow_nil _ _ _ _, hb1⟩
  · rw [hca] at HC
    obtain ⟨hsc, hlen, h1, h8⟩ := cast_of hca
    have hr : cocR s = cocL (cOf s) (s.size - 1) := by unfold cocR; rw [hca]; rfl
    rw [hr, cocL_len]
    obtain ⟨z, hz⟩ : ∃ z, s.size = z + 1 := ⟨s.size - 1, by omega⟩
    rw [hz, Nat.add_sub_cancel]
    have HS : Hid (∀ k : Nat, k < z → ∀ w, Calls Tryd.prog 35 #[.string s, .int .i64 (k : Int), .int .i64 ((k : Int) + 1)] w fun e w' => e = .returned (.bool (hon (cOf s) ((k : Int) + 1) == hon (cOf s) (k : Int))) ∧ ∃ m, w' = w.drewN m) := Lib.hid (fun k hk w => by
      have h := liSays_any (cOf s) (k : Int) ((k : Int) + 1) w (by omega) (by omega)
      rw [← hsc] at h
      exact h)
    have Hs := Lib.hid (fun k => cocL_succ (cOf s) k)
    generalize cOf s = c at HS Hs ⊢
    obtain ⟨H, hH⟩ : ∃ H, w.heap.size = H := ⟨_, rfl⟩
    rw [hH] at HC ⊢
    have HH := Lib.hid hH
    clear hr hca hsc hlen h1 hH
    go_enter Tryd.func13, Tryd.ntmps13
    go_wp2_with fail
    refine HC.out.mono ?_
    rintro e w1 ⟨rfl, hb1⟩
    have Hb1 := Lib.hid hb1
    clear hb1
    go_wp2_with fail
    go_loopw [4, 5] (fun v i wr => ∃ k : Nat, k ≤ z ∧ i = .int .i64 k ∧ wr.ownsRow H 48 3 v k (ss (cocL c k)) ∧ Below H w wr) (fun _ i _ => z - (intOf i).toNat)
    case atStart => exact ⟨0, Nat.zero_le _, rfl, World.ownsRow_nil _ _ _ _, Hb1.out⟩
    case round =>
      obtain ⟨k, hk, rfl, hor, hb3⟩ := hrel
      by_cases hlt : k < z
      · have HV := Lib.hid (HS.out k hlt wr)
        have hsk := Hs.out k
        generalize (hon c ((k : Int) + 1) == hon c (k : Int)) = b at HV hsk
        have Hsk := Lib.hid hsk
        have hsz : H ≤ wr.heap.size := by have := hb3.size; have := HH.out; omega
        have hlt2 : decide ((k : Int) + 1 < (z : Int) + 1) = true := by simp; omega
        have Hor := Lib.hid hor
        have Hb3 := Lib.hid hb3
        clear hor hb3 hsk
        go_wp2_with fail
        refine HV.out.mono ?_
        rintro e w4 ⟨rfl, m, rfl⟩
        have hb4 := below_drewN (Below.refl wr.heap.size wr) m
        have Hor3 := Lib.hid ((own_later Hor.out hb4).alloc (.cells #[.int .i64 (k : Int), .int .i64 ((k : Int) + 1), .bool b] 48))
        have hsz2 : H ≤ (wr.drewN m).heap.size := Nat.le_trans hsz hb4.size
        have Hb4 := Lib.hid ((Hb3.out.trans (hb4.mono hsz)).alloc hsz2 (.cells #[.int .i64 (k : Int), .int .i64 ((k : Int) + 1), .bool b] 48))
        have H0 : Hid (((wr.drewN m).alloc (.cells #[.int .i64 (k : Int), .int .i64 ((k : Int) + 1), .bool b] 48)).cell? ⟨(wr.drewN m).heap.size, 0, none⟩ = some (.int .i64 (k : Int))) := Lib.hid (by rw [cell_of_row _ _ _ _ _ _ (heap_alloc_new (wr.drewN m) _)]; rfl)
        have H1 : Hid (((wr.drewN m).alloc (.cells #[.int .i64 (k : Int), .int .i64 ((k : Int) + 1), .bool b] 48)).cell? ⟨(wr.drewN m).heap.size, 1, none⟩ = some (.int .i64 ((k : Int) + 1))) := Lib.hid (by rw [cell_of_row _ _ _ _ _ _ (heap_alloc_new (wr.drewN m) _)]; rfl)
        have H2 : Hid (((wr.drewN m).alloc (.cells #[.int .i64 (k : Int), .int .i64 ((k : Int) + 1), .bool b] 48)).cell? ⟨(wr.drewN m).heap.size, 2, none⟩ = some (.bool b)) := Lib.hid (by rw [cell_of_row _ _ _ _ _ _ (heap_alloc_new (wr.drewN m) _)]; rfl)
        clear hb4
        go_wp2_with (at_builtin; refine push_snd _ rfl _ _ 26 48 rfl H i0 Tryd.underlying26 hi hz0 hz1 hz2 _ _ k rfl Hor3.out (by omega) ((k : Int), (k : Int) + 1, b) _ (wr.drewN m).heap.size rfl H0.out H1.out H2.out (by simp; simp at hsz2; omega) ?_)
        intro g3 cap3 w5 own5 gr5 _
        have Own5 : Hid (w5.ownsRow H 48 3 (.slice (some ⟨g3, 0, none⟩) (k + 1) cap3) (k + 1) (ss (cocL c (k + 1)))) := Lib.hid (by rw [Hsk.out]; exact own5)
        have Hb5 := Lib.hid (Hb4.out.grown gr5 (by simp; simp at hsz2; omega) (fun k hk => (Hor3.out.lt k hk).1))
        clear own5 gr5
        go_wp2_with fail
        go_roundw
        case rel => exact ⟨k + 1, by omega, by go_num, Own5.out, Hb5.out⟩
        case measure => simp [intOf]; omega
      · obtain rfl : k = z := by omega
        have hlt2 : decide ((k : Int) + 1 < (k : Int) + 1) = false := by simp
        have Hor := Lib.hid hor
        clear hor
        go_wp2_with fail
        go_ret2
        exact ⟨_, rfl, Hor.out, hb3⟩

end Go.Proofs.YtaangjidkkpogaaDoor
