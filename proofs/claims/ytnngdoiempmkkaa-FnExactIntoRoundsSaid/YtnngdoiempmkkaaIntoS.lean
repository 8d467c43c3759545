/- IntoRounds by the model. -/
import Derived.Test.YtnngdoiempmkkaaIntoM
import Derived.Test.YtnngdoiempmkkaaDblI
import Derived.Deep.CutRange
import Derived.Deep.RegionWith
namespace Go.Proofs.Ytnngdoiempmkkaa
open Go.ChangeShapes Go.WideShapes Go.ChangeAt Go.RowKit
set_option linter.unusedVariables false


theorem infoI : (Try.prog.info? 3).map (fun i => (i.zero, i.size, i.bytes)) = some (some (.int .i64 0), 1, 8) := by kernel_rfl
theorem zero_fl (F : Nat) : (madeCells #[.int .i64 0] (F * 1)).toList = fl F fun _ => 0 := by
  rw [Nat.mul_one, toList_madeCells_one]
  apply List.ext_getElem?
  intro j
  by_cases hj : j < F
  · rw [fl_get F _ j hj]; simp [hj]
  · rw [List.getElem?_eq_none (by simp; omega), List.getElem?_eq_none (by rw [fl_length]; omega)]

/-- How many rounds are wanting still. -/
def room (P : Nat) (v : Value) : Nat := match v with | .slice _ m _ => P + 1 - m | _ => 0
theorem room_slice (P : Nat) (a : Option Addr) (m c : Nat) : room P (.slice a m c) = P + 1 - m := rfl
/-- A round is appended to rounds: what grows. -/
theorem push_roundG {P : Program} (w : World) {ops : Array Oper} {rest : List Oper} {o : Oper} {a : Act} {Q : Exit → Act → World → Prop} (hgd : o.guard = none) (s x : Operand) (t : TypeId)
    (ho : o.op = .call { callee := .builtin .append, args := #[s, x], argTypes := #[t, t] })
    (base : Nat) (i : TypeInfo) (ht : P.underlying t = some (.slice 29)) (hi : P.info? 29 = some i) (hz : i.zero = some (.slice none 0 0))
    (hsize : i.size = 1) (hby : i.bytes = 24)
    (v : Value) (X : List Value) (L : List (List (Int × Int))) (k : Nat) (hk : L.length = k) (hs : a.eval s = v) (hown : OwnCS w base v X L) (hsml : k ≤ 1000000)
    (r : Value) (l : List (Int × Int)) (hr : w.ownsRow base 46 2 r l.length (cs l)) (hrv : ∀ b, r.ownBlock = some b → v.ownBlock ≠ some b) (hrX : ∀ (i : Nat) (y : Value) (b : Nat), X[i]? = some y → y.ownBlock = some b → r.ownBlock ≠ some b)
    (c : Nat) (ad : Nat) (hx : a.eval x = .slice (some ⟨ad, 0, none⟩) 1 c) (had : w.cell? ⟨ad, 0, none⟩ = some r) (h1 : r.oneCell' = true) (hbase : base ≤ w.heap.size)
    (h : ∀ v' w', OwnCS w' base v' (X ++ [r]) (L ++ [l]) → w.grownBy w' v.ownBlock → (v'.ownBlock = v.ownBlock ∨ v'.ownBlock = some w.heap.size) → wpList P ops Q rest (a.put o.dst v') w') : wpList P ops Q (o :: rest) a w := by
  refine wpList_append_lies w hgd s x t ho base 29 i (.slice none 0 0) 1 24 ht hi hz hsize hby rfl (by decide) v k X hs (by rw [← hk]; exact hown.1) ⟨ad, 0, none⟩ 1 c [r] hx rfl ?_ ?_ (by omega) (by unfold maxLen; omega) (by omega) hbase w.heap.size rfl ?_
  · intro j u hu
    cases j with
    | zero => simp at hu; subst hu; exact had
    | succ j => simp at hu
  · intro u hu
    simp at hu
    subst hu
    exact h1
  · intro g cap w' hown' hgr hat _
    have hat2 : (Value.slice (some ⟨g, 0, none⟩) (k + 1) cap).ownBlock = v.ownBlock ∨ (Value.slice (some ⟨g, 0, none⟩) (k + 1) cap).ownBlock = some w.heap.size := by
      rcases hat with e | e
      · exact .inl e.symm
      · exact .inr (by rw [e]; rfl)
    exact h _ w' (OwnCS.push (v' := .slice (some ⟨g, 0, none⟩) (k + 1) cap) (H := w.heap.size) hown hr hrv hrX hgr (by rw [hk]; exact hown') hat2 (Nat.le_refl _)) hgr hat2

set_option maxHeartbeats 1600000 in
set_option maxRecDepth 20000 in
theorem specInto_yes (w : World) (F : Nat) (ao : Option Addr) (cap : Nat) (l : List (Int × Int)) (n : Nat) (Hn : Hid (n = l.length)) (hs : n ≤ 60) (HHc : Hid (CallsAt w ao l)) (Hg : Hid (gdB (F : Int) l = true)) (hff : 1 ≤ (F : Int) ∧ (F : Int) ≤ 10) (r : Bool) (R : List (List (Int × Int))) (Hr : Hid (r = okR l)) (HR : Hid (R = if okR l then (inR l).2.map srt else [])) :
    Calls Try.prog 19 #[.int .i64 F, .slice ao n cap] w fun e w' => ∃ v X, e = .returned (.tuple #[v, .bool r]) ∧ OwnCS w' w.heap.size v X R ∧ Below w.heap.size w w' := by
  obtain ⟨i0, hi, hz0, hz1, hz2⟩ := info_parts infoI
  have Hz := Lib.hid (And.intro hz0 (And.intro hz1 hz2))
  clear hz0 hz1 hz2
  obtain ⟨j0, hj, hy0, hy1, hy2⟩ := info_parts info29
  go_enter Try.func19, Try.ntmps19
  go_wp2_with fail
  refine (caGood_any F ao cap l n w Hn.out (by omega) HHc.out).mono ?_
  rintro e w1 ⟨rfl, hb1⟩
  rw [Hg.out]
  have hs1 := hb1.size
  have Hb1 := Lib.hid hb1
  clear hb1
  go_wp2_with (refine wpList_make_full _ rfl _ _ 48 rfl w.heap.size 3 i0 (.int .i64 0) 1 Try.underlying48 hi Hz.out.1 Hz.out.2.1 .i64 .i64 _ _ F rfl rfl rfl rfl ?_ ?_ ?_ ?_)
  · rw [Hz.out.2.2]; omega
  · unfold maxLen; omega
  · exact hs1
  intro w2 hown hgr
  have hown2 : w2.ownsRow w.heap.size 3 1 (.slice (some ⟨w1.heap.size, 0, none⟩) F F) F (fl F fun _ => 0) := by rw [← zero_fl]; simpa using hown
  have Hb2 := Lib.hid (Hb1.out.grown hgr hs1 (fun _ h => by cases h))
  obtain ⟨g, hge⟩ : ∃ g, g = w1.heap.size := ⟨_, rfl⟩
  rw [← hge] at hown2 hs1 ⊢
  have Hf2 := Lib.hid hown2
  clear hown hgr hown2 hge
  go_wp2_with fail
  go_loopw [7, 19] (fun v i wr => ∃ (k : Nat) (X : List Value), k ≤ n ∧ i = .int .i64 k ∧ Hid (okTo l k) ∧ Hid (wr.ownsRow w.heap.size 3 1 (.slice (some ⟨g, 0, none⟩) F F) F (fl F (inR (l.take k)).1)) ∧ Hid (OwnCS wr (g + 1) v X ((inR (l.take k)).2.map srt)) ∧ Below w.heap.size w wr) (fun _ i _ => n - (intOf i).toNat)
  case atStart => exact ⟨0, [], Nat.zero_le _, rfl, Lib.hid (fun j hj => absurd hj (Nat.not_lt_zero j)), by simpa [inR] using Hf2, Lib.hid (by simpa [inR] using OwnCS.nil _ _), Hb2.out⟩
  case round =>
    obtain ⟨k, X, hk, rfl, Hok, Hfr, Hor, hbel⟩ := hrel
    have hsz := hbel.size
    by_cases hlt : k < n
    · have hgc := gd_call Hg.out (by rw [← Hn.out]; exact hlt)
      obtain ⟨b, off, Hao, hcc⟩ : ∃ b off, Hid (ao = some ⟨b, off, none⟩) ∧ (w.cell? ⟨b, off + k * 2, none⟩ = some (.int .i64 (ca l k)) ∧ w.cell? ⟨b, off + k * 2 + 1, none⟩ = some (.int .i64 (cb l k))) := by
        rcases HHc.out with h | ⟨b, off, h, hc⟩
        · subst h; exact absurd Hn.out (by simp; omega)
        · exact ⟨b, off, h, hc k (by rw [← Hn.out]; exact hlt)⟩
      have h0 := cell_old hbel hcc.1
      have h1 := cell_old hbel hcc.2
      have Hin := Lib.hid (inR_succ l k (by rw [← Hn.out]; exact hlt))
      have Hpl : Hid (pl l k = max ((inR (l.take k)).1 (ca l k).toNat) ((inR (l.take k)).1 (cb l k).toNat)) := rfl
      have Hple := Lib.hid (pl_le l k (by rw [← Hn.out]; exact hlt))
      have Hstep : Hid (stR (inR (l.take k)) (ca l k, cb l k) = (updN (updN (inR (l.take k)).1 (ca l k).toNat (pl l k + 1)) (cb l k).toNat (pl l k + 1), put1 (inR (l.take k)).2 (pl l k) (ca l k, cb l k))) := rfl
      have Hl20 := Lib.hid (len20 l k (by rw [← Hn.out]; exact hk) Hok.out)
      have Hrows : Hid (∀ i, (crow (inR (l.take k)).2 i).length ≤ 60) := Lib.hid (fun i => by have := (rinv l k (by rw [← Hn.out]; exact hk)).rows i; omega)
      have Hnot : Hid (¬ pl l k < 20 → okR l = false) := fun h => okR_not (by rw [← Hn.out]; exact hlt) h
      generalize hP : pl l k = P at Hpl Hple Hstep Hnot
      have HP := Lib.hid hP
      generalize inR (l.take k) = s at Hfr Hor Hin Hpl Hple Hstep Hl20 Hrows
      obtain ⟨a, ha⟩ := Int.eq_ofNat_of_zero_le hgc.1
      obtain ⟨bb, hbb⟩ := Int.eq_ofNat_of_zero_le (show 0 ≤ cb l k by omega)
      rw [ha] at hgc h0 Hpl Hstep Hin
      rw [hbb] at hgc h1 Hpl Hstep Hin
      have haF : a < F := by omega
      have hbF : bb < F := by omega
      have ha2 : (0 : Int) ≤ a := by omega
      have ha3 : (a : Int) < F := by omega
      have hb2 : (0 : Int) ≤ bb := by omega
      have hb3 : (bb : Int) < F := by omega
      have fa := Hfr.out.cellAt a (by omega)
      have fb := Hfr.out.cellAt bb (by omega)
      rw [fl_get F _ a haF] at fa
      rw [fl_get F _ bb hbF] at fb
      have hmx : max ((s.1 a : Nat) : Int) ((s.1 bb : Nat) : Int) = (P : Int) := by have := Hpl.out; simp at this; omega
      have Hmx := Lib.hid hmx
      rw [Hao.out]
      clear hcc hP hmx
      obtain ⟨B, hBd⟩ : ∃ B, B = wr.heap.size := ⟨_, rfl⟩
      obtain ⟨w3, hw3⟩ : ∃ w3, w3 = wr.alloc (.cells #[.int .i64 a, .int .i64 bb] 46) := ⟨_, rfl⟩
      have c0 : w3.cell? ⟨B, 0, none⟩ = some (.int .i64 a) := by rw [hw3, hBd, cell_of_row _ _ _ _ _ _ (heap_alloc_new wr _)]; rfl
      have c1 : w3.cell? ⟨B, 1, none⟩ = some (.int .i64 bb) := by rw [hw3, hBd, cell_of_row _ _ _ _ _ _ (heap_alloc_new wr _)]; rfl
      have fa3 : w3.cell? ⟨g, a, none⟩ = some (.int .i64 (s.1 a : Nat)) := by rw [hw3]; exact cell_old ((Below.refl _ _).alloc (Nat.le_refl _) _) fa
      have fb3 : w3.cell? ⟨g, bb, none⟩ = some (.int .i64 (s.1 bb : Nat)) := by rw [hw3]; exact cell_old ((Below.refl _ _).alloc (Nat.le_refl _) _) fb
      have Hfr3 : Hid (w3.ownsRow w.heap.size 3 1 (.slice (some ⟨g, 0, none⟩) F F) F (fl F s.1)) := by show w3.ownsRow _ _ _ _ _ _; rw [hw3]; exact Hfr.out.alloc _
      have Hor3 : Hid (OwnCS w3 (g + 1) u7 X (s.2.map srt)) := by show OwnCS _ _ _ _ _; rw [hw3]; exact Hor.out.alloc _
      have Hb3 : Hid (Below w.heap.size w w3) := by show Below _ _ _; rw [hw3]; exact hbel.alloc hsz _
      have hBs : B < w3.heap.size := by rw [hw3, hBd]; simp
      have hgB : g < B := by rw [hBd]; exact (Hfr.out.lt g rfl).2
      have HvB : Hid (u7.ownBlock ≠ some B) := fun h => by have := (Hor.out.1.lt B h).2; omega
      go_upto_region 8 with (fail)
      rw [← hBd, ← hw3]
      clear hBd hw3 fa fb h0 h1 hbel Hfr Hor hsz
      have C0 := Lib.hid c0
      have C1 := Lib.hid c1
      go_quiet ((go_at_call 31; exact Calls.quiet_of_same ((l1Most_any _ _ _).mono fun _ _ ⟨h1, h2⟩ => ⟨h1, h2.symm⟩)))
      rw [Hmx.out]
      have bd : Below w3.heap.size w3 (w3.drewN nq) := below_drewN (Below.refl _ _) _
      have Hfr4 := Lib.hid (own_later Hfr3.out bd)
      have Hor4 := Lib.hid (Hor3.out.later bd)
      have Hb4 := Lib.hid (Hb3.out.trans (bd.mono Hb3.out.size))
      have c04 : (w3.drewN nq).cell? ⟨B, 0, none⟩ = some (.int .i64 a) := c0
      have c14 : (w3.drewN nq).cell? ⟨B, 1, none⟩ = some (.int .i64 bb) := c1
      have hBs4 : B < (w3.drewN nq).heap.size := hBs
      generalize w3.drewN nq = w4 at Hfr4 Hor4 Hb4 c04 c14 hBs4 ⊢
      clear bd c0 c1 fa3 fb3 Hfr3 Hor3 Hb3 hBs C0 C1
      have C0 := Lib.hid c04
      have C1 := Lib.hid c14
      clear c04 c14
      by_cases h20 : P < 20
      · have hne : ¬ (P : Int) = 20 := by omega
        have hpU := Hple.out
        have hU20 := Hl20.out
        have hlenM : (s.2.map srt).length = s.2.length := List.length_map srt
        have hg1 : w.heap.size ≤ g + 1 := by omega
        have hb20 : ((P : Int) == 20) = false := by simpa using hne
        go_wp2_with fail
        clear hb20
        go_loopw [7] (fun v wr => ∃ (X : List Value) (L : List (List (Int × Int))), (L = s.2.map srt ∨ L = (pad s.2 P).map srt) ∧ Hid (OwnCS wr (g + 1) v X L) ∧ Hid (wr.ownsRow w.heap.size 3 1 (.slice (some ⟨g, 0, none⟩) F F) F (fl F s.1)) ∧ Hid (wr.cell? ⟨B, 0, none⟩ = some (.int .i64 a)) ∧ Hid (wr.cell? ⟨B, 1, none⟩ = some (.int .i64 bb)) ∧ Hid (B < wr.heap.size) ∧ Hid (v.ownBlock ≠ some B) ∧ Hid (Below w.heap.size w wr)) (fun v _ => room P v)
        case atStart => exact ⟨X, _, .inl rfl, Hor4, Hfr4, C0, C1, hBs4, HvB, Hb4⟩
        case round =>
          obtain ⟨X2, L2, hL2, Hor5, Hfr5, D0, D1, HBs5, HvB5, Hb5⟩ := hrel
          obtain ⟨ao2, cap2, rfl, _⟩ := Hor5.out.rows
          by_cases hlen : L2.length ≤ P
          · have hLU : L2 = s.2.map srt := by
              rcases hL2 with h | h
              · exact h
              · exfalso
                have := pad_length hpU
                rw [h, List.length_map] at hlen; omega
            have hPU : P = s.2.length := by rw [hLU, hlenM] at hlen; omega
            have HPU := Lib.hid hPU
            have Hpm : Hid ((pad s.2 P).map srt = L2 ++ [[]]) := by show _ = _; rw [map_pad, if_pos hPU, ← hLU]
            have hs5 : g + 1 ≤ wr.heap.size := by have := HBs5.out; omega
            have hLle : L2.length ≤ 20 := by omega
            have hsz5 := Hb5.out.size
            have Hfa5 := Lib.hid (cell_old ((Below.refl _ _).alloc (Nat.le_refl wr.heap.size) (.cells #[.slice none 0 0] 29)) D0.out)
            have Hfb5 := Lib.hid (cell_old ((Below.refl _ _).alloc (Nat.le_refl wr.heap.size) (.cells #[.slice none 0 0] 29)) D1.out)
            clear hL2 hLU hPU
            go_wp2_with (at_builtin; refine push_roundG _ rfl _ _ 25 rfl (g + 1) j0 Try.underlying25 hj hy0 hy1 hy2 _ X2 L2 L2.length rfl rfl (Hor5.out.alloc _) (by omega) (.slice none 0 0) [] (World.ownsRow_nil _ _ _ _) (fun b h => by cases h) (fun i y b _ _ h => by cases h) 1 wr.heap.size rfl (by simp) rfl (by simp; omega) ?_)
            intro v6 w6 own6 hgr6 hat6
            rw [← Hpm.out] at own6
            have Hor6 := Lib.hid own6
            have hlow : ∀ b, (Value.slice ao2 L2.length cap2).ownBlock = some b → g + 1 ≤ b := fun b hb => (Hor5.out.1.lt b hb).1
            have blkB : w6.heap[B]? = (wr.alloc (.cells #[.slice none 0 0] 29)).heap[B]? := hgr6.block B (by have := HBs5.out; simp; omega) (fun h => HvB5.out h.symm)
            have Hf6 : Hid (w6.ownsRow w.heap.size 3 1 (.slice (some ⟨g, 0, none⟩) F F) F (fl F s.1)) := (Hfr5.out.alloc _).kept hgr6 (.inr (fun h => by have := hlow g h.symm; omega))
            have E0 : Hid (w6.cell? ⟨B, 0, none⟩ = some (.int .i64 a)) := (World.cell?_of_block (a := ⟨B, 0, none⟩) blkB).trans Hfa5.out
            have E1 : Hid (w6.cell? ⟨B, 1, none⟩ = some (.int .i64 bb)) := (World.cell?_of_block (a := ⟨B, 1, none⟩) blkB).trans Hfb5.out
            have hsz6 := hgr6.size
            have HBs6 : Hid (B < w6.heap.size) := by show B < _; have := HBs5.out; simp at hsz6; omega
            have HvB6 : Hid (v6.ownBlock ≠ some B) := by
              show _ ≠ _
              rcases hat6 with e | e
              · rw [e]; exact HvB5.out
              · rw [e]; intro h; have := HBs5.out; simp at h; omega
            have Hb6 : Hid (Below w.heap.size w w6) := (Hb5.out.alloc hsz5 _).grown hgr6 (by simp; omega) (fun b hb => by have := hlow b hb; omega)
            obtain ⟨ao6, cap6, rfl, _⟩ := Hor6.out.rows
            have hlen6 : ((pad s.2 P).map srt).length = L2.length + 1 := by rw [Hpm.out]; simp
            clear own6 hgr6 hat6 blkB hlow hsz6
            go_wp2_with fail
            go_roundw
            case rel => exact ⟨_, _, .inr rfl, Hor6, Hf6, E0, E1, HBs6, HvB6, Hb6⟩
            case measure => show room P (.slice ao6 _ cap6) < room P (.slice ao2 _ cap2); simp only [room_slice]; rw [hlen6]; omega
          · have hLp : L2 = (pad s.2 P).map srt := by
              rcases hL2 with h | h
              · rw [h, hlenM] at hlen
                rw [h, map_pad, if_neg (by omega)]
              · exact h
            obtain ⟨g2, cap7, hv, hg2⟩ := Hor5.out.outer (by omega)
            obtain ⟨rfl, rfl⟩ : ao2 = some ⟨g2, 0, none⟩ ∧ cap2 = cap7 := by
              injection hv with e1 _ e2
              exact ⟨e1, e2⟩
            clear hv
            obtain ⟨a7, c7, hX7, hc7, own7⟩ := Hor5.out.cellOf rfl P (by omega)
            obtain ⟨m, hm⟩ : ∃ m, m = (crow L2 P).length := ⟨_, rfl⟩
            have hm60 : m ≤ 60 := by
              rw [hm, hLp, crow_map, srt_length, crow_pad]; exact Hrows.out P
            rw [← hm] at hX7 hc7 own7
            have Hm := Lib.hid hm
            have Hnew : Hid (L2.set P (putL (crow L2 P) ((a : Int), (bb : Int))) = (put1 s.2 P ((a : Int), (bb : Int))).map srt) := by
              show _ = _
              rw [hLp, crow_map, map_put1]
            have bd := (Below.refl wr.heap.size wr).drew
            have Hrow6 := Lib.hid (own_later own7 bd)
            have Hor6 := Lib.hid (Hor5.out.later bd)
            have Hf6 := Lib.hid (own_later Hfr5.out bd)
            have hlt2 : g2 < wr.heap.size := (Hor5.out.1.lt g2 rfl).2
            have hB5 := HBs5.out
            have hg2B : g2 ≠ B := fun h => HvB5.out (by rw [h]; rfl)
            have d0 := D0.out
            have d1 := D1.out
            have hP0 : (0 : Int) ≤ (P : Int) := by omega
            have hP1 : (P : Int) < (L2.length : Int) := by omega
            have HLlen : Hid (P < L2.length) := Lib.hid (by omega)
            have Hb6 : Hid (Below w.heap.size w wr.drew) := Hb5.out.drew
            have Hrw7 : Hid (wr.drew.ownsRow (g + 1) 29 1 (.slice (some ⟨g2, 0, none⟩) L2.length cap2) L2.length X2) := Hor6.out.1
            generalize hLn : L2.length = LN at *
            have HLn := Lib.hid hLn
            have hc7d : wr.drew.cell? ⟨g2, P, none⟩ = some (.slice a7 m c7) := hc7
            have d0d : wr.drew.cell? ⟨B, 0, none⟩ = some (.int .i64 a) := d0
            have d1d : wr.drew.cell? ⟨B, 1, none⟩ = some (.int .i64 bb) := d1
            have HC7 := Lib.hid hc7d
            have DD0 := Lib.hid d0d
            have DD1 := Lib.hid d1d
            clear hL2 hlen hLp hm own7 bd hc7d d0d d1d hLn
            go_wp2_with fail
            go_cut [] from 39 to 51 (fun w9 => ∃ X3, Hid (OwnCS w9 (g + 1) (.slice (some ⟨g2, 0, none⟩) LN cap2) X3 ((put1 s.2 P ((a : Int), (bb : Int))).map srt)) ∧ Hid (w9.ownsRow w.heap.size 3 1 (.slice (some ⟨g, 0, none⟩) F F) F (fl F s.1)) ∧ Hid (w9.cell? ⟨B, 0, none⟩ = some (.int .i64 a)) ∧ Hid (w9.cell? ⟨B, 1, none⟩ = some (.int .i64 bb)) ∧ Hid (Below w.heap.size w w9))
            case first =>
              go_region_with (go_at_call 32; go_loud (refine (roPut_own (g + 1) (.slice a7 m c7) (crow L2 P) m a bb wr.drew Hm.out (by omega) Hrow6.out).mono ?_; rintro e w7 ⟨v7, rfl, own8, hb7⟩; obtain ⟨a8, c8, rfl, _⟩ := own_shape_s own8 (by rw [putL_length, ← Hm.out]); have Hown8 := Lib.hid own8; have Hb7 := Lib.hid hb7; have z0 := cell_old hb7 HC7.out; have z1 := cell_old hb7 DD0.out; have z2 := cell_old hb7 DD1.out; have z3 := (own_later Hrw7.out hb7).frozenAt P; clear own8 hb7))
              all_goals
                have hown8 := Hown8.out
                have hle8 : (putL (crow L2 P) ((a : Int), (bb : Int))).length = m + 1 := by rw [putL_length, ← Hm.out]
                have hdl : wr.drew.heap.size = wr.heap.size := rfl
                have hst := OwnCS.store (Hor6.out.later Hb7.out) HLn.out.symm P (by rw [HLn.out]; exact HLlen.out) (.slice a8 (m + 1) c8) (putL (crow L2 P) ((a : Int), (bb : Int)))
                  (by rw [hle8]; exact own_base (by rw [hdl]; omega) hown8) (fun b hb e => by have := (hown8.lt b hb).1; omega) (OwnCS.far Hor6.out hown8).2
                rw [Hnew.out] at hst
                have Hst := Lib.hid hst
                have Hfs : Hid ((w7.setCell ⟨g2, P, none⟩ (.slice a8 (m + 1) c8)).ownsRow w.heap.size 3 1 (.slice (some ⟨g, 0, none⟩) F F) F (fl F s.1)) := (own_later Hf6.out Hb7.out).kept (grown_one w7 g2 P _) (.inr (fun h => by simp [Value.ownBlock] at h; omega))
                have G0 : Hid ((w7.setCell ⟨g2, P, none⟩ (.slice a8 (m + 1) c8)).cell? ⟨B, 0, none⟩ = some (.int .i64 a)) := (World.cell?_of_block (w := w7) (a := ⟨B, 0, none⟩) (heap_setCell_other _ _ _ _ (Ne.symm hg2B))).trans z1
                have G1 : Hid ((w7.setCell ⟨g2, P, none⟩ (.slice a8 (m + 1) c8)).cell? ⟨B, 1, none⟩ = some (.int .i64 bb)) := (World.cell?_of_block (w := w7) (a := ⟨B, 1, none⟩) (heap_setCell_other _ _ _ _ (Ne.symm hg2B))).trans z2
                have Hbs : Hid (Below w.heap.size w (w7.setCell ⟨g2, P, none⟩ (.slice a8 (m + 1) c8))) := (Hb6.out.trans (Hb7.out.mono Hb6.out.size)).setCell (p := ⟨g2, P, none⟩) (by show w.heap.size ≤ g2; omega) _
                clear hown8 hst z0 z1 z2 z3 hle8
                go_wp2_with fail
                go_meet
                case rel => exact ⟨_, Hst, Hfs, G0, G1, Hbs⟩
            case rest =>
              obtain ⟨X3, Hor7, Hf7, E0, E1, Hb7⟩ := hcut
              clear Hor5 Hfr5 D0 D1 Hb5 Hrow6 Hor6 Hf6 Hb6 HC7 DD0 DD1 Hrw7 d0 d1 hc7
              have e0 := E0.out
              have e1 := E1.out
              have hgB2 : B ≠ g := by omega
              have f7 := Hf7.out.cellAt a (by omega)
              rw [fl_get F _ a haF] at f7
              have z7 := Hf7.out.frozenAt a
              have hw1 : IntKind.i64.wrap ((P : Int) + 1) = (P : Int) + 1 := IntWalk.i64_in _ (by omega)
              have hsz7 := Hb7.out.size
              have hset := (Hf7.out.stored a (.int .i64 ((P + 1 : Nat) : Int))).1
              rw [fl_set] at hset
              have Hf8 : Hid ((wc.setCell ⟨g, a, none⟩ (.int .i64 ((P : Int) + 1))).ownsRow w.heap.size 3 1 (.slice (some ⟨g, 0, none⟩) F F) F (fl F (updN s.1 a (P + 1)))) := hset
              have Hor8 : Hid (OwnCS (wc.setCell ⟨g, a, none⟩ (.int .i64 ((P : Int) + 1))) (g + 1) (.slice (some ⟨g2, 0, none⟩) LN cap2) X3 ((put1 s.2 P ((a : Int), (bb : Int))).map srt)) := Hor7.out.kept (grown_one wc g a _) (fun b h => by cases h; omega)
              have J0 : Hid ((wc.setCell ⟨g, a, none⟩ (.int .i64 ((P : Int) + 1))).cell? ⟨B, 0, none⟩ = some (.int .i64 a)) := (World.cell?_of_block (w := wc) (a := ⟨B, 0, none⟩) (heap_setCell_other _ _ _ _ hgB2)).trans e0
              have J1 : Hid ((wc.setCell ⟨g, a, none⟩ (.int .i64 ((P : Int) + 1))).cell? ⟨B, 1, none⟩ = some (.int .i64 bb)) := (World.cell?_of_block (w := wc) (a := ⟨B, 1, none⟩) (heap_setCell_other _ _ _ _ hgB2)).trans e1
              have Hb8 : Hid (Below w.heap.size w (wc.setCell ⟨g, a, none⟩ (.int .i64 ((P : Int) + 1)))) := Hb7.out.setCell (p := ⟨g, a, none⟩) (by show w.heap.size ≤ g; omega) _
              clear hset
              go_upto_region 15 with (fail)
              generalize wc.setCell ⟨g, a, none⟩ (.int .i64 ((P : Int) + 1)) = w8 at Hf8 Hor8 J0 J1 Hb8 ⊢
              clear e0 e1 f7 z7 Hor7 Hf7 E0 E1 Hb7 hsz7
              have e0 := J0.out
              have e1 := J1.out
              have f7 := Hf8.out.cellAt bb (by omega)
              rw [fl_get F _ bb hbF] at f7
              have z7 := Hf8.out.frozenAt bb
              have hset := (Hf8.out.stored bb (.int .i64 ((P + 1 : Nat) : Int))).1
              rw [fl_set] at hset
              have Hf9 : Hid ((w8.setCell ⟨g, bb, none⟩ (.int .i64 ((P : Int) + 1))).ownsRow w.heap.size 3 1 (.slice (some ⟨g, 0, none⟩) F F) F (fl F (updN (updN s.1 a (P + 1)) bb (P + 1)))) := hset
              have Hor9 : Hid (OwnCS (w8.setCell ⟨g, bb, none⟩ (.int .i64 ((P : Int) + 1))) (g + 1) (.slice (some ⟨g2, 0, none⟩) LN cap2) X3 ((put1 s.2 P ((a : Int), (bb : Int))).map srt)) := Hor8.out.kept (grown_one w8 g bb _) (fun b h => by cases h; omega)
              have Hb9 : Hid (Below w.heap.size w (w8.setCell ⟨g, bb, none⟩ (.int .i64 ((P : Int) + 1)))) := Hb8.out.setCell (p := ⟨g, bb, none⟩) (by show w.heap.size ≤ g; omega) _
              clear hset
              go_wp2_with fail
              go_roundw
              case rel =>
                have hIn : inR (l.take (k + 1)) = (updN (updN s.1 a (P + 1)) bb (P + 1), put1 s.2 P ((a : Int), (bb : Int))) := by
                  rw [Hin.out, Hstep.out]; rfl
                refine ⟨k + 1, X3, by omega, by go_num, Lib.hid (fun j hj => ?_), ?_, ?_, Hb9.out⟩
                · by_cases hjk : j = k
                  · subst hjk; rw [HP.out]; exact h20
                  · exact Hok.out j (by omega)
                · rw [hIn]; exact Hf9
                · rw [hIn]; exact Hor9
              case measure => simp [intOf]; omega
      · obtain rfl : P = 20 := by have := Hple.out; have := Hl20.out; omega
        have hr := Hnot.out h20
        obtain rfl : r = false := by rw [Hr.out, hr]
        obtain rfl : R = [] := by rw [HR.out, hr]; rfl
        clear Hr HR hr h20
        go_wp2_with fail
        go_ret2
        first | exact ⟨_, [], rfl, OwnCS.nil _ _, Hb4.out⟩ | exact ⟨_, rfl, ⟨[], OwnCS.nil _ _⟩, Hb4.out⟩ | exact ⟨⟨_, rfl⟩, ⟨[], OwnCS.nil _ _⟩, Hb4.out⟩
    · obtain rfl : k = n := by omega
      have hl : l.take k = l := List.take_of_length_le (by rw [← Hn.out]; exact Nat.le_refl _)
      have hok : okR l = true := (okR_iff l).2 (by rw [← Hn.out]; exact Hok.out)
      obtain rfl : r = true := by rw [Hr.out, hok]
      obtain rfl : R = (inR l).2.map srt := by rw [HR.out, if_pos hok]
      rw [hl] at Hor
      have Hor2 := Lib.hid (Hor.out.weaken (b' := w.heap.size) (by omega))
      obtain ⟨ao2, cap2, rfl, _⟩ := Hor2.out.rows
      clear Hr HR hok hl Hor Hfr
      go_wp2_with fail
      go_ret2
      first | exact ⟨_, X, rfl, Hor2.out, hbel⟩ | exact ⟨_, rfl, ⟨X, Hor2.out⟩, hbel⟩ | exact ⟨⟨_, rfl⟩, ⟨X, Hor2.out⟩, hbel⟩

end Go.Proofs.Ytnngdoiempmkkaa
