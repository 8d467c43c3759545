/- A test's wires, by the program. -/
import Derived.Test.YtnhkabhchepieaaDoorSpn
namespace Go.Proofs.YtnhkabhchepieaaDoor
open Go.ChangeShapes Go.WideShapes Go.ChangeAt Go.RowKit
set_option linter.unusedVariables false


def wrR (t : List UInt8) : List Int := if wrB t then wrP t else []
theorem take_one (q : List (List UInt8)) (k : Nat) (hk : k < q.length) : q.take (k + 1) = q.take k ++ [q.getD k []] := by
  rw [List.take_succ_eq_append_getElem hk]; simp [List.getD_eq_getElem?_getD, hk]
set_option maxHeartbeats 1600000 in
set_option maxRecDepth 20000 in
theorem parseWires_any (t : List UInt8) (ht : t.length ≤ 1048576) (w : World) (hG : GlobOk w) :
    Calls Tryd.prog 40 #[.string ⟨t.toArray⟩] w fun e w' => ∃ v, e = .returned (.tuple #[v, .bool (wrB t)]) ∧ w'.ownsRow w.heap.size 3 1 v (wrR t).length (ns (wrR t)) ∧ Below w.heap.size w w' := by
  obtain ⟨i3, hi3, hz30, hz31, hz32⟩ := info_parts info3
  obtain ⟨q, hq⟩ : ∃ q, qN 43 11 t = q := ⟨_, rfl⟩
  have hS := splitQ 43 11 ⟨t.toArray⟩ t (by simp) (by rw [piece_size]; exact ht) (by decide) (by decide) w hG
  have hl := qN_len 43 11 t (by decide)
  rw [hq] at hS hl
  have hB : wrB t = one1 q := by rw [wrB, hq]
  have hP : wrP t = q.map vl := by rw [wrP, hq]
  have hS2 : Calls Tryd.prog 39 #[.string ⟨t.toArray⟩, .string ⟨#[43]⟩, .int .i64 11] w fun e w' => ∃ cap, e = .returned (.slice (some ⟨w.heap.size, 0, none⟩) q.length cap) ∧ (∀ j, j < q.length → w'.cell? ⟨w.heap.size, j, none⟩ = some (.string ⟨(q.getD j []).toArray⟩)) ∧ q.length ≤ cap ∧ Below w.heap.size w w' := hS
  have HS := Lib.hid hS2
  have HB := Lib.hid hB
  have HP := Lib.hid hP
  obtain ⟨m, hm⟩ : ∃ m, q.length = m := ⟨_, rfl⟩
  rw [hm] at HS hl
  have Hm := Lib.hid hm
  have hm11 := hl.1
  clear hS hS2 hB hP hq hm hl
  go_enter Tryd.func40, Tryd.ntmps40
  go_wp2_with fail
  refine HS.out.mono ?_
  rintro e w1 ⟨cap, rfl, hcell, hcap, hb1⟩
  have Hcell := Lib.hid hcell
  have Hb1 := Lib.hid hb1
  have hs1 := hb1.size
  have hg1 : 0 < m → w.heap.size < w1.heap.size := fun h => World.block_lt_of_cell? w1 _ (hcell 0 h)
  clear hcell hb1
  go_wp2_with fail
  go_loopw [4, 10] (fun v i wr => ∃ k : Nat, k ≤ m ∧ i = .int .i64 k ∧ Hid (one1 (q.take k) = true) ∧ wr.ownsRow w1.heap.size 3 1 v k (ns ((q.take k).map vl)) ∧ Below w1.heap.size w1 wr) (fun _ i _ => m - (intOf i).toNat)
  case atStart => exact ⟨0, Nat.zero_le _, rfl, Lib.hid rfl, World.ownsRow_nil _ _ _ _, Below.refl _ _⟩
  case round =>
    obtain ⟨k, hk, rfl, hall, hor, hbel⟩ := hrel
    have hsz := hbel.size
    by_cases hlt : k < m
    · have hkq : k < q.length := by rw [Hm.out]; exact hlt
      have hz := (hbel.cell (p := ⟨w.heap.size, k, none⟩) (hg1 (by omega))).trans (Hcell.out k hlt)
      obtain ⟨p, hp⟩ : ∃ p, q.getD k [] = p := ⟨_, rfl⟩
      have htk := take_one q k hkq
      rw [hp] at hz htk
      have Htk := Lib.hid htk
      obtain ⟨sk, hsk⟩ : ∃ sk : ByteArray, sk = ⟨p.toArray⟩ := ⟨_, rfl⟩
      rw [← hsk] at hz
      have hskz : sk.size = p.length := by rw [hsk, piece_size]
      have b0 : (0 : Int) ≤ (k : Int) := by omega
      have b1 : (k : Int) < (m : Int) := by omega
      have Hor := Lib.hid hor
      have Hbel := Lib.hid hbel
      clear htk hor hbel
      by_cases h2 : p.length = 1
      · have hz2 : ((sk.size : Int) != 1) = false := by rw [hskz, h2]; rfl
        have c0 : 0 < sk.size := by omega
        obtain ⟨x0, hx0⟩ : ∃ x0 : Int, x0 = ((p.getD 0 0).toNat : Int) := ⟨_, rfl⟩
        have hix0 : ∀ W : World, (Instr.index 9 (.string sk) (.int .i64 0)).run Tryd.prog W = .ok (.int .u8 x0) W := fun W => by
          rw [run_index_string W 9 sk .i64 0 Tryd.underlying9, dif_pos (by omega), hx0]
          subst hsk
          rw [← piece_get p 0 c0]
          rfl
        have v0 : IntKind.i64.wrap x0 = x0 := by rw [hx0]; exact wrapb _
        have w0 : IntKind.i64.wrap (x0 - 48) = vl p := by rw [hx0, wrap48]; rfl
        obtain ⟨y, hy⟩ : ∃ y, vl p = y := ⟨_, rfl⟩
        rw [hy] at w0
        have Hnew : Hid (one1 (q.take (k + 1)) = true ∧ (q.take (k + 1)).map vl = (q.take k).map vl ++ [y]) := Lib.hid ⟨by have h1 := hall.out; unfold one1 at h1 ⊢; rw [Htk.out, List.all_append, h1]; simp [h2], by rw [Htk.out, List.map_append, ← hy]; rfl⟩
        have Ho6 := Lib.hid (Hor.out.alloc (.cells #[.int .i64 y] 3))
        have Hb6 := Lib.hid (Hbel.out.alloc hsz (.cells #[.int .i64 y] 3))
        have hszW : (wr.alloc (.cells #[.int .i64 y] 3)).heap.size = wr.heap.size + 1 := by simp
        have Hck : Hid ((wr.alloc (.cells #[.int .i64 y] 3)).cell? ⟨wr.heap.size, 0, none⟩ = some (.int .i64 y)) := Lib.hid (by rw [cell_of_row _ _ _ _ _ _ (heap_alloc_new wr _)]; rfl)
        clear hx0 hy hsk hskz hp h2 hkq hall
        go_wp2_with (at_builtin; refine push_num _ rfl _ _ 49 rfl w1.heap.size i3 Tryd.underlying49 hi3 hz30 hz31 hz32 _ ((q.take k).map vl) k rfl Ho6.out (by omega) y 1 wr.heap.size rfl Hck.out (by rw [hszW]; omega) ?_)
        intro g9 c9 w9 own9 hgr9 _
        have Ho9 : Hid (w9.ownsRow w1.heap.size 3 1 (.slice (some ⟨g9, 0, none⟩) (k + 1) c9) (k + 1) (ns ((q.take (k + 1)).map vl))) := Lib.hid (by rw [Hnew.out.2, List.map_take]; exact own9)
        have Hb9 := Lib.hid (Hb6.out.grown hgr9 (by rw [hszW]; omega) (fun bb hb => (Ho6.out.lt bb hb).1))
        clear own9 hgr9
        go_wp2_with fail
        go_roundw
        case rel => exact ⟨k + 1, by omega, by go_num, Lib.hid Hnew.out.1, Ho9.out, Hb9.out⟩
        case measure => simp [intOf]; omega
      · have hz2 : ((sk.size : Int) != 1) = true := by rw [hskz]; simp; omega
        have Hno : Hid (wrB t = false) := Lib.hid (by
          rw [HB.out, one1, List.all_eq_false]
          refine ⟨p, ?_, by simpa using h2⟩
          rw [← hp]; simp [List.getD_eq_getElem?_getD, hkq])
        have HR : Hid (wrR t = []) := Lib.hid (by rw [wrR, Hno.out]; rfl)
        have HBl := Lib.hid (Hb1.out.trans (Hbel.out.mono hs1))
        clear h2 hp hsk hskz hkq hall
        go_wp2_with fail
        go_ret2
        rw [Hno.out, HR.out]
        exact ⟨_, rfl, World.ownsRow_nil _ _ _ _, HBl.out⟩
    · obtain rfl : k = m := by omega
      have hkk : ¬ (k : Int) < k := by omega
      have e : q.take k = q := List.take_of_length_le (by rw [Hm.out]; exact Nat.le_refl _)
      rw [e] at hall hor
      have Hyes : Hid (wrB t = true) := Lib.hid (by rw [HB.out]; exact hall.out)
      have HR : Hid (wrR t = q.map vl) := Lib.hid (by rw [wrR, Hyes.out, HP.out]; rfl)
      have Hor := Lib.hid (own_base hs1 hor)
      have HBl := Lib.hid (Hb1.out.trans (hbel.mono hs1))
      have Hlen : Hid (k = (q.map vl).length) := Lib.hid (by rw [List.length_map, Hm.out])
      clear e hall hor hbel
      go_wp2_with fail
      go_ret2
      rw [Hyes.out, HR.out, ← Hlen.out]
      exact ⟨_, rfl, Hor.out, HBl.out⟩

end Go.Proofs.YtnhkabhchepieaaDoor
