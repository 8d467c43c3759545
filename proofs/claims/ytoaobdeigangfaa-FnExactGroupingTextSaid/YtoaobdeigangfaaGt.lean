/- The text of a grouping: the model and the program. -/
import Derived.Test.YtoaobdeigangfaaGr
import Derived.Laws.IdiomStrings
namespace Go.Proofs.Ytoaobdeigangfaa
open Go.ChangeShapes Go.WideShapes Go.ChangeAt Go.RowKit
set_option linter.unusedVariables false


theorem info5 : (Try.prog.info? 5).map (fun i => (i.zero, i.size, i.bytes)) = some (some (.int .u8 0), 1, 1) := by kernel_rfl

/-- The letter of a group. -/
def gb (x : Int) : UInt8 := UInt8.ofNat (97 + x.toNat)

/-- The letters of groups. -/
def gt (l : List Int) : ByteArray := ⟨(l.map gb).toArray⟩

theorem gt_size (l : List Int) : (gt l).size = l.length := by simp [gt, ByteArray.size]

theorem gt_one (l : List Int) (x : Int) : gt l ++ ⟨#[gb x]⟩ = gt (l ++ [x]) := by
  apply ByteArray.ext
  simp [gt]

def gtR (l : List Int) : ByteArray := if grB l then gt l else ⟨#[]⟩

theorem gb_val (x : Nat) (h : x < 12) : ((gb (x : Int)).toNat : Int) = 97 + x := by
  unfold gb
  rw [Int.toNat_natCast, UInt8.toNat_ofNat']
  omega

theorem letter_at : ∀ g : Fin 12, (⟨#[97, 98, 99, 100, 101, 102, 103, 104, 105, 106, 107, 108]⟩ : ByteArray).extract g.val (g.val + 1) = ⟨#[gb (g.val : Int)]⟩ := by decide +kernel

theorem letter_run (g : Nat) (h : g < 12) (W : World) : (Instr.slice 9 (.string ⟨#[97, 98, 99, 100, 101, 102, 103, 104, 105, 106, 107, 108]⟩) (some (.int .i64 (g : Int))) (some (.int .i64 ((g : Int) + 1))) none).run Try.prog W = .ok (.string ⟨#[gb (g : Int)]⟩) W := by
  have hz : (⟨#[97, 98, 99, 100, 101, 102, 103, 104, 105, 106, 107, 108]⟩ : ByteArray).size = 12 := rfl
  rw [run_slice_string W 9 _ .i64 .i64 (g : Int) ((g : Int) + 1) Try.underlying9 (by omega) (by omega) (by rw [hz]; omega)]
  rw [show ((g : Int)).toNat = g by omega, show ((g : Int) + 1).toNat = g + 1 by omega]
  rw [letter_at ⟨g, h⟩]

set_option maxHeartbeats 800000 in
set_option maxRecDepth 20000 in
theorem cbText_pos (b off cap : Nat) (l : List Int) (n : Nat) (w : World) (Hn : Hid (n = l.length)) (Hg : Hid (grB l = true))
    (Hc : Hid (∀ i, i < n → w.cell? ⟨b, off + i, none⟩ = some (.int .i64 (na l i)))) :
    Calls Try.prog 59 #[.slice (some ⟨b, off, none⟩) n cap] w fun e w' => e = .returned (.string (gt l)) ∧ w = w' := by
  have hn12 : n ≤ 12 := by have := grB_len Hg.out; have := Hn.out; omega
  go_enter Try.func59, Try.ntmps59
  go_wp2_with fail
  go_loop [3, 8] (fun v i => ∃ (k : Nat) (S : ByteArray), k ≤ n ∧ i = .int .i64 k ∧ v = .string S ∧ Hid (S = gt (l.take k))) (fun _ i => n - (intOf i).toNat)
  case atStart => exact ⟨0, ⟨#[]⟩, Nat.zero_le _, rfl, rfl, rfl⟩
  case round =>
    obtain ⟨k, S, hk, rfl, rfl, HS⟩ := hrel
    by_cases hlt : k < n
    · have hkl : k < l.length := by have := Hn.out; omega
      have h0 := Hc.out k hlt
      have hga := grB_at Hg.out hkl
      obtain ⟨g, hgq⟩ := Int.eq_ofNat_of_zero_le hga.1
      have hg12 : g < 12 := by omega
      rw [hgq] at h0
      have hsl := letter_run g hg12
      have hSz : S.size = k := by rw [HS.out, gt_size, List.length_take]; omega
      have q1 : ¬ 9223372036854775807 < S.size + 1 := by omega
      have q2 : ¬ 9223372036854775807 < k + 1 := by omega
      have Hnx : Hid (S ++ ⟨#[gb (g : Int)]⟩ = gt (l.take (k + 1))) := by
        show _ = _
        rw [HS.out, gt_one, List.take_succ_eq_append_getElem hkl, na_get l k hkl, hgq]
      have HSz := Lib.hid hSz
      clear hga hgq hSz
      go_wp2_with fail
      go_round
      case rel => exact ⟨k + 1, _, by omega, by go_num, rfl, Hnx⟩
      case measure => simp [intOf]; omega
    · obtain rfl : k = n := by omega
      have hS : S = gt l := by rw [HS.out, Hn.out, List.take_length]
      have HSS := Lib.hid hS
      clear hS
      go_wp2_with fail
      go_ret
      exact ⟨by rw [← HSS.out]; rfl, rfl⟩

theorem specGt_yes (w : World) (ao : Option Addr) (cap : Nat) (l : List Int) (n : Nat) (Hn : Hid (n = l.length)) (hn : n ≤ 1048576) (hc : NumsAt w ao l) (Hg : Hid (grB l = true)) :
    Calls Try.prog 36 #[.slice ao n cap] w fun e w' => e = .returned (.tuple #[.string (gt l), .bool true]) ∧ w = w' := by
  obtain ⟨b, off, rfl, hcc⟩ : ∃ b off, ao = some ⟨b, off, none⟩ ∧ (∀ i, i < n → w.cell? ⟨b, off + i, none⟩ = some (.int .i64 (na l i))) := by
    rcases hc with h | ⟨b, off, h, hc⟩
    · subst h; have := grB_len Hg.out; simp at this
    · exact ⟨b, off, h, fun i hi => hc i (by rw [← Hn.out]; exact hi)⟩
  have Hc := Lib.hid hc
  clear hc
  go_enter Try.func36, Try.ntmps36
  go_wp2_with fail
  refine (cbGood_any _ cap l n w Hn hn Hc.out).mono ?_
  rintro e w' ⟨rfl, rfl⟩
  rw [Hg.out]
  go_wp2_with fail
  refine (cbText_pos b off cap l n w Hn Hg hcc).mono ?_
  rintro e w' ⟨rfl, rfl⟩
  go_wp2_with fail
  go_ret2
  exact ⟨rfl, rfl⟩

theorem specGt_no (w : World) (ao : Option Addr) (cap : Nat) (l : List Int) (n : Nat) (Hn : Hid (n = l.length)) (hn : n ≤ 1048576) (hc : NumsAt w ao l) (Hg : Hid (grB l = false)) :
    Calls Try.prog 36 #[.slice ao n cap] w fun e w' => e = .returned (.tuple #[.string ⟨#[]⟩, .bool false]) ∧ w = w' := by
  go_enter Try.func36, Try.ntmps36
  go_wp2_with fail
  refine (cbGood_any _ cap l n w Hn hn hc).mono ?_
  rintro e w' ⟨rfl, rfl⟩
  rw [Hg.out]
  go_wp2_with fail
  go_ret2
  exact ⟨rfl, rfl⟩

theorem specGt_any (w : World) (ao : Option Addr) (cap : Nat) (l : List Int) (n : Nat) (Hn : Hid (n = l.length)) (hn : n ≤ 1048576) (hc : NumsAt w ao l) :
    Calls Try.prog 36 #[.slice ao n cap] w fun e w' => e = .returned (.tuple #[.string (gtR l), .bool (grB l)]) ∧ Below w.heap.size w w' := by
  cases hg : grB l
  · rw [show gtR l = ⟨#[]⟩ by simp [gtR, hg]]
    exact (specGt_no w ao cap l n Hn hn hc hg).mono (by rintro e w' ⟨h, rfl⟩; exact ⟨h, Below.refl _ _⟩)
  · rw [show gtR l = gt l by simp [gtR, hg]]
    exact (specGt_yes w ao cap l n Hn hn hc hg).mono (by rintro e w' ⟨h, rfl⟩; exact ⟨h, Below.refl _ _⟩)

/-- The cells of bytes. -/
def us (l : List Int) : List Value := l.map (Value.int .u8)

theorem us_set (l : List Int) (i : Nat) (a : Int) : (us l).set i (.int .u8 a) = us (l.set i a) := by simp [us, List.map_set]

theorem zero_bytes (n : Nat) : (madeCells #[.int .u8 0] (n * 1)).toList = us (List.replicate n 0) := by
  rw [Nat.mul_one, toList_madeCells_one]
  simp [us]

/-- The numbers of the letters. -/
def gn (l : List Int) : List Int := l.map (97 + ·)

theorem gn_length (l : List Int) : (gn l).length = l.length := by simp [gn]

theorem gn_at (l : List Int) (k : Nat) (h : k < l.length) : na (gn l) k = 97 + na l k := by
  rw [← na_get (gn l) k (by rw [gn_length]; exact h), ← na_get l k h]
  simp [gn]

set_option maxHeartbeats 800000 in
set_option maxRecDepth 20000 in
theorem implGt_yes (w : World) (ao : Option Addr) (cap : Nat) (l : List Int) (n : Nat) (Hn : Hid (n = l.length)) (hn : n ≤ 1048576) (hc : NumsAt w ao l) (Hg : Hid (grB l = true)) :
    Calls Try.prog 37 #[.slice ao n cap] w fun e w' => e = .returned (.tuple #[.string (gt l), .bool true]) ∧ Below w.heap.size w w' := by
  obtain ⟨i5, hi5, hz50, hz51, hz52⟩ := info_parts info5
  have Hz := Lib.hid (And.intro hz50 (And.intro hz51 hz52))
  have hn12 : n ≤ 12 := by have := grB_len Hg.out; have := Hn.out; omega
  obtain ⟨b, off, rfl, hcc⟩ : ∃ b off, ao = some ⟨b, off, none⟩ ∧ (∀ i, i < n → w.cell? ⟨b, off + i, none⟩ = some (.int .i64 (na l i))) := by
    rcases hc with h | ⟨b, off, h, hc⟩
    · subst h; have := grB_len Hg.out; simp at this
    · exact ⟨b, off, h, fun i hi => hc i (by rw [← Hn.out]; exact hi)⟩
  have Hc := Lib.hid hc
  have Hcc := Lib.hid hcc
  clear hc hcc hz50 hz51 hz52
  go_enter Try.func37, Try.ntmps37
  go_wp2_with fail
  refine (isGr_any _ cap l n w Hn hn Hc.out).mono ?_
  rintro e w' ⟨rfl, rfl⟩
  rw [Hg.out]
  go_wp2_with (refine wpList_make_full _ rfl _ _ 56 rfl w.heap.size 5 i5 (.int .u8 0) 1 Try.underlying56 hi5 Hz.out.1 Hz.out.2.1 .i64 .i64 _ _ n rfl rfl rfl rfl ?_ ?_ ?_ ?_)
  · rw [Hz.out.2.2]; omega
  · unfold maxLen; omega
  · exact Nat.le_refl _
  intro w1 hown hgr
  have hown2 : w1.ownsRow w.heap.size 5 1 (.slice (some ⟨w.heap.size, 0, none⟩) n n) n (us (List.replicate n 0)) := by rw [← zero_bytes, Nat.mul_one]; simpa using hown
  have HA0 : Hid (w1.ownsRow w.heap.size 5 1 (.slice (some ⟨w.heap.size, 0, none⟩) n n) n (us (npart (gn l) 0))) := by show World.ownsRow _ _ _ _ _ _ _; rw [npart_zero, gn_length, ← Hn.out]; exact hown2
  have HB0 : Hid (Below w.heap.size w w1) := (Below.refl _ _).grown hgr (Nat.le_refl _) (fun _ h => by cases h)
  obtain ⟨g, hg⟩ : ∃ g, g = w.heap.size := ⟨_, rfl⟩
  have hgw : w.heap.size ≤ g := by omega
  rw [← hg] at HA0 ⊢
  have Hg0 := Lib.hid hg
  clear hown hgr hown2 hg
  go_wp2_with fail
  go_loopw [15] (fun i wr => ∃ k : Nat, k ≤ n ∧ i = .int .i64 k ∧ wr.ownsRow g 5 1 (.slice (some ⟨g, 0, none⟩) n n) n (us (npart (gn l) k)) ∧ Below w.heap.size w wr) (fun i _ => n - (intOf i).toNat)
  case atStart => exact ⟨0, Nat.zero_le _, rfl, HA0.out, HB0.out⟩
  case round =>
    obtain ⟨k, hk, rfl, hor, hbel⟩ := hrel
    by_cases hlt : k < n
    · have hkl : k < l.length := by have := Hn.out; omega
      have h0 := cell_old hbel (Hcc.out k hlt)
      have hga := grB_at Hg.out hkl
      obtain ⟨x, hx⟩ : ∃ x, na l k = x := ⟨_, rfl⟩
      rw [hx] at h0 hga
      have hx0 : 0 ≤ x := hga.1
      have hx1 : x < 12 := hga.2.2.2
      have hw1 : IntKind.u8.wrap x = x := by simp only [IntKind.wrap, IntKind.signed, IntKind.bits]; simp; omega
      have hw2 : IntKind.u8.wrap (97 + x) = 97 + x := by simp only [IntKind.wrap, IntKind.signed, IntKind.bits]; simp; omega
      obtain ⟨u0, z0⟩ := own_some hor k (by omega)
      have zf0 := hor.frozenAt k
      have hst := (hor.stored k (.int .u8 (97 + x))).1
      rw [us_set, show (npart (gn l) k).set k (97 + x) = npart (gn l) (k + 1) by rw [← npart_set (gn l) k (by rw [gn_length]; exact hkl), gn_at l k hkl, hx]] at hst
      have Hst := Lib.hid hst
      have Hbs : Hid (Below w.heap.size w (wr.setCell ⟨g, k, none⟩ (.int .u8 (97 + x)))) := hbel.setCell (p := ⟨g, k, none⟩) hgw _
      clear hst hor hbel hga hx
      go_wp2_with fail
      go_roundw
      case rel => exact ⟨k + 1, by omega, by go_num, Hst.out, Hbs.out⟩
      case measure => simp [intOf]; omega
    · obtain rfl : k = n := by omega
      have hpe : npart (gn l) k = gn l := by
        have h2 : k = (gn l).length := by rw [gn_length]; exact Hn.out
        rw [h2]; exact npart_all _
      rw [hpe] at hor
      have hconv : (convert 56 9 (.slice (some ⟨g, 0, none⟩) k k)).run Try.prog wr = .ok (.string (gt l)) wr := by
        have hlen : (l.map gb).length = k := by rw [List.length_map]; exact Hn.out.symm
        have h := run_convert_bytes_back (P := Try.prog) wr 56 9 5 ⟨g, 0, none⟩ k (l.map gb) Try.underlying56 Try.underlying5 Try.underlying9 (fun j hj => by
          have hjl : j < l.length := by simpa using hj
          have hjk : j < k := by rw [hlen] at hj; exact hj
          have hga := grB_at Hg.out hjl
          obtain ⟨q, hq⟩ := Int.eq_ofNat_of_zero_le hga.1
          have h1 := hor.cellAt j (by omega)
          have h2 : (⟨g, 0, none⟩ : Addr).add j = ⟨g, j, none⟩ := by unfold Addr.add; split <;> simp_all
          rw [h2, h1]
          have h3 : l[j] = (q : Int) := by rw [na_get l j hjl, hq]
          simp only [us, gn, List.map_map, List.getElem?_map, List.getElem?_eq_getElem hjl, Option.map_some, List.getElem_map, Function.comp, h3]
          rw [gb_val q (by omega)])
        rw [hlen] at h
        exact h
      have Hor := Lib.hid hor
      have hse : gt l = gt l := rfl
      clear hor hpe
      go_wp2_with fail
      go_ret2
      exact ⟨rfl, hbel⟩

theorem implGt_no (w : World) (ao : Option Addr) (cap : Nat) (l : List Int) (n : Nat) (Hn : Hid (n = l.length)) (hn : n ≤ 1048576) (hc : NumsAt w ao l) (Hg : Hid (grB l = false)) :
    Calls Try.prog 37 #[.slice ao n cap] w fun e w' => e = .returned (.tuple #[.string ⟨#[]⟩, .bool false]) ∧ w = w' := by
  go_enter Try.func37, Try.ntmps37
  go_wp2_with fail
  refine (isGr_any _ cap l n w Hn hn hc).mono ?_
  rintro e w' ⟨rfl, rfl⟩
  rw [Hg.out]
  go_wp2_with fail
  go_ret2
  exact ⟨rfl, rfl⟩

theorem implGt_any (w : World) (ao : Option Addr) (cap : Nat) (l : List Int) (n : Nat) (Hn : Hid (n = l.length)) (hn : n ≤ 1048576) (hc : NumsAt w ao l) :
    Calls Try.prog 37 #[.slice ao n cap] w fun e w' => e = .returned (.tuple #[.string (gtR l), .bool (grB l)]) ∧ Below w.heap.size w w' := by
  cases hg : grB l
  · rw [show gtR l = ⟨#[]⟩ by simp [gtR, hg]]
    exact (implGt_no w ao cap l n Hn hn hc hg).mono (by rintro e w' ⟨h, rfl⟩; exact ⟨h, Below.refl _ _⟩)
  · rw [show gtR l = gt l by simp [gtR, hg]]
    exact implGt_yes w ao cap l n Hn hn hc hg

end Go.Proofs.Ytoaobdeigangfaa
