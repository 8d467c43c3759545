/- A grouping off its text: the model and the program. -/
import Derived.Test.YtoaobdeigangfaaGr
namespace Go.Proofs.Ytoaobdeigangfaa
open Go.ChangeShapes Go.WideShapes Go.ChangeAt Go.RowKit
set_option linter.unusedVariables false


theorem own_low {w : World} {base b' : Nat} (hb : b' ≤ base) {e : TypeId} {size : Nat} {v : Value} {n : Nat} {xs : List Value} (h : w.ownsRow base e size v n xs) : w.ownsRow b' e size v n xs := own_base hb h

theorem idx_at (s : ByteArray) (k : Nat) (h : k < s.size) (W : World) : (Instr.index 9 (.string s) (.int .i64 (k : Int))).run Try.prog W = .ok (.int .u8 ((s[k]'h).toNat : Int)) W := by
  rw [run_index_string W 9 s .i64 (k : Int) Try.underlying9, dif_pos (by omega)]
  rfl

/-- The numbers that a text tells by letters. -/
def pg (s : ByteArray) : List Int := s.data.toList.map fun b => (b.toNat : Int) - 97

theorem pg_length (s : ByteArray) : (pg s).length = s.size := by simp [pg]

theorem pg_at (s : ByteArray) (k : Nat) (h : k < s.size) : na (pg s) k = ((s[k]'h).toNat : Int) - 97 := by
  have h2 : k < s.data.toList.length := by simpa using h
  rw [← na_get (pg s) k (by rw [pg_length]; exact h)]
  simp only [pg, List.getElem_map]
  rfl

def pgB (s : ByteArray) : Bool := grB (pg s)

def pgR (s : ByteArray) : List Int := if pgB s then pg s else []

theorem pgR_length (s : ByteArray) : (pgR s).length ≤ 1000 := by
  unfold pgR
  split
  · rename_i h
    have := grB_len h
    omega
  · simp

theorem pgB_len {s : ByteArray} (h : ¬ (1 ≤ s.size ∧ s.size ≤ 12)) : pgB s = false := by
  cases hb : pgB s
  · rfl
  · have := grB_len hb
    rw [pg_length] at this
    exact absurd this h

set_option maxHeartbeats 800000 in
set_option maxRecDepth 20000 in
theorem cbParse_any (w : World) (s : ByteArray) (hs : s.size ≤ 1048576) :
    Calls Try.prog 60 #[.string s] w fun e w' => ∃ v, e = .returned (.tuple #[v, .bool (pgB s)]) ∧ w'.ownsRow w.heap.size 3 1 v (pgR s).length (ns (pgR s)) ∧ Below w.heap.size w w' := by
  obtain ⟨i3, hi3, hz30, hz31, hz32⟩ := info_parts info3
  obtain ⟨n, hn⟩ : ∃ n, s.size = n := ⟨_, rfl⟩
  have Hn := Lib.hid hn
  have hnm : n ≤ 1048576 := by omega
  obtain ⟨r, hr⟩ : ∃ r, pgB s = r := ⟨_, rfl⟩
  obtain ⟨R, hR⟩ : ∃ R, pgR s = R := ⟨_, rfl⟩
  rw [hr, hR]
  have Hr := Lib.hid hr
  have HR := Lib.hid hR
  clear hr hR
  by_cases h12 : n ≤ 12
  · clear hn hs
    go_enter Try.func60, Try.ntmps60
    have hn := Hn.out
    go_wp2_with fail
    go_loopw [4, 5] (fun v i wr => ∃ k : Nat, k ≤ n ∧ i = .int .i64 k ∧ wr.ownsRow w.heap.size 3 1 v k (ns ((pg s).take k)) ∧ Below w.heap.size w wr) (fun _ i _ => n - (intOf i).toNat)
    case atStart => exact ⟨0, Nat.zero_le _, rfl, World.ownsRow_nil _ _ _ _, Below.refl _ _⟩
    case round =>
      obtain ⟨k, hk, rfl, hor, hbel⟩ := hrel
      by_cases hlt : k < n
      · have hks : k < s.size := by omega
        obtain ⟨c, hc⟩ : ∃ c : Int, c = ((s[k]'hks).toNat : Int) := ⟨_, rfl⟩
        have hix : ∀ W : World, (Instr.index 9 (.string s) (.int .i64 (k : Int))).run Try.prog W = .ok (.int .u8 c) W := fun W => by rw [hc]; exact idx_at s k hks W
        have hc0 : 0 ≤ c := by omega
        have hc1 : c < 256 := by have := (s[k]'hks).toNat_lt; omega
        have hw1 : IntKind.i64.wrap c = c := IntWalk.i64_in _ (by omega)
        have hw2 : IntKind.i64.wrap (c - 97) = c - 97 := IntWalk.i64_in _ (by omega)
        have Hat : Hid ((pg s).take (k + 1) = (pg s).take k ++ [c - 97]) := by
          show _ = _
          rw [List.take_succ_eq_append_getElem (by rw [pg_length]; exact hks), na_get _ _ (by rw [pg_length]; exact hks), pg_at s k hks, hc]
        obtain ⟨aoT, capT, rfl, _⟩ := nums_shape hor (by rw [List.length_take, pg_length]; omega)
        have hsz := hbel.size
        have bd : Below wr.heap.size wr (wr.alloc (.cells #[.int .i64 (c - 97)] 3)) := (Below.refl wr.heap.size wr).alloc (Nat.le_refl _) _
        have Hrow7 := Lib.hid (own_later hor bd)
        have Hb7 := Lib.hid (hbel.trans (bd.mono hsz))
        have hszW : (wr.alloc (.cells #[.int .i64 (c - 97)] 3)).heap.size = wr.heap.size + 1 := by simp
        have hck : (wr.alloc (.cells #[.int .i64 (c - 97)] 3)).cell? ⟨wr.heap.size, 0, none⟩ = some (.int .i64 (c - 97)) := by rw [cell_of_row _ _ _ _ _ _ (heap_alloc_new wr _)]; rfl
        have Hck := Lib.hid hck
        clear hc hor hbel bd hck hks
        go_wp2_with (at_builtin; refine push_num _ rfl _ _ 22 rfl w.heap.size i3 Try.underlying22 hi3 hz30 hz31 hz32 (.slice aoT k capT) ((pg s).take k) k rfl Hrow7.out (by omega) (c - 97) 1 wr.heap.size rfl Hck.out (by rw [hszW]; omega) ?_)
        intro g9 cap9 w9 own9 hgr9 hat9
        rw [← Hat.out] at own9
        have Ho9 := Lib.hid own9
        have Hb9 := Lib.hid (Hb7.out.grown hgr9 (by rw [hszW]; omega) (fun bb hb => (Hrow7.out.lt bb hb).1))
        clear own9 hgr9 hat9 Hrow7 Hb7
        go_wp2_with fail
        go_roundw
        case rel => exact ⟨k + 1, by omega, by go_num, Ho9.out, Hb9.out⟩
        case measure => simp [intOf]; omega
      · obtain rfl : k = n := by omega
        have hpe : (pg s).take k = pg s := by
          have h2 : k = (pg s).length := by rw [pg_length]; exact Hn.out.symm
          rw [h2]; exact List.take_length
        rw [hpe] at hor
        have HL : Hid (k = (pg s).length) := by show _ = _; rw [pg_length]; exact Hn.out.symm
        obtain ⟨ao, cap, rfl, hna⟩ := nums_shape hor HL.out
        have Hor := Lib.hid hor
        have Hna := Lib.hid hna
        clear hor hna hpe
        go_wp2_with fail
        refine (cbGood_any ao cap (pg s) k wr HL (by omega) Hna.out).mono ?_
        rintro e w' ⟨rfl, rfl⟩
        cases hb : grB (pg s)
        · have hB : pgB s = false := hb
          have hR : pgR s = [] := by simp [pgR, hB]
          rw [Hr.out] at hB
          rw [HR.out] at hR
          subst hB
          subst hR
          clear Hr HR
          go_wp2_with fail
          go_ret2
          exact ⟨_, rfl, World.ownsRow_nil _ _ _ _, hbel⟩
        · have hB : pgB s = true := hb
          have hR : pgR s = pg s := by simp [pgR, hB]
          rw [Hr.out] at hB
          rw [HR.out] at hR
          subst hB
          subst hR
          clear Hr HR
          go_wp2_with fail
          go_ret2
          exact ⟨_, rfl, by rw [← HL.out]; exact Hor.out, hbel⟩
  · have hB : pgB s = false := pgB_len (by omega)
    have hR : pgR s = [] := by simp [pgR, hB]
    have hgt : (n : Int) > 12 := by omega
    rw [Hr.out] at hB
    rw [HR.out] at hR
    subst hB
    subst hR
    clear Hr HR
    go_enter Try.func60, Try.ntmps60
    go_wp2_with fail
    go_ret2
    exact ⟨_, rfl, World.ownsRow_nil _ _ _ _, Below.refl _ _⟩

theorem specPg_any (w : World) (s : ByteArray) (hs : s.size ≤ 1048576) :
    Calls Try.prog 38 #[.string s] w fun e w' => ∃ v, e = .returned (.tuple #[v, .bool (pgB s)]) ∧ w'.ownsRow w.heap.size 3 1 v (pgR s).length (ns (pgR s)) ∧ Below w.heap.size w w' := by
  go_enter Try.func38, Try.ntmps38
  go_wp2_with fail
  refine (cbParse_any w s hs).mono ?_
  rintro e w' ⟨v, rfl, hO, hb⟩
  go_wp2_with fail
  go_ret2
  exact ⟨v, rfl, hO, hb⟩

set_option maxHeartbeats 800000 in
set_option maxRecDepth 20000 in
theorem implPg_any (w : World) (s : ByteArray) (hs : s.size ≤ 1048576) :
    Calls Try.prog 39 #[.string s] w fun e w' => ∃ v, e = .returned (.tuple #[v, .bool (pgB s)]) ∧ w'.ownsRow w.heap.size 3 1 v (pgR s).length (ns (pgR s)) ∧ Below w.heap.size w w' := by
  obtain ⟨i3, hi3, hz30, hz31, hz32⟩ := info_parts info3
  have Hz := Lib.hid (And.intro hz30 (And.intro hz31 hz32))
  obtain ⟨n, hn⟩ : ∃ n, s.size = n := ⟨_, rfl⟩
  have Hn := Lib.hid hn
  have hnm : n ≤ 1048576 := by omega
  obtain ⟨r, hr⟩ : ∃ r, pgB s = r := ⟨_, rfl⟩
  obtain ⟨R, hR⟩ : ∃ R, pgR s = R := ⟨_, rfl⟩
  rw [hr, hR]
  have Hr := Lib.hid hr
  have HR := Lib.hid hR
  clear hr hR
  clear hz30 hz31 hz32
  by_cases h12 : 1 ≤ (n : Int) ∧ (n : Int) ≤ 12
  · have Hd : Hid (decide (1 ≤ (n : Int) ∧ (n : Int) ≤ 12) = true) := by show _ = _; simpa using h12
    have hn12 : n ≤ 12 := by omega
    clear hs h12
    go_enter Try.func39, Try.ntmps39
    go_wp2_with fail
    refine (canBeWires_any (n : Int) w).mono ?_
    rintro e w' ⟨rfl, rfl⟩
    rw [Hd.out]
    go_wp2_with (refine wpList_make_full _ rfl _ _ 22 rfl w.heap.size 3 i3 (.int .i64 0) 1 Try.underlying22 hi3 Hz.out.1 Hz.out.2.1 .i64 .i64 _ _ n rfl rfl rfl rfl ?_ ?_ ?_ ?_)
    · rw [Hz.out.2.2]; omega
    · unfold maxLen; omega
    · exact Nat.le_refl _
    intro w1 hown hgr
    have hown2 : w1.ownsRow w.heap.size 3 1 (.slice (some ⟨w.heap.size, 0, none⟩) n n) n (ns (List.replicate n 0)) := by rw [← zero_nums, Nat.mul_one]; simpa using hown
    have HA0 : Hid (w1.ownsRow w.heap.size 3 1 (.slice (some ⟨w.heap.size, 0, none⟩) n n) n (ns (npart (pg s) 0))) := by show World.ownsRow _ _ _ _ _ _ _; rw [npart_zero, pg_length, Hn.out]; exact hown2
    have HB0 : Hid (Below w.heap.size w w1) := (Below.refl _ _).grown hgr (Nat.le_refl _) (fun _ h => by cases h)
    obtain ⟨g, hg⟩ : ∃ g, g = w.heap.size := ⟨_, rfl⟩
    have hgw : w.heap.size ≤ g := by omega
    rw [← hg] at HA0 ⊢
    have Hg := Lib.hid hg
    clear hown hgr hown2 hg
    go_wp2_with fail
    go_loopw [15] (fun i wr => ∃ k : Nat, k ≤ n ∧ i = .int .i64 k ∧ wr.ownsRow g 3 1 (.slice (some ⟨g, 0, none⟩) n n) n (ns (npart (pg s) k)) ∧ Below w.heap.size w wr) (fun i _ => n - (intOf i).toNat)
    case atStart => exact ⟨0, Nat.zero_le _, rfl, HA0.out, HB0.out⟩
    case round =>
      obtain ⟨k, hk, rfl, hor, hbel⟩ := hrel
      by_cases hlt : k < n
      · have hks : k < s.size := by omega
        obtain ⟨c, hc⟩ : ∃ c : Int, c = ((s[k]'hks).toNat : Int) := ⟨_, rfl⟩
        have hix : ∀ W : World, (Instr.index 9 (.string s) (.int .i64 (k : Int))).run Try.prog W = .ok (.int .u8 c) W := fun W => by rw [hc]; exact idx_at s k hks W
        have hc0 : 0 ≤ c := by omega
        have hc1 : c < 256 := by have := (s[k]'hks).toNat_lt; omega
        have hw1 : IntKind.i64.wrap c = c := IntWalk.i64_in _ (by omega)
        have hw2 : IntKind.i64.wrap (c - 97) = c - 97 := IntWalk.i64_in _ (by omega)
        obtain ⟨u0, z0⟩ := own_some hor k (by omega)
        have zf0 := hor.frozenAt k
        have hst := (hor.stored k (.int .i64 (c - 97))).1
        rw [ns_set, show (npart (pg s) k).set k (c - 97) = npart (pg s) (k + 1) by rw [← npart_set (pg s) k (by rw [pg_length]; exact hks), pg_at s k hks, hc]] at hst
        have Hst := Lib.hid hst
        have Hbs : Hid (Below w.heap.size w (wr.setCell ⟨g, k, none⟩ (.int .i64 (c - 97)))) := hbel.setCell (p := ⟨g, k, none⟩) hgw _
        clear hst hor hbel hc hks
        go_wp2_with fail
        go_roundw
        case rel => exact ⟨k + 1, by omega, by go_num, Hst.out, Hbs.out⟩
        case measure => simp [intOf]; omega
      · obtain rfl : k = n := by omega
        have hpe : npart (pg s) k = pg s := by
          have h2 : k = (pg s).length := by rw [pg_length]; exact Hn.out.symm
          rw [h2]; exact npart_all _
        rw [hpe] at hor
        have HL : Hid (k = (pg s).length) := by show _ = _; rw [pg_length]; exact Hn.out.symm
        have Hna := Lib.hid (nums_at hor HL.out)
        have Hor := Lib.hid (own_low hgw hor)
        clear hor hpe
        go_wp2_with fail
        refine (isGr_any _ k (pg s) k wr HL (by omega) Hna.out).mono ?_
        rintro e w' ⟨rfl, rfl⟩
        cases hb : grB (pg s)
        · have hB : pgB s = false := hb
          have hR : pgR s = [] := by simp [pgR, hB]
          rw [Hr.out] at hB
          rw [HR.out] at hR
          subst hB
          subst hR
          clear Hr HR
          go_wp2_with fail
          go_ret2
          exact ⟨_, rfl, World.ownsRow_nil _ _ _ _, hbel⟩
        · have hB : pgB s = true := hb
          have hR : pgR s = pg s := by simp [pgR, hB]
          rw [Hr.out] at hB
          rw [HR.out] at hR
          subst hB
          subst hR
          clear Hr HR
          go_wp2_with fail
          go_ret2
          exact ⟨_, rfl, by rw [← HL.out]; exact Hor.out, hbel⟩
  · have hB : pgB s = false := pgB_len (by omega)
    have hR : pgR s = [] := by simp [pgR, hB]
    have Hd : Hid (decide (1 ≤ (n : Int) ∧ (n : Int) ≤ 12) = false) := by show _ = _; simpa only [decide_eq_false_iff_not] using h12
    rw [Hr.out] at hB
    rw [HR.out] at hR
    subst hB
    subst hR
    clear Hr HR h12
    go_enter Try.func39, Try.ntmps39
    go_wp2_with fail
    refine (canBeWires_any (n : Int) w).mono ?_
    rintro e w' ⟨rfl, rfl⟩
    rw [Hd.out]
    go_wp2_with fail
    go_ret2
    exact ⟨_, rfl, World.ownsRow_nil _ _ _ _, Below.refl _ _⟩

end Go.Proofs.Ytoaobdeigangfaa
