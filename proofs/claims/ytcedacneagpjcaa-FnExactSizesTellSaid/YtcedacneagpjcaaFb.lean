/- The first grouping with such sizes: the program and the model. -/
import Derived.Test.YtcedacneagpjcaaRp
import Derived.Deep.AppendLies
namespace Go.Proofs.Ytcedacneagpjcaa
open Go.ChangeShapes Go.WideShapes Go.ChangeAt Go.RowKit
set_option linter.unusedVariables false



/-- The first grouping with such sizes, its first k groups. -/
def fbL (l : List Int) (k : Nat) : List Int := (List.range k).flatMap fun i => List.replicate (na l i).toNat (i : Int)

/-- The same, and j wires of the next group. -/
def fbT (l : List Int) (k j : Nat) : List Int := fbL l k ++ List.replicate j (k : Int)

theorem fbL_succ (l : List Int) (k : Nat) : fbL l (k + 1) = fbL l k ++ List.replicate (na l k).toNat (k : Int) := by simp [fbL, List.range_succ]

theorem fbT_zero (l : List Int) (k : Nat) : fbT l k 0 = fbL l k := by simp [fbT]

theorem fbT_succ (l : List Int) (k j : Nat) : fbT l k j ++ [(k : Int)] = fbT l k (j + 1) := by unfold fbT; rw [List.append_assoc, List.replicate_succ']

theorem fbT_len (l : List Int) (k j : Nat) : (fbT l k j).length = (fbL l k).length + j := by simp [fbT]

theorem fbT_all (l : List Int) (k q : Nat) (h : na l k = (q : Int)) : fbT l k q = fbL l (k + 1) := by rw [fbL_succ, h]; rfl

theorem fb_len {l : List Int} : ∀ k, (∀ i, i < k → 1 ≤ na l i) → ((fbL l k).length : Int) = sumZ l k
  | 0, _ => by simp [fbL, sumZ]
  | k + 1, h => by
    have h1 := fb_len k (fun i hi => h i (by omega))
    have h2 := h k (by omega)
    rw [fbL_succ, List.length_append, List.length_replicate]
    simp only [sumZ]
    push_cast
    omega

theorem fb_le {l : List Int} (h : ksB l = true) {k : Nat} (hk : k ≤ l.length) : (fbL l k).length ≤ 12 := by
  have hb := ksB_len h
  have h1 := fb_len (l := l) k (fun i hi => hb.2.2.1 i (by omega))
  have h2 := sum_mono (l := l) k l.length hk hb.2.2.1
  omega

theorem fb_at {l : List Int} (h : ksB l = true) {k : Nat} (hk : k < l.length) : ∃ q : Nat, na l k = (q : Int) ∧ 1 ≤ q ∧ q ≤ 12 := by
  have hb := ksB_len h
  have h1 := hb.2.2.1 k hk
  have h2 := fb_le h (k := k + 1) (by omega)
  rw [fbL_succ, List.length_append, List.length_replicate] at h2
  exact ⟨(na l k).toNat, by omega, by omega, by omega⟩

def fbR (l : List Int) : List Int := if ksB l then fbL l l.length else []

theorem fbR_len (l : List Int) : (fbR l).length ≤ 1000 := by
  unfold fbR
  split
  · rename_i h
    have := fb_le h (Nat.le_refl _); omega
  · simp

theorem own_news {w : World} {base g q cap : Nat} {L : List Int} (h : w.ownsRow base 3 1 (.slice (some ⟨g, 0, none⟩) q cap) q (ns L)) (hq : q = L.length) : ∀ j u, (ns L)[j]? = some u → w.cell? ((⟨g, 0, none⟩ : Addr).add j) = some u := by
  intro j u hu
  have hj := (List.getElem?_eq_some_iff.1 hu).1
  rw [ns_length] at hj
  rw [ns_get L j hj] at hu
  rw [show (⟨g, 0, none⟩ : Addr).add j = ⟨g, j, none⟩ by unfold Addr.add; split <;> simp_all]
  rw [own_num h hq j (by omega)]
  exact hu

set_option maxHeartbeats 1600000 in
set_option maxRecDepth 20000 in
theorem firstBySizes_pos (b off cap : Nat) (l : List Int) (n : Nat) (w : World) (Hn : Hid (n = l.length)) (hn : n ≤ 12) (Hg : Hid (ksB l = true))
    (Hc : Hid (∀ i, i < n → w.cell? ⟨b, off + i, none⟩ = some (.int .i64 (na l i)))) :
    Calls Try.prog 48 #[.slice (some ⟨b, off, none⟩) n cap] w fun e w' => ∃ v, e = .returned v ∧ w'.ownsRow w.heap.size 3 1 v (fbL l n).length (ns (fbL l n)) ∧ Below w.heap.size w w' := by
  obtain ⟨i3, hi3, hz30, hz31, hz32⟩ := info_parts info3
  go_enter Try.func48, Try.ntmps48
  go_wp2_with fail
  go_loopw [3, 8] (fun v i wr => ∃ k m : Nat, k ≤ n ∧ i = .int .i64 k ∧ Hid (m = (fbL l k).length) ∧ wr.ownsRow w.heap.size 3 1 v m (ns (fbL l k)) ∧ Below w.heap.size w wr) (fun _ i _ => n - (intOf i).toNat)
  case atStart => exact ⟨0, 0, Nat.zero_le _, rfl, rfl, World.ownsRow_nil _ _ _ _, Below.refl _ _⟩
  case round =>
    obtain ⟨k, m, hk, rfl, HM, hor, hbel⟩ := hrel
    obtain ⟨ao, cap1, rfl, _⟩ := nums_shape hor HM.out
    by_cases hlt : k < n
    · have hkl : k < l.length := by rw [← Hn.out]; exact hlt
      obtain ⟨q, hq, hq1, hq12⟩ := fb_at Hg.out hkl
      have hm12 : m ≤ 12 := by rw [HM.out]; exact fb_le Hg.out (by omega)
      have hc0 := cell_old hbel (Hc.out k hlt)
      rw [hq] at hc0
      have Hq := Lib.hid hq
      have hsz := hbel.size
      have bd : Below wr.heap.size wr (wr.alloc (.cells #[.int .i64 (k : Int)] 3)) := (Below.refl wr.heap.size wr).alloc (Nat.le_refl _) _
      have Hrow := Lib.hid (own_later hor bd)
      have Hb7 := Lib.hid (hbel.trans (bd.mono hsz))
      have hszW : (wr.alloc (.cells #[.int .i64 (k : Int)] 3)).heap.size = wr.heap.size + 1 := by simp
      have hck : (wr.alloc (.cells #[.int .i64 (k : Int)] 3)).cell? ⟨wr.heap.size, 0, none⟩ = some (.int .i64 (k : Int)) := by rw [cell_of_row _ _ _ _ _ _ (heap_alloc_new wr _)]; rfl
      have HRP := Lib.hid (repeat_any (wr.alloc (.cells #[.int .i64 (k : Int)] 3)) wr.heap.size 0 1 (k : Int) q hq1 hq12 hck)
      clear hor hbel bd hck hq hkl
      go_wp2_with fail
      refine HRP.out.mono ?_
      rintro e w7 ⟨g, rfl, hO, hb7⟩
      have hs7 := hb7.size
      have Hrow7 := Lib.hid (own_later Hrow.out hb7)
      have Hb8 := Lib.hid (Hb7.out.trans (hb7.mono (by omega)))
      have Hnews := Lib.hid (own_news hO (by simp))
      clear hO hb7 HRP Hrow Hb7
      go_wp2_with (at_builtin; refine wpList_append_lies _ rfl _ _ 22 rfl w.heap.size 3 i3 (.int .i64 0) 1 8 Try.underlying22 hi3 hz30 hz31 hz32 rfl (by decide) (.slice ao m cap1) m (ns (fbL l k)) rfl Hrow7.out ⟨g, 0, none⟩ q q (ns (List.replicate q (k : Int))) rfl (by rw [ns_length, List.length_replicate, Nat.mul_one]) Hnews.out (ns_one _) (by omega) (by unfold maxLen; omega) (by omega) (by omega) w7.heap.size rfl ?_)
      intro g9 cap9 w9 own9 hgr9 hat9 _
      have hT := fbT_all l k q Hq.out
      unfold fbT at hT
      rw [← ns_append, hT] at own9
      have HM9 : Hid (m + q = (fbL l (k + 1)).length) := by show _ = _; rw [← hT, List.length_append, List.length_replicate, ← HM.out]
      have HA9 := Lib.hid own9
      have Hb9 := Lib.hid (Hb8.out.grown hgr9 (by omega) (fun bb hb => (Hrow7.out.lt bb hb).1))
      clear own9 hgr9 hat9 hT Hrow7 Hb8 Hnews
      go_wp2_with fail
      go_roundw
      case rel => exact ⟨k + 1, m + q, by omega, by go_num, HM9, HA9.out, Hb9.out⟩
      case measure => simp [intOf]; omega
    · obtain rfl : k = n := by omega
      have Hor : Hid (wr.ownsRow w.heap.size 3 1 (.slice ao m cap1) (fbL l k).length (ns (fbL l k))) := by show World.ownsRow _ _ _ _ _ _ _; rw [← HM.out]; exact hor
      clear hor
      go_wp2_with fail
      go_ret
      exact ⟨_, rfl, Hor.out, hbel⟩

set_option maxRecDepth 20000 in
theorem specFb_no (w : World) (ao : Option Addr) (cap : Nat) (l : List Int) (n : Nat) (Hn : Hid (n = l.length)) (hn : n ≤ 1048576) (hc : NumsAt w ao l) (Hg : Hid (ksB l = false)) :
    Calls Try.prog 42 #[.slice ao n cap] w fun e w' => e = .returned (.tuple #[.slice none 0 0, .bool false]) ∧ Below w.heap.size w w' := by
  go_enter Try.func42, Try.ntmps42
  go_wp2_with fail
  refine (cbKinds_any ao cap l n w Hn hn hc).mono ?_
  rintro e w' ⟨rfl, rfl⟩
  rw [Hg.out]
  go_wp2_with fail
  go_ret2
  exact ⟨rfl, Below.refl _ _⟩

set_option maxHeartbeats 1600000 in
set_option maxRecDepth 20000 in
theorem specFb_yes (w : World) (ao : Option Addr) (cap : Nat) (l : List Int) (n : Nat) (Hn : Hid (n = l.length)) (hn : n ≤ 1048576) (hc : NumsAt w ao l) (Hg : Hid (ksB l = true)) :
    Calls Try.prog 42 #[.slice ao n cap] w fun e w' => ∃ v, e = .returned (.tuple #[v, .bool true]) ∧ w'.ownsRow w.heap.size 3 1 v (fbL l n).length (ns (fbL l n)) ∧ Below w.heap.size w w' := by
  obtain ⟨i3, hi3, hz30, hz31, hz32⟩ := info_parts info3
  obtain ⟨b, off, rfl, hcc⟩ : ∃ b off, ao = some ⟨b, off, none⟩ ∧ (∀ i, i < n → w.cell? ⟨b, off + i, none⟩ = some (.int .i64 (na l i))) := by
    rcases hc with h | ⟨b, off, h, hc⟩
    · subst h; have := (ksB_len Hg.out).1; simp at this
    · exact ⟨b, off, h, fun i hi => hc i (by rw [← Hn.out]; exact hi)⟩
  have hn12 : n ≤ 12 := by rw [Hn.out]; exact (ksB_len Hg.out).2.1
  have Hc := Lib.hid hcc
  have Hc0 := Lib.hid hc
  clear hcc hc
  go_enter Try.func42, Try.ntmps42
  go_wp2_with fail
  refine (cbKinds_any _ cap l n w Hn hn Hc0.out).mono ?_
  rintro e w' ⟨rfl, rfl⟩
  rw [Hg.out]
  go_wp2_with fail
  go_loopw [4, 12] (fun v i wr => ∃ k m : Nat, k ≤ n ∧ i = .int .i64 k ∧ Hid (m = (fbL l k).length) ∧ wr.ownsRow w.heap.size 3 1 v m (ns (fbL l k)) ∧ Below w.heap.size w wr) (fun _ i _ => n - (intOf i).toNat)
  case atStart => exact ⟨0, 0, Nat.zero_le _, rfl, rfl, World.ownsRow_nil _ _ _ _, Below.refl _ _⟩
  case round =>
    obtain ⟨k, m, hk, rfl, HM, hor, hbel⟩ := hrel
    obtain ⟨wa, hwa⟩ : ∃ q, q = wr := ⟨_, rfl⟩
    subst hwa
    by_cases hlt : k < n
    · have hkl : k < l.length := by rw [← Hn.out]; exact hlt
      obtain ⟨q, hq, hq1, hq12⟩ := fb_at Hg.out hkl
      have hm12 : m ≤ 12 := by rw [HM.out]; exact fb_le Hg.out (by omega)
      have hc0 := cell_old hbel (Hc.out k hlt)
      rw [hq] at hc0
      have Hq := Lib.hid hq
      have Hor := Lib.hid hor
      have Hbel := Lib.hid hbel
      clear hor hbel hq hkl
      go_wp2_with fail
      go_loopw [4, 6] (fun v i wr => ∃ (j : Nat), j ≤ q ∧ i = .int .i64 ((q : Int) - (j : Int)) ∧ wr.ownsRow w.heap.size 3 1 v (m + j) (ns (fbT l k j)) ∧ Below w.heap.size w wr) (fun _ i _ => (intOf i).toNat)
      case atStart => exact ⟨0, Nat.zero_le _, by simp, by rw [fbT_zero]; exact Hor.out, Hbel.out⟩
      case round =>
        obtain ⟨j, hj, rfl, hoa, hbj⟩ := hrel
        by_cases hjl : j < q
        · have hgt : (q : Int) - (j : Int) > 0 := by omega
          obtain ⟨aoA, capA, rfl, _⟩ := nums_shape hoa (by rw [fbT_len, ← HM.out])
          have hea := fbT_succ l k j
          have Hea := Lib.hid hea
          have hsz := hbj.size
          have bd : Below wr.heap.size wr (wr.alloc (.cells #[.int .i64 (k : Int)] 3)) := (Below.refl wr.heap.size wr).alloc (Nat.le_refl _) _
          have HrowA := Lib.hid (own_later hoa bd)
          have Hb7 := Lib.hid (hbj.trans (bd.mono hsz))
          have hszW : (wr.alloc (.cells #[.int .i64 (k : Int)] 3)).heap.size = wr.heap.size + 1 := by simp
          have hck : (wr.alloc (.cells #[.int .i64 (k : Int)] 3)).cell? ⟨wr.heap.size, 0, none⟩ = some (.int .i64 (k : Int)) := by rw [cell_of_row _ _ _ _ _ _ (heap_alloc_new wr _)]; rfl
          have Hck := Lib.hid hck
          clear hoa hbj bd hck hea
          go_wp2_with (at_builtin; refine push_num _ rfl _ _ 22 rfl w.heap.size i3 Try.underlying22 hi3 hz30 hz31 hz32 (.slice aoA (m + j) capA) _ (m + j) rfl HrowA.out (by omega) (k : Int) 1 wr.heap.size rfl Hck.out (by rw [hszW]; omega) ?_)
          intro g9 cap9 w9 own9 hgr9 hat9
          rw [Hea.out] at own9
          have HA9 := Lib.hid own9
          have Hb9 := Lib.hid (Hb7.out.grown hgr9 (by rw [hszW]; omega) (fun bb hb => (HrowA.out.lt bb hb).1))
          clear own9 hgr9 hat9 HrowA Hb7 Hck
          go_wp2_with fail
          go_roundw
          case rel => exact ⟨j + 1, by omega, by go_num, HA9.out, Hb9.out⟩
          case measure => simp [intOf]; omega
        · obtain rfl : j = q := by omega
          have hgt : ¬ ((j : Int) - (j : Int) > 0) := by omega
          rw [fbT_all l k j Hq.out] at hoa
          have HM1 : Hid (m + j = (fbL l (k + 1)).length) := by show _ = _; rw [← fbT_all l k j Hq.out, fbT_len, ← HM.out]
          have Hoa := Lib.hid hoa
          clear hoa
          go_wp2_with fail
          go_roundw
          case rel => exact ⟨k + 1, m + j, by omega, by go_num, HM1, Hoa.out, hbj⟩
          case measure => simp [intOf]; omega
    · obtain rfl : k = n := by omega
      obtain ⟨ao, cap1, rfl, _⟩ := nums_shape hor HM.out
      have Hor : Hid (wa.ownsRow w.heap.size 3 1 (.slice ao m cap1) (fbL l k).length (ns (fbL l k))) := by show World.ownsRow _ _ _ _ _ _ _; rw [← HM.out]; exact hor
      clear hor
      go_wp2_with fail
      go_ret2
      exact ⟨_, rfl, Hor.out, hbel⟩

theorem specFb_any (w : World) (ao : Option Addr) (cap : Nat) (l : List Int) (n : Nat) (Hn : Hid (n = l.length)) (hn : n ≤ 1048576) (hc : NumsAt w ao l) :
    Calls Try.prog 42 #[.slice ao n cap] w fun e w' => ∃ v, e = .returned (.tuple #[v, .bool (ksB l)]) ∧ w'.ownsRow w.heap.size 3 1 v (fbR l).length (ns (fbR l)) ∧ Below w.heap.size w w' := by
  cases hg : ksB l
  · have hR : fbR l = [] := by simp [fbR, hg]
    rw [hR]
    refine (specFb_no w ao cap l n Hn hn hc hg).mono ?_
    rintro e w' ⟨rfl, hb⟩
    exact ⟨_, rfl, World.ownsRow_nil _ _ _ _, hb⟩
  · have hR : fbR l = fbL l n := by simp [fbR, hg, ← Hn.out]
    rw [hR]
    exact specFb_yes w ao cap l n Hn hn hc hg

end Go.Proofs.Ytcedacneagpjcaa
