/- All lists of wires: the program's. -/
import Derived.Test.YtoigafjocckepaaCw
import Derived.Test.YtoigafjocckepaaLi
namespace Go.Proofs.Ytoigafjocckepaa
open Go.ChangeShapes Go.WideShapes Go.ChangeAt Go.RowKit
set_option linter.unusedVariables false


/-- The longer lists of the first k lists. -/
def olT (f : Nat) (M : List Nat) (k : Nat) : List Nat := (M.take k).flatMap (lgr f)
theorem olT_succ (f : Nat) (M : List Nat) (k : Nat) (h : k < M.length) : olT f M (k + 1) = olT f M k ++ lgr f (wa M k) := by
  unfold olT
  rw [List.take_succ_eq_append_getElem h, List.flatMap_append, wa_get M k h]; simp
theorem olT_all (f : Nat) (M : List Nat) : olT f M M.length = M.flatMap (lgr f) := by unfold olT; rw [List.take_length]
def lgT (f n q : Nat) : List Nat := (List.range' (e16 n) q).map fun x => n ||| 2 ^ x
theorem lgT_succ (f n q : Nat) : lgT f n (q + 1) = lgT f n q ++ [n ||| 2 ^ (e16 n + q)] := by
  unfold lgT; rw [List.range'_1_concat, List.map_append]; simp
theorem lgT_all (f n : Nat) : lgT f n (f - e16 n) = lgr f n := rfl

set_option maxHeartbeats 1600000 in
set_option maxRecDepth 20000 in
theorem oneLonger_pos (w : World) (b off cap : Nat) (f : Nat) (hf : f ≤ 10) (M : List Nat) (n : Nat) (Hn : Hid (n = M.length)) (hn : n ≤ 1024) (HM : Hid (∀ x, x ∈ M → x < 1024)) (HB : Hid (∀ k, k ≤ n → (olT f M k).length ≤ 11264))
    (Hc : Hid (∀ i, i < n → w.cell? ⟨b, off + i, none⟩ = some (.int .u16 ((wa M i : Nat) : Int)))) :
    Calls Try.prog 71 #[.int .i64 (f : Int), .slice (some ⟨b, off, none⟩) n cap] w fun e w' => ∃ v, e = .returned v ∧ w'.ownsRow w.heap.size 52 1 v (olT f M n).length (ws (olT f M n)) ∧ Below w.heap.size w w' := by
  obtain ⟨i0, hi, hz0, hz1, hz2⟩ := info_parts infoWL
  go_enter Try.func71, Try.ntmps71
  go_wp2_with fail
  go_loopw [5, 11] (fun v i wr => ∃ k : Nat, k ≤ n ∧ i = .int .i64 k ∧ wr.ownsRow w.heap.size 52 1 v (olT f M k).length (ws (olT f M k)) ∧ Below w.heap.size w wr) (fun _ i _ => n - (intOf i).toNat)
  case atStart => exact ⟨0, Nat.zero_le _, rfl, by rw [show olT f M 0 = [] by simp [olT]]; exact World.ownsRow_nil _ _ _ _, Below.refl _ _⟩
  case round =>
    obtain ⟨k, hk, rfl, hor, hbel⟩ := hrel
    obtain ⟨aoV, capV, rfl, _⟩ := wl_at hor rfl
    by_cases hlt : k < n
    · have hkM : k < M.length := by have := Hn.out; omega
      have h0 := cell_old hbel (Hc.out k hlt)
      have hx := HM.out _ (wa_mem M k hkM)
      have hsucc := olT_succ f M k hkM
      have hBk := HB.out (k + 1) (by omega)
      obtain ⟨x, hxx⟩ : ∃ x, wa M k = x := ⟨_, rfl⟩
      rw [hxx] at h0 hx hsucc
      rw [hsucc] at hBk
      have Hsucc := Lib.hid hsucc
      have hsz := hbel.size
      have hk1 : (0 : Int) ≤ k := by omega
      have hk2 : (k : Int) < n := by omega
      have bd : Below wr.heap.size wr (wr.alloc (.cells #[.int .u16 (x : Int)] 52)) := (Below.refl wr.heap.size wr).alloc (Nat.le_refl _) _
      have hcn : (wr.alloc (.cells #[.int .u16 (x : Int)] 52)).cell? ⟨wr.heap.size, 0, none⟩ = some (.int .u16 (x : Int)) := by rw [cell_of_row _ _ _ _ _ _ (heap_alloc_new wr _)]; rfl
      have hs1 : (wr.alloc (.cells #[.int .u16 (x : Int)] 52)).heap.size = wr.heap.size + 1 := by simp
      have Hor := Lib.hid (own_later hor bd)
      have Hbel := Lib.hid (hbel.trans (bd.mono hsz))
      have Hcn := Lib.hid hcn
      have hE := fun W => end_any x hx W
      simp only [wv] at hE
      obtain ⟨E, hEe⟩ : ∃ E, e16 x = E := ⟨_, rfl⟩
      simp only [hEe] at hE
      have he10 := e16_le hx
      rw [hEe] at he10
      obtain ⟨T, hT⟩ : ∃ T, wr.heap.size = T := ⟨_, rfl⟩
      have Hvt : Hid ((Value.slice aoV (olT f M k).length capV).ownBlock ≠ some T) := fun e => by have := (hor.lt T e).2; omega
      rw [hT] at Hcn hsz
      have HEe := Lib.hid hEe
      obtain ⟨m0, hm0⟩ : ∃ m, (olT f M k).length = m := ⟨_, rfl⟩
      rw [hm0] at Hor Hvt
      rw [hm0]
      have Hm0 := Lib.hid hm0
      have hlg : (olT f M k ++ lgr f x).length ≤ 11264 := hBk
      have hlgb : ∀ q, q ≤ f - E → (olT f M k ++ lgT f x q).length ≤ 11264 := by
        intro q hq
        rw [List.length_append] at hlg ⊢
        have h1 : (lgT f x q).length = q := by simp [lgT]
        have h2 : (lgr f x).length = f - E := by simp [lgr, hEe]
        omega
      have Hlgb := Lib.hid hlgb
      clear hor hbel hcn hsucc hxx hBk hlg hlgb hm0
      go_wp2_with fail
      refine (hE _).mono ?_
      rintro e w2 ⟨rfl, hb2⟩
      have Ho2 := Lib.hid (own_later Hor.out hb2)
      have Hc2 := Lib.hid (cell_old hb2 Hcn.out)
      have hs2a := hb2.size
      rw [hs1, hT] at hs2a
      have Hb2 := Lib.hid (Hbel.out.trans (hb2.mono (by rw [hs1, hT]; omega)))
      clear hb2 hE Hor Hbel Hcn bd
      rw [show olT f M k = olT f M k ++ lgT f x 0 by simp [lgT]] at Ho2
      go_wp2_with fail
      go_loopw [5, 8] (fun v i wr => ∃ q : Nat, q ≤ f - E ∧ i = .int .i64 ((E + q : Nat) : Int) ∧ wr.ownsRow w.heap.size 52 1 v (m0 + q) (ws (olT f M k ++ lgT f x q)) ∧ wr.cell? ⟨T, 0, none⟩ = some (.int .u16 (x : Int)) ∧ Hid (v.ownBlock ≠ some T) ∧ Below w.heap.size w wr ∧ T + 1 ≤ wr.heap.size) (fun _ i _ => f - (intOf i).toNat)
      case atStart => exact ⟨0, Nat.zero_le _, rfl, Ho2.out, Hc2.out, Hvt, Hb2.out, hs2a⟩
      case round =>
        obtain ⟨q, hq, rfl, hor, hct, hvt, hbel, hs1T⟩ := hrel
        obtain ⟨y, hy⟩ : ∃ y, E + q = y := ⟨_, rfl⟩
        rw [hy]
        have Hy := Lib.hid hy
        by_cases hlt2 : y < f
        · have hyi : (y : Int) < f := by omega
          have hW := fun W => with_any x y hx (by omega) W
          have hls := lgT_succ f x q
          rw [HEe.out, hy] at hls
          obtain ⟨z, hz⟩ : ∃ z, x ||| 2 ^ y = z := ⟨_, rfl⟩
          simp only [wv, hz] at hW
          rw [hz] at hls
          have Hls : Hid (olT f M k ++ lgT f x (q + 1) = (olT f M k ++ lgT f x q) ++ [z]) := by show _ = _; rw [hls, List.append_assoc]
          have Hor := Lib.hid hor
          have Hbel := Lib.hid hbel
          have Hct := Lib.hid hct
          have hsz2 := hbel.size
          have hm11 := Hlgb.out q hq
          have hmq : m0 + q ≤ 11264 := by
            have h1 : (lgT f x q).length = q := by simp [lgT]
            rw [List.length_append, h1, Hm0.out] at hm11
            exact hm11
          obtain ⟨mm, hmm⟩ : ∃ mm, m0 + q = mm := ⟨_, rfl⟩
          rw [hmm] at Hor hmq
          obtain ⟨V0, hV0⟩ : ∃ V0, olT f M k ++ lgT f x q = V0 := ⟨_, rfl⟩
          rw [hV0] at Hor Hls
          have Hmm := Lib.hid hmm
          clear hor hbel hy hz hls hm11 hmm hV0
          go_wp2_with fail
          refine (hW _).mono ?_
          rintro e w3 ⟨rfl, hb3⟩
          have hs3 := hb3.size
          have bd3 : Below w3.heap.size w3 (w3.alloc (.cells #[.int .u16 (z : Int)] 52)) := (Below.refl w3.heap.size w3).alloc (Nat.le_refl _) _
          have Hrow7 := Lib.hid (own_later (own_later Hor.out hb3) bd3)
          have Hct7 := Lib.hid (cell_old bd3 (cell_old hb3 Hct.out))
          have Hb7 := Lib.hid ((Hbel.out.trans (hb3.mono hsz2)).trans (bd3.mono (by omega)))
          have hszW : (w3.alloc (.cells #[.int .u16 (z : Int)] 52)).heap.size = w3.heap.size + 1 := by simp
          have hck : (w3.alloc (.cells #[.int .u16 (z : Int)] 52)).cell? ⟨w3.heap.size, 0, none⟩ = some (.int .u16 (z : Int)) := by rw [cell_of_row _ _ _ _ _ _ (heap_alloc_new w3 _)]; rfl
          have Hck := Lib.hid hck
          clear hb3 bd3 hck hW hct Hor Hbel Hct
          go_wp2_with (at_builtin; refine push_wl _ rfl _ _ 47 rfl w.heap.size i0 Try.underlying47 hi hz0 hz1 hz2 _ V0 mm rfl Hrow7.out (by omega) z 1 w3.heap.size rfl Hck.out (by rw [hszW]; omega) ?_)
          intro g9 cap9 w9 own9 hgr9 hat9
          rw [← Hls.out] at own9
          have Ho9 : Hid (w9.ownsRow w.heap.size 52 1 (.slice (some ⟨g9, 0, none⟩) (mm + 1) cap9) (m0 + (q + 1)) (ws (olT f M k ++ lgT f x (q + 1)))) := by
            show World.ownsRow _ _ _ _ _ _ _
            rw [← Nat.add_assoc, Hmm.out]; exact own9
          have Hb9 := Lib.hid (Hb7.out.grown hgr9 (by rw [hszW]; omega) (fun bb hb => (Hrow7.out.lt bb hb).1))
          have Hct9 : Hid (w9.cell? ⟨T, 0, none⟩ = some (.int .u16 (x : Int))) := (World.cell?_of_block (a := ⟨T, 0, none⟩) (hgr9.block T (by rw [hszW]; omega) (fun h => hvt.out h.symm))).trans Hct7.out
          have Hvt9 : Hid ((Value.slice (some ⟨g9, 0, none⟩) (mm + 1) cap9).ownBlock ≠ some T) := fun e => by
            have e2 : g9 = T := by simpa [Value.ownBlock] using e
            rcases hat9 with h | h
            · exact hvt.out (by rw [h, e2])
            · have : w3.heap.size + 1 = T := by rw [← e2, h]; try rw [hszW]
              omega
          have hs9 : T + 1 ≤ w9.heap.size := by have := hgr9.size; omega
          have hyy : E + (q + 1) = y + 1 := by have := Hy.out; omega
          have Hyy := Lib.hid hyy
          clear own9 hgr9 hat9 Hrow7 Hb7 hyy
          go_wp2_with fail
          go_roundw
          case rel => exact ⟨q + 1, by have := Hy.out; omega, by rw [Hyy.out]; go_num, Ho9.out, Hct9.out, Hvt9, Hb9.out, hs9⟩
          case measure => simp [intOf]; omega
        · have hyi : ¬ (y : Int) < f := by omega
          have hqe : q = f - E ∨ f < E := by omega
          have hfin : Hid (olT f M k ++ lgT f x q = olT f M (k + 1)) := by
            show _ = _
            rw [Hsucc.out, ← lgT_all f x, HEe.out]
            rcases hqe with h | h
            · rw [h]
            · rw [show q = 0 by omega, show f - E = 0 by omega]
          have hlen : (olT f M (k + 1)).length = m0 + q := by
            rw [← hfin.out, List.length_append, Hm0.out]; simp [lgT]
          rw [hfin.out, ← hlen] at hor
          have Hor := Lib.hid hor
          clear hor hfin hlen hy hct
          go_wp2_with fail
          go_roundw
          case rel => exact ⟨k + 1, by omega, by go_num, Hor.out, hbel⟩
          case measure => simp [intOf]; omega
    · obtain rfl : k = n := by omega
      have Hor := Lib.hid hor
      clear hor
      go_wp2_with fail
      go_ret
      exact ⟨_, rfl, Hor.out, hbel⟩

end Go.Proofs.Ytoigafjocckepaa
