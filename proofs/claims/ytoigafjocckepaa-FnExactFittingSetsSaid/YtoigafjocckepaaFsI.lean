/- The lists that fit: the program. -/
import Derived.Test.YtoigafjocckepaaFs
namespace Go.Proofs.Ytoigafjocckepaa
open Go.ChangeShapes Go.WideShapes Go.ChangeAt Go.RowKit
set_option linter.unusedVariables false


/-- The lists told by the first k. -/
def tlT (M : List Nat) : Nat → List (List Int) | 0 => [] | k + 1 => tlT M k ++ [lsT (wa M k) 10]
theorem tlT_length (M : List Nat) : ∀ k, (tlT M k).length = k | 0 => rfl | k + 1 => by simp [tlT, tlT_length M k]
theorem tlT_fit {f : Nat} (hf : f ≤ 10) (L : List (List Int)) (s : ByteArray) (m : Nat) : tlT (fitM L s f m) (fitM L s f m).length = fitL L s f m := by
  have key : ∀ (K : List (List Int)), (∀ x, x ∈ K → risB (f : Int) x = true) → ∀ k, k ≤ K.length → tlT (K.map bw) k = K.take k := by
    intro K hK k
    induction k with
    | zero => intro _; simp [tlT]
    | succ k ih =>
      intro hk
      have e : wa (K.map bw) k = bw K[k] := by simp [wa, List.getD_eq_getElem?_getD, (by omega : k < K.length)]
      show tlT (K.map bw) k ++ [lsT (wa (K.map bw) k) 10] = _
      rw [ih (by omega), e, ls_bw (by omega : (f : Int) ≤ 10) (hK _ (List.getElem_mem _)), ← List.take_succ_eq_append_getElem]
  rw [fitM_fitL hf, List.length_map, key _ (fitL_ris L s m hf) _ (Nat.le_refl _), List.take_length]

set_option maxHeartbeats 1600000 in
set_option maxRecDepth 20000 in
theorem implFS_any (w : World) (f : Int) (ao : Option Addr) (cap : Nat) (L : List (List Int)) (n : Nat) (Hn : Hid (n = L.length)) (hn : n ≤ 1048576) (hL : Hid (∀ i, (row L i).length ≤ 1048576)) (Hc : RowsAt w ao L) (s : ByteArray) (hs : s.size ≤ 1048576) (m : Int) :
    Calls Try.prog 16 #[.int .i64 f, .slice ao n cap, .string s, .int .i64 m] w fun e w' => ∃ v X, e = .returned (.tuple #[v, .bool (fsB f L s m)]) ∧ OwnSS w' w.heap.size v X (fsR f L s m) ∧ Below w.heap.size w w' := by
  obtain ⟨i22, hi22, hz220, hz221, hz222⟩ := info_parts info36
  have Hft := Lib.hid (fittingTo_any w f ao cap L n Hn hn hL Hc s hs m)
  clear Hc
  cases hg : askB f L s m
  · have hB : fsB f L s m = false := by simp [fsB, hg]
    have hR : fsR f L s m = [] := by simp [fsR, hB]
    rw [hR, hB]
    rw [hg] at Hft
    clear hg hR hB
    go_enter Try.func16, Try.ntmps16
    go_wp2_with fail
    refine Hft.out.mono ?_
    rintro e w1 ⟨v, rfl, own1, hb1⟩
    obtain ⟨a2, c2, rfl, _⟩ := wl_at own1 rfl
    clear own1
    go_wp2_with fail
    go_ret2
    exact ⟨_, [], rfl, OwnSS.nil _ _, hb1⟩
  · rw [hg] at Hft
    have hp := ask_parts hg
    have hw := wi_parts hp.1
    have hbl := ftR_len f L s m
    by_cases h200 : (ftR f L s m).length ≤ 200
    · have hB : fsB f L s m = true := by simp only [fsB, hg, h200, decide_true, Bool.and_self]
      have hR : fsR f L s m = tlT (ftR f L s m) (ftR f L s m).length := by
        have e : ftR f L s m = fitM L s f.toNat m.toNat := by simp [ftR, hg]
        rw [e, tlT_fit (by omega)]
        simp [fsR, hB]
      have hlt : ∀ x, x ∈ ftR f L s m → x < 1024 := by
        intro x hx
        rw [ftR_fitL hg, List.mem_map] at hx
        obtain ⟨l, hl, rfl⟩ := hx
        exact bw_lt (by omega : ((f.toNat : Nat) : Int) ≤ 10) (fitL_ris L s _ (by omega) l hl)
      rw [hR, hB]
      obtain ⟨R, hRR⟩ : ∃ q, ftR f L s m = q := ⟨_, rfl⟩
      rw [hRR] at Hft hlt h200 ⊢
      obtain ⟨z, hz⟩ : ∃ z, R.length = z := ⟨_, rfl⟩
      rw [hz] at Hft h200 ⊢
      have Hz := Lib.hid hz
      have Hlt := Lib.hid hlt
      have hgt : ¬ (z : Int) > 200 := by omega
      clear hg hR hB hp hw hbl hRR hlt hz
      go_enter Try.func16, Try.ntmps16
      go_wp2_with fail
      refine Hft.out.mono ?_
      rintro e w1 ⟨v, rfl, own1, hb1⟩
      obtain ⟨a2, c2, rfl, hwl⟩ := wl_at own1 Hz.out.symm
      have Hwl := Lib.hid hwl
      have Hb1 := Lib.hid hb1
      have hs1 := hb1.size
      clear own1 hb1 hwl
      go_wp2_with fail
      go_loopw [12, 32] (fun v i wr => ∃ (k : Nat) (X : List Value), k ≤ z ∧ i = .int .i64 k ∧ OwnSS wr w1.heap.size v X (tlT R k) ∧ Below w1.heap.size w1 wr) (fun _ i _ => z - (intOf i).toNat)
      case atStart => exact ⟨0, [], Nat.zero_le _, rfl, OwnSS.nil _ _, Below.refl _ _⟩
      case round =>
        obtain ⟨k, X, hk, rfl, hor, hbel⟩ := hrel
        by_cases hlt2 : k < z
        · have hkM : k < R.length := by have := Hz.out; omega
          obtain ⟨gA, offA, hao, hcA⟩ : ∃ gA offA, a2 = some ⟨gA, offA, none⟩ ∧ w1.cell? ⟨gA, offA + k, none⟩ = some (.int .u16 ((wa R k : Nat) : Int)) := by
            rcases Hwl.out with h | ⟨g, o, h, hc⟩
            · rw [h] at hkM; simp at hkM
            · exact ⟨g, o, h, hc k hkM⟩
          subst hao
          have hcr := cell_old hbel hcA
          have hx := Hlt.out _ (wa_mem _ k hkM)
          have hsucc : tlT R (k + 1) = tlT R k ++ [lsT (wa R k) 10] := rfl
          obtain ⟨x, hxx⟩ : ∃ x, wa R k = x := ⟨_, rfl⟩
          rw [hxx] at hcr hx hsucc
          have Hsucc := Lib.hid hsucc
          have hsz := hbel.size
          have hk1 : (0 : Int) ≤ k := by omega
          have hk2 : (k : Int) < z := by omega
          obtain ⟨aU, cU, rfl, _⟩ := hor.reads
          rw [tlT_length] at hor ⊢
          have HL : Hid ((tlT R k).length = k) := tlT_length R k
          have bd : Below wr.heap.size wr (wr.alloc (.cells #[.int .u16 (x : Int)] 52)) := (Below.refl wr.heap.size wr).alloc (Nat.le_refl _) _
          have hcn : (wr.alloc (.cells #[.int .u16 (x : Int)] 52)).cell? ⟨wr.heap.size, 0, none⟩ = some (.int .u16 (x : Int)) := by rw [cell_of_row _ _ _ _ _ _ (heap_alloc_new wr _)]; rfl
          have hs1' : (wr.alloc (.cells #[.int .u16 (x : Int)] 52)).heap.size = wr.heap.size + 1 := by simp
          have Hor := Lib.hid (hor.later bd)
          have Hbel := Lib.hid (hbel.trans (bd.mono hsz))
          have Hcn := Lib.hid hcn
          have hLS := fun W => list_any x hx W
          simp only [wv] at hLS
          have HLS := Lib.hid hLS
          obtain ⟨RL, hRL⟩ : ∃ q, lsT x 10 = q := ⟨_, rfl⟩
          simp only [hRL] at HLS
          rw [hRL] at Hsucc
          clear hor hbel hcA hcn hxx hsucc hLS hRL bd
          go_wp2_with fail
          refine (HLS.out _).mono ?_
          rintro e w3 ⟨v3, rfl, own3, hb3⟩
          obtain ⟨a3, c3, rfl, _⟩ := nums_shape own3 rfl
          have HP := Lib.hid (newRow Hor.out (by rw [hs1']; omega) hb3 own3)
          have hs3 := hb3.size
          have Hb5 := Lib.hid ((Hbel.out.trans (hb3.mono (by rw [hs1']; omega))).alloc (by omega) (.cells #[.slice a3 RL.length c3] 36))
          have hs5 : (w3.alloc (.cells #[.slice a3 RL.length c3] 36)).heap.size = w3.heap.size + 1 := by simp
          clear own3 hb3
          go_wp2_with (at_builtin; refine push_row _ rfl _ _ 22 rfl w1.heap.size i22 Try.underlying22 hi22 hz220 hz221 hz222 _ X (tlT R k) k HL.out rfl HP.out.own (by omega) (.slice a3 RL.length c3) RL HP.out.new HP.out.hv HP.out.hX 1 w3.heap.size rfl HP.out.cell rfl HP.out.size ?_)
          intro v6 w6 own6 hgr6 hat6
          rw [← Hsucc.out] at own6
          have Ho6 := Lib.hid own6
          have Hb6 := Lib.hid (Hb5.out.grown hgr6 (by rw [hs5]; rw [hs1'] at hs3; omega) (fun bb hb => (HP.out.own.1.lt bb hb).1))
          clear own6 hgr6 hat6 Hb5
          go_wp2_with fail
          go_roundw
          case rel => exact ⟨k + 1, _, by omega, by go_num, Ho6.out, Hb6.out⟩
          case measure => simp [intOf]; omega
        · obtain rfl : k = z := by omega
          have Hor := Lib.hid (hor.weaken hs1)
          have Hbf := Lib.hid (Hb1.out.trans (hbel.mono hs1))
          clear hor
          go_wp2_with fail
          go_ret2
          first | exact ⟨_, X, rfl, Hor.out, Hbf.out⟩ | exact ⟨_, rfl, ⟨X, Hor.out⟩, Hbf.out⟩
    · have hB : fsB f L s m = false := by simp only [fsB, h200, decide_false, Bool.and_false]
      have hR : fsR f L s m = [] := by simp [fsR, hB]
      rw [hR, hB]
      obtain ⟨R, hRR⟩ : ∃ q, ftR f L s m = q := ⟨_, rfl⟩
      rw [hRR] at Hft h200
      obtain ⟨z, hz⟩ : ∃ z, R.length = z := ⟨_, rfl⟩
      rw [hz] at Hft h200
      have hgt : (z : Int) > 200 := by omega
      have Hz := Lib.hid hz
      clear hg hR hB hp hw hbl hRR hz
      go_enter Try.func16, Try.ntmps16
      go_wp2_with fail
      refine Hft.out.mono ?_
      rintro e w1 ⟨v, rfl, own1, hb1⟩
      obtain ⟨a2, c2, rfl, _⟩ := wl_at own1 Hz.out.symm
      clear own1
      go_wp2_with fail
      go_ret2
      exact ⟨_, [], rfl, OwnSS.nil _ _, hb1⟩

end Go.Proofs.Ytoigafjocckepaa
