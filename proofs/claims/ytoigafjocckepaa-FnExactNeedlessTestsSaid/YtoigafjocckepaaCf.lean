/- How many lists fit: the model and the program. -/
import Derived.Test.YtoigafjocckepaaFiS
import Derived.Test.YtoigafjocckepaaFiI
namespace Go.Proofs.Ytoigafjocckepaa
open Go.ChangeShapes Go.WideShapes Go.ChangeAt Go.RowKit
set_option linter.unusedVariables false


def cfR (f : Int) (L : List (List Int)) (s : ByteArray) (m : Int) : Int := ((ftR f L s m).length : Nat)
theorem ftR_len (f : Int) (L : List (List Int)) (s : ByteArray) (m : Int) : (ftR f L s m).length ≤ 11264 := by
  unfold ftR; split
  · rename_i h
    have h1 := ask_parts h
    have h2 := wi_parts h1.1
    exact fitM_len (by omega) L s _ (by omega)
  · simp
theorem ftR_fitL {f : Int} {L : List (List Int)} {s : ByteArray} {m : Int} (h : askB f L s m = true) : ftR f L s m = (fitL L s f.toNat m.toNat).map bw := by
  unfold ftR
  rw [if_pos h]
  have h1 := ask_parts h
  have h2 := wi_parts h1.1
  exact fitM_fitL (by omega) L s _

set_option maxRecDepth 20000 in
theorem specCF_any (w : World) (f : Int) (ao : Option Addr) (cap : Nat) (L : List (List Int)) (n : Nat) (Hn : Hid (n = L.length)) (hn : n ≤ 1048576) (hL : Hid (∀ i, (row L i).length ≤ 1048576)) (Hc : RowsAt w ao L) (s : ByteArray) (hs : s.size ≤ 1048576) (m : Int) :
    Calls Try.prog 11 #[.int .i64 f, .slice ao n cap, .string s, .int .i64 m] w fun e w' => e = .returned (.tuple #[.int .i64 (cfR f L s m), .bool (askB f L s m)]) ∧ Below w.heap.size w w' := by
  have HC := Lib.hid Hc
  have Hask := Lib.hid (wiAsked_any f ao cap L n s m w Hn hn hL HC hs)
  clear Hc
  cases hg : askB f L s m
  · have hR : cfR f L s m = 0 := by simp [cfR, ftR, hg]
    rw [hR]
    rw [hg] at Hask
    clear hg hR
    go_enter Try.func11, Try.ntmps11
    go_wp2_with fail
    refine Hask.out.mono ?_
    rintro e w1 ⟨rfl, hb1⟩
    go_wp2_with fail
    go_ret2
    exact ⟨rfl, hb1⟩
  · have hR : cfR f L s m = ((fitL L s f.toNat m.toNat).length : Nat) := by unfold cfR; rw [ftR_fitL hg, List.length_map]
    have hp := ask_parts hg
    have hw := wi_parts hp.1
    rw [hR]
    rw [hg] at Hask
    obtain ⟨F, rfl⟩ := Int.eq_ofNat_of_zero_le (a := f) (by omega)
    obtain ⟨M, rfl⟩ := Int.eq_ofNat_of_zero_le (a := m) hp.2.2.1.1
    have Hg := Lib.hid hp.1
    have hF : F ≤ 10 := by omega
    have hM : M ≤ 10 := by omega
    simp only [Int.toNat_natCast]
    clear hg hR hp hw
    go_enter Try.func11, Try.ntmps11
    go_wp2_with fail
    refine Hask.out.mono ?_
    rintro e w1 ⟨rfl, hb1⟩
    have Hb1 := Lib.hid hb1
    clear hb1
    go_wp2_with fail
    refine (wiFit_any w1 ao cap L n s F M Hn Hg (HC.out.kept Hb1.out) hF hM).mono ?_
    rintro e w2 ⟨v, X, rfl, hO, hb2⟩
    have Hb2 := Lib.hid (Hb1.out.trans (hb2.mono Hb1.out.size))
    obtain ⟨a2, c2, rfl, _⟩ := hO.reads
    clear hb2 hO
    go_wp2_with fail
    go_ret2
    exact ⟨rfl, Hb2.out⟩

set_option maxRecDepth 20000 in
theorem implCF_any (w : World) (f : Int) (ao : Option Addr) (cap : Nat) (L : List (List Int)) (n : Nat) (Hn : Hid (n = L.length)) (hn : n ≤ 1048576) (hL : Hid (∀ i, (row L i).length ≤ 1048576)) (Hc : RowsAt w ao L) (s : ByteArray) (hs : s.size ≤ 1048576) (m : Int) :
    Calls Try.prog 13 #[.int .i64 f, .slice ao n cap, .string s, .int .i64 m] w fun e w' => e = .returned (.tuple #[.int .i64 (cfR f L s m), .bool (askB f L s m)]) ∧ Below w.heap.size w w' := by
  have Hft := Lib.hid (fittingTo_any w f ao cap L n Hn hn hL Hc s hs m)
  have hR : cfR f L s m = ((ftR f L s m).length : Nat) := rfl
  rw [hR]
  obtain ⟨B, hB⟩ : ∃ q, askB f L s m = q := ⟨_, rfl⟩
  obtain ⟨R, hRR⟩ : ∃ q, ftR f L s m = q := ⟨_, rfl⟩
  rw [hB, hRR]
  rw [hB, hRR] at Hft
  clear Hc hB hRR hR
  go_enter Try.func13, Try.ntmps13
  go_wp2_with fail
  refine Hft.out.mono ?_
  rintro e w1 ⟨v, rfl, own1, hb1⟩
  obtain ⟨a2, c2, rfl, _⟩ := wl_at own1 rfl
  clear own1
  go_wp2_with fail
  go_ret2
  exact ⟨rfl, hb1⟩

end Go.Proofs.Ytoigafjocckepaa
