/- FirstClash, both sides. -/
import Derived.Test.YtaangjidkkpogaaFl
namespace Go.Proofs.Ytaangjidkkpogaa
open Go.ChangeShapes Go.WideShapes Go.ChangeAt Go.RowKit
set_option linter.unusedVariables false


theorem sf_take (l : List Snd) (k i : Nat) (h : i < k) : sf (l.take k) i = sf l i ∧ st (l.take k) i = st l i ∧ sm (l.take k) i = sm l i := by
  simp [sf, st, sm, List.getD_eq_getElem?_getD, h]
theorem Sat3.take {w : World} {b off : Nat} {l : List Snd} {i k : Nat} (h : Sat3 w b off l i) (hi : i < k) : Sat3 w b off (l.take k) i := by
  unfold Sat3 at h ⊢
  rw [(sf_take l k i hi).1, (sf_take l k i hi).2.1, (sf_take l k i hi).2.2]
  exact h
theorem SendsAt.take {w : World} {ao : Option Addr} {l : List Snd} (h : SendsAt w ao l) (k : Nat) : SendsAt w ao (l.take k) := by
  rcases h with h | ⟨b, off, h, hc⟩
  · subst h; exact .inl (by simp)
  · exact .inr ⟨b, off, h, fun i hi => (hc i (by rw [List.length_take] at hi; omega)).take (by rw [List.length_take] at hi; omega)⟩
theorem cl_take {f : Int} {l : List Snd} (h : clB f l = true) (k : Nat) : clB f (l.take k) = true := by
  obtain ⟨h1, h2, h3⟩ := cl_parts h
  rw [List.all_eq_true] at h3
  have h4 : (l.take k).all (cl1 f) = true := by
    rw [List.all_eq_true]
    exact fun q hq => h3 q (List.mem_of_mem_take hq)
  simp only [clB, frB, h4, Bool.and_true, Bool.and_eq_true, decide_eq_true_eq]
  exact ⟨h1, by rw [List.length_take]; omega⟩
/-- The first number from k on that is one, of n. -/
def ff (p : Nat → Bool) (k : Nat) : Nat → Option Nat
  | 0 => none
  | n + 1 => if p k then some k else ff p (k + 1) n
theorem ff_step (p : Nat → Bool) (k n : Nat) (h : k < n) : ff p k (n - k) = if p k then some k else ff p (k + 1) (n - (k + 1)) := by
  rw [show n - k = (n - (k + 1)) + 1 by omega]; rfl
def fcAt (f : Int) (l : List Snd) (k : Nat) : Bool := !soB f (l.take (k + 1))
def fcO (f : Int) (l : List Snd) : Option Nat := if clB f l then ff (fcAt f l) 0 l.length else none
def fcR (f : Int) (l : List Snd) : Int := ((fcO f l).getD 0 : Nat)
def fcB (f : Int) (l : List Snd) : Bool := (fcO f l).isSome

set_option maxHeartbeats 1600000 in
set_option maxRecDepth 20000 in
theorem implFC_pos (w : World) (f : Int) (b off cap : Nat) (l : List Snd) (n : Nat) (Hn : Hid (n = l.length)) (hn : n ≤ 1048576) (hcap : n ≤ cap) (hcl : clB f l = true) (hc : SendsAt w (some ⟨b, off, none⟩) l) :
    Calls Try.prog 32 #[.int .i64 f, .slice (some ⟨b, off, none⟩) n cap] w fun e w' => e = .returned (.tuple #[.int .i64 (fcR f l), .bool (fcB f l)]) ∧ Below w.heap.size w w' := by
  have HG := Lib.hid (implAC_any w f (some ⟨b, off, none⟩) cap l n Hn hn hc)
  rw [hcl] at HG
  have ho : fcO f l = ff (fcAt f l) 0 (n - 0) := by unfold fcO; rw [if_pos hcl, Hn.out]; rfl
  have HX := Lib.hid (fun w1 (hw : Below w.heap.size w w1) k (hk : k < n) => implST_any w1 f (some ⟨b, off, none⟩) cap (l.take (k + 1)) (k + 1) (Lib.hid (by rw [List.length_take, ← Hn.out]; omega)) (by omega) (by omega) ((hc.kept hw).take (k + 1)))
  have HFA : Hid (∀ k, fcAt f l k = !soB f (l.take (k + 1))) := Lib.hid (fun k => rfl)
  have hl20 : n ≤ 20 := by rw [Hn.out]; exact (cl_parts hcl).2.1
  have hR : fcR f l = ((fcO f l).getD 0 : Nat) := rfl
  have hB : fcB f l = (fcO f l).isSome := rfl
  rw [hR, hB]
  obtain ⟨O, hO⟩ : ∃ O, fcO f l = O := ⟨_, rfl⟩
  rw [hO] at ho ⊢
  have HO := Lib.hid ho
  
  clear hcl hR hB hO ho hc
  go_enter Try.func32, Try.ntmps32
  go_wp2_with fail
  refine HG.out.mono ?_
  rintro e w1 ⟨rfl, hb1⟩
  obtain ⟨H1, hH1⟩ : ∃ H1, w1.heap.size = H1 := ⟨_, rfl⟩
  have HH1 := Lib.hid hH1
  have Hb1 := Lib.hid hb1
  clear hb1 hH1
  go_wp2_with fail
  go_loopw [15] (fun i wr => ∃ k : Nat, k ≤ n ∧ i = .int .i64 k ∧ Hid (O = ff (fcAt f l) k (n - k)) ∧ Below H1 w1 wr) (fun i _ => n - (intOf i).toNat)
  case atStart => exact ⟨0, Nat.zero_le _, rfl, HO, by rw [← HH1.out]; exact Below.refl _ _⟩
  case round =>
    obtain ⟨k, hk, rfl, HK, hb3⟩ := hrel
    have Hb4 := Lib.hid (Hb1.out.trans (hb3.mono (by rw [← HH1.out]; exact Hb1.out.size)))
    by_cases hlt : k < n
    · have hst := ff_step (fcAt f l) k n hlt
      rw [← HK.out] at hst
      have HV := Lib.hid (HX.out wr Hb4.out k hlt)
      have hsz : H1 ≤ wr.heap.size := by have := hb3.size; have := HH1.out; omega
      have Hb3 := Lib.hid hb3
      have hk0 : (0 : Int) ≤ (k : Int) + 1 := by omega
      have hk1 : (k : Int) + 1 ≤ (cap : Int) := by omega
      have hfa := HFA.out k
      clear hb3
      cases hs : soB f (l.take (k + 1))
      · rw [hs] at hfa
        have HOk : Hid (O = some k) := Lib.hid (by rw [hst, hfa]; rfl)
        rw [hs] at HV
        clear hfa hst HK hs
        go_wp2_with fail
        refine HV.out.mono ?_
        rintro e w5 ⟨ao2, M, cap2, HM, rfl, own, hb5⟩
        clear own
        have Hb5 := Lib.hid (Hb4.out.trans (hb5.mono Hb4.out.size))
        clear hb5
        go_wp2_with fail
        go_ret2
        exact ⟨by rw [HOk.out]; rfl, Hb5.out⟩
      · rw [hs] at hfa
        have HOk : Hid (O = ff (fcAt f l) (k + 1) (n - (k + 1))) := Lib.hid (by rw [hst, hfa]; rfl)
        rw [hs] at HV
        clear hfa hst HK hs
        go_wp2_with fail
        refine HV.out.mono ?_
        rintro e w5 ⟨ao2, M, cap2, HM, rfl, own, hb5⟩
        clear own
        have Hb5 := Lib.hid (Hb3.out.trans (hb5.mono hsz))
        clear hb5
        go_wp2_with fail
        go_roundw
        case rel => exact ⟨k + 1, by omega, by go_num, HOk, Hb5.out⟩
        case measure => simp [intOf]; omega
    · have HE : Hid (O = none) := Lib.hid (by rw [HK.out, show n - k = 0 by omega]; rfl)
      clear hb3 HK
      go_wp2_with fail
      go_ret2
      exact ⟨by rw [HE.out]; rfl, Hb4.out⟩
theorem implFC_any (w : World) (f : Int) (ao : Option Addr) (cap : Nat) (l : List Snd) (n : Nat) (Hn : Hid (n = l.length)) (hn : n ≤ 1048576) (hcap : n ≤ cap) (hc : SendsAt w ao l) :
    Calls Try.prog 32 #[.int .i64 f, .slice ao n cap] w fun e w' => e = .returned (.tuple #[.int .i64 (fcR f l), .bool (fcB f l)]) ∧ Below w.heap.size w w' := by
  have HG := Lib.hid (implAC_any w f ao cap l n Hn hn hc)
  cases hcl : clB f l
  · have ho : fcO f l = none := by unfold fcO; rw [hcl]; rfl
    have hR : fcR f l = 0 := by unfold fcR; rw [ho]; rfl
    have hB : fcB f l = false := by unfold fcB; rw [ho]; rfl
    rw [hR, hB]
    rw [hcl] at HG
    clear ho hR hB hcl hc
    go_enter Try.func32, Try.ntmps32
    go_wp2_with fail
    refine HG.out.mono ?_
    rintro e w1 ⟨rfl, hb1⟩
    go_wp2_with fail
    go_ret2
    exact ⟨rfl, hb1⟩
  · by_cases h0 : n = 0
    · have hl : l = [] := List.eq_nil_of_length_eq_zero (by rw [← Hn.out]; exact h0)
      have ho : fcO f l = none := by unfold fcO; rw [hcl, hl]; rfl
      have hR : fcR f l = 0 := by unfold fcR; rw [ho]; rfl
      have hB : fcB f l = false := by unfold fcB; rw [ho]; rfl
      rw [hR, hB]
      rw [hcl] at HG
      subst h0
      clear ho hR hB hcl hc hl
      go_enter Try.func32, Try.ntmps32
      go_wp2_with fail
      refine HG.out.mono ?_
      rintro e w1 ⟨rfl, hb1⟩
      go_wp2_with fail
      go_rounds 1
      go_ret2
      exact ⟨rfl, hb1⟩
    · rcases hc with h | ⟨b, off, rfl, hc⟩
      · subst h; exact absurd Hn.out h0
      · exact implFC_pos w f b off cap l n Hn hn hcap hcl (.inr ⟨b, off, rfl, hc⟩)

set_option maxHeartbeats 1600000 in
set_option maxRecDepth 20000 in
theorem specFC_pos (w : World) (f : Int) (b off cap : Nat) (l : List Snd) (n : Nat) (Hn : Hid (n = l.length)) (hn : n ≤ 1048576) (hcap : n ≤ cap) (hcl : clB f l = true) (hc : SendsAt w (some ⟨b, off, none⟩) l) :
    Calls Try.prog 31 #[.int .i64 f, .slice (some ⟨b, off, none⟩) n cap] w fun e w' => e = .returned (.tuple #[.int .i64 (fcR f l), .bool (fcB f l)]) ∧ Below w.heap.size w w' := by
  have HG := Lib.hid (liGood_any w f (some ⟨b, off, none⟩) cap l n Hn hn hc)
  rw [hcl] at HG
  have ho : fcO f l = ff (fcAt f l) 0 (n - 0) := by unfold fcO; rw [if_pos hcl, Hn.out]; rfl
  have HX := Lib.hid (fun w1 (hw : Below w.heap.size w w1) k (hk : k < n) => liAll_any w1 f (some ⟨b, off, none⟩) cap (l.take (k + 1)) (k + 1) (Lib.hid (by rw [List.length_take, ← Hn.out]; omega)) (by omega) (by omega) ((hc.kept hw).take (k + 1)) (cl_take hcl (k + 1)))
  have HFA : Hid (∀ k, fcAt f l k = !soB f (l.take (k + 1))) := Lib.hid (fun k => rfl)
  have hl20 : n ≤ 20 := by rw [Hn.out]; exact (cl_parts hcl).2.1
  have hR : fcR f l = ((fcO f l).getD 0 : Nat) := rfl
  have hB : fcB f l = (fcO f l).isSome := rfl
  rw [hR, hB]
  obtain ⟨O, hO⟩ : ∃ O, fcO f l = O := ⟨_, rfl⟩
  rw [hO] at ho ⊢
  have HO := Lib.hid ho
  have HSO : Hid (∀ k, soB f (l.take (k + 1)) = decide (0 < (fitB f (l.take (k + 1))).length)) := Lib.hid (fun k => by unfold soB; rw [cl_take hcl]; rfl)
  clear hcl hR hB hO ho hc
  go_enter Try.func31, Try.ntmps31
  go_wp2_with fail
  refine HG.out.mono ?_
  rintro e w1 ⟨rfl, hb1⟩
  obtain ⟨H1, hH1⟩ : ∃ H1, w1.heap.size = H1 := ⟨_, rfl⟩
  have HH1 := Lib.hid hH1
  have Hb1 := Lib.hid hb1
  clear hb1 hH1
  go_wp2_with fail
  go_loopw [13] (fun i wr => ∃ k : Nat, k ≤ n ∧ i = .int .i64 k ∧ Hid (O = ff (fcAt f l) k (n - k)) ∧ Below H1 w1 wr) (fun i _ => n - (intOf i).toNat)
  case atStart => exact ⟨0, Nat.zero_le _, rfl, HO, by rw [← HH1.out]; exact Below.refl _ _⟩
  case round =>
    obtain ⟨k, hk, rfl, HK, hb3⟩ := hrel
    have Hb4 := Lib.hid (Hb1.out.trans (hb3.mono (by rw [← HH1.out]; exact Hb1.out.size)))
    by_cases hlt : k < n
    · have hst := ff_step (fcAt f l) k n hlt
      rw [← HK.out] at hst
      have HV := Lib.hid (HX.out wr Hb4.out k hlt)
      have hsz : H1 ≤ wr.heap.size := by have := hb3.size; have := HH1.out; omega
      have Hb3 := Lib.hid hb3
      have hk0 : (0 : Int) ≤ (k : Int) + 1 := by omega
      have hk1 : (k : Int) + 1 ≤ (cap : Int) := by omega
      have hfa := HFA.out k
      clear hb3
      cases hs : soB f (l.take (k + 1))
      · rw [hs] at hfa
        have HOk : Hid (O = some k) := Lib.hid (by rw [hst, hfa]; rfl)
        have HL0 : Hid ((fitB f (l.take (k + 1))).length = 0) := Lib.hid (by rw [HSO.out] at hs; simpa using hs)
        clear hfa hst HK hs
        go_wp2_with fail
        refine HV.out.mono ?_
        rintro e w5 ⟨ao2, M, cap2, HM, rfl, own, hb5⟩
        have hMz : ((M : Int) == 0) = true := by rw [HM.out, HL0.out]; rfl
        clear own HM
        have Hb5 := Lib.hid (Hb4.out.trans (hb5.mono Hb4.out.size))
        clear hb5
        go_wp2_with fail
        go_ret2
        exact ⟨by rw [HOk.out]; rfl, Hb5.out⟩
      · rw [hs] at hfa
        have HOk : Hid (O = ff (fcAt f l) (k + 1) (n - (k + 1))) := Lib.hid (by rw [hst, hfa]; rfl)
        have HL0 : Hid (0 < (fitB f (l.take (k + 1))).length) := Lib.hid (by rw [HSO.out] at hs; simpa using hs)
        clear hfa hst HK hs
        go_wp2_with fail
        refine HV.out.mono ?_
        rintro e w5 ⟨ao2, M, cap2, HM, rfl, own, hb5⟩
        have hMz : ((M : Int) == 0) = false := by have h1 := HM.out; have h2 := HL0.out; simp; omega
        clear own HM
        have Hb5 := Lib.hid (Hb3.out.trans (hb5.mono hsz))
        clear hb5
        go_wp2_with fail
        go_roundw
        case rel => exact ⟨k + 1, by omega, by go_num, HOk, Hb5.out⟩
        case measure => simp [intOf]; omega
    · have HE : Hid (O = none) := Lib.hid (by rw [HK.out, show n - k = 0 by omega]; rfl)
      clear hb3 HK
      go_wp2_with fail
      go_ret2
      exact ⟨by rw [HE.out]; rfl, Hb4.out⟩
theorem specFC_any (w : World) (f : Int) (ao : Option Addr) (cap : Nat) (l : List Snd) (n : Nat) (Hn : Hid (n = l.length)) (hn : n ≤ 1048576) (hcap : n ≤ cap) (hc : SendsAt w ao l) :
    Calls Try.prog 31 #[.int .i64 f, .slice ao n cap] w fun e w' => e = .returned (.tuple #[.int .i64 (fcR f l), .bool (fcB f l)]) ∧ Below w.heap.size w w' := by
  have HG := Lib.hid (liGood_any w f ao cap l n Hn hn hc)
  cases hcl : clB f l
  · have ho : fcO f l = none := by unfold fcO; rw [hcl]; rfl
    have hR : fcR f l = 0 := by unfold fcR; rw [ho]; rfl
    have hB : fcB f l = false := by unfold fcB; rw [ho]; rfl
    rw [hR, hB]
    rw [hcl] at HG
    clear ho hR hB hcl hc
    go_enter Try.func31, Try.ntmps31
    go_wp2_with fail
    refine HG.out.mono ?_
    rintro e w1 ⟨rfl, hb1⟩
    go_wp2_with fail
    go_ret2
    exact ⟨rfl, hb1⟩
  · by_cases h0 : n = 0
    · have hl : l = [] := List.eq_nil_of_length_eq_zero (by rw [← Hn.out]; exact h0)
      have ho : fcO f l = none := by unfold fcO; rw [hcl, hl]; rfl
      have hR : fcR f l = 0 := by unfold fcR; rw [ho]; rfl
      have hB : fcB f l = false := by unfold fcB; rw [ho]; rfl
      rw [hR, hB]
      rw [hcl] at HG
      subst h0
      clear ho hR hB hcl hc hl
      go_enter Try.func31, Try.ntmps31
      go_wp2_with fail
      refine HG.out.mono ?_
      rintro e w1 ⟨rfl, hb1⟩
      go_wp2_with fail
      go_rounds 1
      go_ret2
      exact ⟨rfl, hb1⟩
    · rcases hc with h | ⟨b, off, rfl, hc⟩
      · subst h; exact absurd Hn.out h0
      · exact specFC_pos w f b off cap l n Hn hn hcap hcl (.inr ⟨b, off, rfl, hc⟩)

end Go.Proofs.Ytaangjidkkpogaa
