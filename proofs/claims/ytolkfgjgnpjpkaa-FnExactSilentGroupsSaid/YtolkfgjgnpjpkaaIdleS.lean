/- The letters by which nobody comes to know anything: the model. -/
import Derived.Test.YtolkfgjgnpjpkaaNeedL
namespace Go.Proofs.Ytolkfgjgnpjpkaa
open Go.ChangeShapes Go.WideShapes Go.ChangeAt Go.RowKit
set_option linter.unusedVariables false

/-- The first n numbers are the same. -/
def sameN (l m : List Int) (n : Nat) : Bool := (List.range n).all fun i => na l i == na m i

/-- The facts that both plays ask, behind one name. -/
def CA (ao : Option Addr) (l : List (Int × Int)) (k : Nat) (w : World) : Prop := CallsAt w ao (l.take (k + 1)) ∧ CallsAt w ao (l.take k)

theorem CA.kept {ao : Option Addr} {l : List (Int × Int)} {k : Nat} {w w' : World} (h : CA ao l k w) (hb : Below w.heap.size w w') : CA ao l k w' := ⟨h.1.kept hb, h.2.kept hb⟩

def OwnK (F : Nat) (s : Nat → Nat) (v : Value) (w : World) : Prop := ∃ base, w.ownsRow base 3 1 v F (ns (kl F s))

theorem OwnK.later {F : Nat} {s : Nat → Nat} {v : Value} {w w' : World} (h : OwnK F s v w) (hb : Below w.heap.size w w') : OwnK F s v w' := by
  obtain ⟨b, h⟩ := h
  exact ⟨b, own_later h hb⟩

theorem CA.left {ao : Option Addr} {l : List (Int × Int)} {k : Nat} {w : World} (h : CA ao l k w) : CallsAt w ao (l.take (k + 1)) := h.1

theorem CA.right {ao : Option Addr} {l : List (Int × Int)} {k : Nat} {w : World} (h : CA ao l k w) : CallsAt w ao (l.take k) := h.2

/-- The indices below k that have a property. -/
def ix (q : Nat → Bool) : Nat → List Int | 0 => [] | k + 1 => if q k then ix q k ++ [(k : Int)] else ix q k

theorem ix_le (q : Nat → Bool) : ∀ k, (ix q k).length ≤ k
  | 0 => by simp [ix]
  | k + 1 => by
    have := ix_le q k
    simp only [ix]
    split
    · simp; omega
    · omega

theorem ix_no (q : Nat → Bool) (k : Nat) (h : q k = false) : ix q (k + 1) = ix q k := by simp [ix, h]

theorem ix_yes (q : Nat → Bool) (k : Nat) (h : q k = true) : ix q (k + 1) = ix q k ++ [(k : Int)] := by simp [ix, h]

set_option maxRecDepth 100000 in
theorem l1Same_pos (b off b' off' ka kb : Nat) (l m : List Int) (n : Nat) (w : World) (hl : n ≤ 1048576)
    (Hc : Hid (∀ i, i < n → w.cell? ⟨b, off + i, none⟩ = some (.int .i64 (na l i))))
    (Hd : Hid (∀ i, i < n → w.cell? ⟨b', off' + i, none⟩ = some (.int .i64 (na m i)))) :
    Calls Try.prog 75 #[.slice (some ⟨b, off, none⟩) n ka, .slice (some ⟨b', off', none⟩) n kb] w fun e w' => e = .returned (.bool (sameN l m n)) ∧ Below w.heap.size w w' := by
  have hnn : ((n : Int) != (n : Int)) = false := by simp
  go_enter Try.func75, Try.ntmps75
  go_wp2_with fail
  go_loopw [13] (fun i wr => ∃ k : Nat, k ≤ n ∧ i = .int .i64 k ∧ Hid (∀ j, j < k → (na l j == na m j) = true) ∧ Below w.heap.size w wr) (fun i _ => n - (intOf i).toNat)
  case atStart => exact ⟨0, Nat.zero_le _, rfl, fun j hj => absurd hj (by omega), Below.refl _ _⟩
  case round =>
    obtain ⟨k, hk, rfl, hall, hbel⟩ := hrel
    by_cases hlt : k < n
    · have h0 := hbel.cell (p := ⟨b, off + k, none⟩) (World.block_lt_of_cell? w _ (Hc.out k hlt))
      have h2 := hbel.cell (p := ⟨b', off' + k, none⟩) (World.block_lt_of_cell? w _ (Hd.out k hlt))
      rw [Hc.out k hlt] at h0
      rw [Hd.out k hlt] at h2
      have hb0 : (0 : Int) ≤ k := by omega
      have hb1 : (k : Int) < n := by omega
      cases hee : (na l k != na m k)
      · have hall2 : Hid (∀ j, j < k + 1 → (na l j == na m j) = true) := by
          intro j hj
          by_cases hjk : j = k
          · subst hjk; simpa using hee
          · exact hall.out j (by omega)
        go_wp2_with fail
        go_quiet (fail)
        go_wp2_with fail
        go_roundw
        case rel => exact ⟨k + 1, by omega, by go_num, hall2, below_drewN hbel _⟩
        case measure => simp [intOf]; omega
      · have hno : sameN l m n = false := by
          unfold sameN
          rw [List.all_eq_false]
          exact ⟨k, List.mem_range.2 hlt, by simpa using hee⟩
        have Hno := Lib.hid hno
        clear hno
        go_wp2_with fail
        go_quiet (fail)
        go_wp2_with fail
        go_ret
        exact ⟨ret_bool Hno.out.symm, below_drewN hbel _⟩
    · obtain rfl : k = n := by omega
      have hyes : sameN l m k = true := by
        unfold sameN
        rw [List.all_eq_true]
        intro j hj
        exact hall.out j (List.mem_range.1 hj)
      have Hyes := Lib.hid hyes
      clear hyes hall
      go_wp2_with fail
      go_ret
      exact ⟨ret_bool Hyes.out.symm, hbel⟩

theorem l1Same_own {b1 b2 : Nat} (v1 v2 : Value) (l m : List Int) (n : Nat) (w : World) (hn : n = l.length) (hm : n = m.length) (h0 : 0 < n) (hl : n ≤ 1048576) (h1 : w.ownsRow b1 3 1 v1 n (ns l)) (h2 : w.ownsRow b2 3 1 v2 n (ns m)) :
    Calls Try.prog 75 #[v1, v2] w fun e w' => e = .returned (.bool (sameN l m n)) ∧ Below w.heap.size w w' := by
  obtain ⟨ao, ka, rfl, hc⟩ := nums_shape h1 hn
  obtain ⟨bo, kb, rfl, hd⟩ := nums_shape h2 hm
  rcases hc with h | ⟨b, off, rfl, hc⟩
  · subst h; simp at hn; omega
  rcases hd with h | ⟨b', off', rfl, hd⟩
  · subst h; simp at hm; omega
  exact l1Same_pos b off b' off' ka kb l m n w hl (by rw [hn]; exact hc) (by rw [hm]; exact hd)
theorem lePlay_k (F : Nat) (ao : Option Addr) (cap : Nat) (l : List (Int × Int)) (n : Nat) (w : World) (Hn : Hid (n = l.length)) (hg : gdL (F : Int) l = true) (hc : CallsAt w ao l) :
    Calls Try.prog 69 #[.int .i64 F, .slice ao n cap] w fun e w' => ∃ v, e = .returned v ∧ OwnK F (playL F l) v w' ∧ Below w.heap.size w w' :=
  (lePlay_any F ao cap l n w Hn hg hc).mono fun _ _ ⟨v, he, ho, hb⟩ => ⟨v, he, ⟨_, ho⟩, hb⟩
theorem l1Same_k (v1 v2 : Value) (F : Nat) (s t : Nat → Nat) (w : World) (HF : 1 ≤ F ∧ F ≤ 10) (h1 : OwnK F s v1 w) (h2 : OwnK F t v2 w) :
    Calls Try.prog 75 #[v1, v2] w fun e w' => e = .returned (.bool (sameN (kl F s) (kl F t) F)) ∧ Below w.heap.size w w' := by
  obtain ⟨b1, h1⟩ := h1
  obtain ⟨b2, h2⟩ := h2
  exact l1Same_own v1 v2 (kl F s) (kl F t) F w (kl_length _ _).symm (kl_length _ _).symm (by omega) (by omega) h1 h2
theorem sameN_kl (F : Nat) (s t : Nat → Nat) : sameN (kl F s) (kl F t) F = true ↔ ∀ i, i < F → s i = t i := by
  simp only [sameN, List.all_eq_true, List.mem_range, beq_iff_eq]
  constructor
  · intro h i hi
    have := h i hi
    rw [kl_get F s i hi, kl_get F t i hi] at this
    omega
  · intro h i hi
    rw [kl_get F s i hi, kl_get F t i hi, h i hi]

/-- By this letter nobody comes to know anything. -/
def idl (F : Nat) (l : List (Int × Int)) (k : Nat) : Bool := sameN (kl F (playL F (l.take k))) (kl F (playL F (l.take (k + 1)))) F
def idlL (f : Int) (l : List (Int × Int)) : List Int := if gdL f l then ix (idl f.toNat l) l.length else []
theorem idlL_length (f : Int) (l : List (Int × Int)) : (idlL f l).length ≤ 60 := by
  unfold idlL
  cases h : gdL f l
  · simp
  · have h1 := gl_len2 h
    have h2 := ix_le (idl f.toNat l) l.length
    simp only [if_true]
    omega

set_option maxHeartbeats 1600000 in
set_option maxRecDepth 20000 in
theorem specIdleL_yes (w : World) (F : Nat) (ao : Option Addr) (cap : Nat) (l : List (Int × Int)) (n : Nat) (Hn : Hid (n = l.length)) (hs : n ≤ 60) (hcap : n ≤ cap) (HHc : Hid (CallsAt w ao l)) (Hg : Hid (gdL (F : Int) l = true)) (hff : 1 ≤ (F : Int) ∧ (F : Int) ≤ 10) :
    Calls Try.prog 33 #[.int .i64 F, .slice ao n cap] w fun e w' => ∃ v, e = .returned (.tuple #[v, .bool true]) ∧ w'.ownsRow w.heap.size 3 1 v (ix (idl F l) n).length (ns (ix (idl F l) n)) ∧ Below w.heap.size w w' := by
  obtain ⟨i0, hi, hz0, hz1, hz2⟩ := info_parts info3
  have HF : Hid (1 ≤ F ∧ F ≤ 10) := ⟨by omega, by omega⟩
  go_enter Try.func33, Try.ntmps33
  go_wp2_with fail
  refine (leGood_any F ao cap l n w Hn.out (by omega) HHc.out).mono ?_
  rintro e w1 ⟨rfl, hb1⟩
  rw [Hg.out]
  go_wp2_with fail
  go_loopw [6, 14] (fun v i wr => ∃ k : Nat, k ≤ n ∧ i = .int .i64 k ∧ wr.ownsRow w.heap.size 3 1 v (ix (idl F l) k).length (ns (ix (idl F l) k)) ∧ Below w.heap.size w wr) (fun _ i _ => n - (intOf i).toNat)
  case atStart => exact ⟨0, Nat.zero_le _, rfl, World.ownsRow_nil _ _ _ _, hb1⟩
  case round =>
    obtain ⟨k, hk, rfl, hor, hbel⟩ := hrel
    by_cases hlt : k < n
    · have hle := ix_le (idl F l) k
      have Hor := Lib.hid hor
      have hkc : k + 1 ≤ cap := by omega
      have Hk1 : Hid (k + 1 = (l.take (k + 1)).length) := by show k + 1 = _; rw [List.length_take, ← Hn.out]; omega
      have Hk0 : Hid (k = (l.take k).length) := by show k = _; rw [List.length_take, ← Hn.out]; omega
      have Hg1 := Lib.hid (gl_take Hg.out (k + 1))
      have Hg0 := Lib.hid (gl_take Hg.out k)
      have hCA : CA ao l k wr := ⟨calls_take (HHc.out.kept hbel) (k + 1), calls_take (HHc.out.kept hbel) k⟩
      have HCA := Lib.hid hCA
      have e1 : IntKind.i64.wrap ((k : Int) + 1) = (k : Int) + 1 := IntWalk.i64_in _ (by omega)
      have e2 : (0 : Int) ≤ (k : Int) + 1 := by omega
      have e3 : ((k : Int) + 1).toNat = k + 1 := by omega
      have e4 : (k : Int) + 1 ≤ (cap : Int) := by omega
      have e5 : (0 : Int) ≤ (k : Int) := by omega
      have e6 : (k : Int) ≤ (cap : Int) := by omega
      clear hCA hor
      go_wp2_with fail
      go_region_held3 (fun w' => CA ao l k w' ∧ Below wr.heap.size wr w')
        (first
          | exact ⟨HCA.out, (Below.refl _ _).drew⟩
          | (go_split_ands
             refine ⟨?_, ?_⟩
             · exact CA.kept (by assumption) hb2
             · exact Below.trans (by assumption) (hb2.mono (Below.size (by assumption))))
          | go_keep)
        (first
          | (go_at_call 69; (with_reducible refine (lePlay_k F ao cap (l.take (k + 1)) (k + 1) _ Hk1 Hg1.out ?_).mono ?_); (go_split_ands; exact CA.left (by assumption)); rintro e w2 ⟨vA, rfl, ownA, hb2⟩)
          | (go_at_call 69; (with_reducible refine (lePlay_k F ao cap (l.take k) k _ Hk0 Hg0.out ?_).mono ?_); (go_split_ands; exact CA.right (by assumption)); rintro e w2 ⟨vB, rfl, ownB, hb2⟩)
          | (go_at_call 75; (with_reducible refine (l1Same_k vB vA F (playL F (l.take k)) (playL F (l.take (k + 1))) _ HF.out ?_ ?_).mono ?_); (first | exact ownB | exact ownB.later hb2 | fail); (first | exact ownA | exact ownA.later hb2 | fail); rintro e w2 ⟨rfl, hb2⟩)
          | fail)
      all_goals
        rename_i hh
        have hbb : Below wr.heap.size wr w2 := hh.2
        clear hh
        have hb6 : Below w.heap.size w w2 := hbel.trans (hbb.mono hbel.size)
        have Ho5 := Lib.hid (own_later Hor.out hbb)
        cases ht : idl F l k
        · have hz := Ho5.out
          rw [← ix_no (idl F l) k ht] at hz
          have Hz := Lib.hid hz
          have htest : sameN (kl F (playL F (l.take k))) (kl F (playL F (l.take (k + 1)))) F = false := ht
          clear ht hz
          rw [htest]
          go_wp2_with fail
          go_roundw
          case rel => exact ⟨k + 1, by omega, by go_num, Hz.out, hb6⟩
          case measure => simp [intOf]; omega
        · have Hyes := Lib.hid (ix_yes (idl F l) k ht)
          have htest : sameN (kl F (playL F (l.take k))) (kl F (playL F (l.take (k + 1)))) F = true := ht
          have hs2 := hb6.size
          clear ht
          rw [htest]
          go_wp2_with (at_builtin; refine wpList_append_own _ rfl _ _ 39 rfl w.heap.size 3 i0 (.int .i64 0) 1 8 Try.underlying39 hi hz0 hz1 hz2 rfl (by decide) _ _ _ rfl (Ho5.out.alloc _) ⟨w2.heap.size, 0, none⟩ 1 1 [.int .i64 k] rfl rfl ?c1 ?c2 ?c3 ?c4 ?c5 ?_)
          case c1 => exact World.news_of_block (cs := #[.int .i64 k]) (t := 3) (fr := (0, 0)) (heap_alloc_new _ _)
          case c2 => intro u hu; simp at hu; subst hu; rfl
          case c3 => unfold maxLen; omega
          case c4 => omega
          case c5 => simp; omega
          intro v' w6 hown' hgr _
          have Hown := Lib.hid hown'
          have Hbel := Lib.hid ((hb6.alloc hs2 _).grown hgr (by simp; omega) (fun b hb => (Ho5.out.lt b hb).1))
          clear hown' hgr hb6
          go_wp2_with fail
          go_roundw
          case rel => exact ⟨k + 1, by omega, by go_num, by rw [Hyes.out, ns_append, List.length_append]; exact Hown.out, Hbel.out⟩
          case measure => simp [intOf]; omega
    · obtain rfl : k = n := by omega
      have Hor := Lib.hid hor
      clear hor hlt hk
      go_wp2_with fail
      go_ret2
      exact ⟨_, rfl, Hor.out, hbel⟩

theorem specIdleL_any (w : World) (f : Int) (ao : Option Addr) (cap : Nat) (l : List (Int × Int)) (n : Nat) (Hn : Hid (n = l.length)) (hs : n ≤ 1048576) (Hc : CallsAt w ao l) (hcap : n ≤ cap) :
    Calls Try.prog 33 #[.int .i64 f, .slice ao n cap] w fun e w' => ∃ v, e = .returned (.tuple #[v, .bool (gdL f l)]) ∧ w'.ownsRow w.heap.size 3 1 v (idlL f l).length (ns (idlL f l)) ∧ Below w.heap.size w w' := by
  have HHc := Lib.hid Hc
  clear Hc
  cases hg : gdL f l
  · rw [show idlL f l = [] by simp [idlL, hg]]
    have Hg := Lib.hid hg
    clear hg
    go_enter Try.func33, Try.ntmps33
    go_wp2_with fail
    refine (leGood_any f ao cap l n w Hn.out (by omega) HHc.out).mono ?_
    rintro e w1 ⟨rfl, hb⟩
    rw [Hg.out]
    go_wp2_with fail
    go_ret2
    exact ⟨_, rfl, World.ownsRow_nil _ _ _ _, hb⟩
  · have hff := gl_fr hg
    obtain ⟨F, rfl⟩ := Int.eq_ofNat_of_zero_le (show 0 ≤ f by omega)
    rw [show idlL F l = ix (idl F l) n by simp [idlL, hg, Hn.out]]
    exact specIdleL_yes w F ao cap l n Hn (by rw [Hn.out]; exact gl_len2 hg) hcap HHc hg hff
end Go.Proofs.Ytolkfgjgnpjpkaa
