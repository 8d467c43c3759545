/- All names, each once: the model and the program. -/
import Derived.Test.YtoaobdeigangfaaAn
namespace Go.Proofs.Ytoaobdeigangfaa
open Go.ChangeShapes Go.WideShapes Go.ChangeAt Go.RowKit
set_option linter.unusedVariables false

theorem own_cap {w : World} {base : Nat} {e : TypeId} {size g n m cap : Nat} {xs : List Value} (h : w.ownsRow base e size (.slice (some ⟨g, 0, none⟩) n cap) m xs) : n ≤ cap := by
  rcases h.2 with ⟨h', _⟩ | ⟨g', cap', cur, h', _, _, hnc, _⟩
  · simp at h'
  · simp only [Value.slice.injEq] at h'
    obtain ⟨_, h2, h3⟩ := h'
    omega

theorem isFriend_yes (f x : Int) (w : World) (h1 : 0 ≤ x) (h2 : x < f) : Calls Try.prog 71 #[.int .i64 f, .int .i64 x] w fun e w' => e = .returned (.bool true) ∧ w = w' := by
  go_enter Try.func71, Try.ntmps71
  go_wp2
  go_ret
  exact ⟨rfl, rfl⟩

theorem isFriend_no (f x : Int) (w : World) (h : ¬ (0 ≤ x ∧ x < f)) : Calls Try.prog 71 #[.int .i64 f, .int .i64 x] w fun e w' => e = .returned (.bool false) ∧ w = w' := by
  by_cases h1 : 0 ≤ x
  · have hd : decide (x < f) = false := by simp; omega
    go_enter Try.func71, Try.ntmps71
    go_wp2
    go_ret
    exact ⟨by simp, rfl⟩
  · go_enter Try.func71, Try.ntmps71
    go_wp2
    go_ret
    exact ⟨rfl, rfl⟩

theorem wrap_pow : ∀ k : Nat, k < 12 → IntKind.u16.wrap ((2 : Int) ^ k) = ((2 ^ k : Nat) : Int) := by decide

theorem bits_or_nat (x y : Nat) (hx : x < 4096) (hy : y < 4096) : bits BinOp.or IntKind.u16 x y = ((x ||| y : Nat) : Int) := by
  have hx2 : x ||| y < 2 ^ 12 := Nat.or_lt_two_pow (n := 12) hx hy
  have h1 : (BitVec.ofInt 16 (x : Int)).toNat = x := by
    rw [BitVec.ofInt_natCast, BitVec.toNat_ofNat]; exact Nat.mod_eq_of_lt (by omega)
  have h2 : (BitVec.ofInt 16 (y : Int)).toNat = y := by
    rw [BitVec.ofInt_natCast, BitVec.toNat_ofNat]; exact Nat.mod_eq_of_lt (by omega)
  show IntKind.u16.wrap ((BitVec.ofInt 16 (x : Int) ||| BitVec.ofInt 16 (y : Int)).toNat : Int) = _
  rw [BitVec.toNat_or, h1, h2, IntKind.wrap_u16]
  omega

theorem bits_and_nat (x y : Nat) (hx : x < 4096) (hy : y < 4096) : bits BinOp.and IntKind.u16 x y = ((x &&& y : Nat) : Int) := by
  have hx2 : x &&& y < 2 ^ 12 := Nat.and_lt_two_pow (n := 12) _ hy
  have h1 : (BitVec.ofInt 16 (x : Int)).toNat = x := by
    rw [BitVec.ofInt_natCast, BitVec.toNat_ofNat]; exact Nat.mod_eq_of_lt (by omega)
  have h2 : (BitVec.ofInt 16 (y : Int)).toNat = y := by
    rw [BitVec.ofInt_natCast, BitVec.toNat_ofNat]; exact Nat.mod_eq_of_lt (by omega)
  show IntKind.u16.wrap ((BitVec.ofInt 16 (x : Int) &&& BitVec.ofInt 16 (y : Int)).toNat : Int) = _
  rw [BitVec.toNat_and, h1, h2, IntKind.wrap_u16]
  omega

theorem wrap_pow16 : ∀ k : Nat, k < 12 → IntKind.u16.wrap ((2 : Int) ^ k) = ((2 ^ k : Nat) : Int) := wrap_pow

theorem pow_small : ∀ k : Nat, k < 12 → 2 ^ k < 4096 := by decide

theorem and_pow (n x : Nat) : n &&& 2 ^ x = if n.testBit x then 2 ^ x else 0 := by
  apply Nat.eq_of_testBit_eq
  intro i
  rw [Nat.testBit_and, Nat.testBit_two_pow]
  by_cases h : x = i
  · subst h
    cases hb : n.testBit x <;> simp [Nat.testBit_two_pow_self]
  · cases hb : n.testBit x <;> simp [h]

theorem has_test (n x : Nat) (hn : n < 4096) (hx : x < 12) : (bits BinOp.and IntKind.u16 (n : Int) (IntKind.u16.wrap (2 ^ x)) != 0) = n.testBit x := by
  rw [wrap_pow16 x hx, bits_and_nat n (2 ^ x) hn (pow_small x hx), and_pow]
  have hp : 0 < 2 ^ x := Nat.two_pow_pos x
  cases n.testBit x
  · simp
  · simp only [if_true]; rw [bne_iff_ne]; omega

theorem has_any (n x : Nat) (w : World) (hn : n < 4096) (hx : x < 12) :
    Calls Try.prog 72 #[.int .u16 n, .int .i64 x] w fun e w' => e = .returned (.bool (n.testBit x)) ∧ w = w' := by
  have HT := Lib.hid (has_test n x hn hx)
  go_enter Try.func72, Try.ntmps72
  go_wp2
  go_ret
  exact ⟨ret_bool HT.out, rfl⟩

/-- Each of the first k lies within bounds. -/
def inTo (lo hi : Int) (l : List Int) (k : Nat) : Bool := (List.range k).all fun i => decide (lo ≤ na l i ∧ na l i ≤ hi)

set_option maxRecDepth 20000 in
theorem l1All_pos (b off cap : Nat) (l : List Int) (n : Nat) (lo hi : Int) (w : World) (hn : n ≤ 1048576)
    (Hc : Hid (∀ i, i < n → w.cell? ⟨b, off + i, none⟩ = some (.int .i64 (na l i)))) :
    Calls Try.prog 64 #[.slice (some ⟨b, off, none⟩) n cap, .int .i64 lo, .int .i64 hi] w fun e w' => e = .returned (.bool (inTo lo hi l n)) ∧ w = w' := by
  go_enter Try.func64, Try.ntmps64
  go_wp2_with fail
  go_loop [11] (fun i => ∃ k : Nat, k ≤ n ∧ i = .int .i64 k ∧ Hid (∀ j, j < k → decide (lo ≤ na l j ∧ na l j ≤ hi) = true)) (fun i => n - (intOf i).toNat)
  case atStart => exact ⟨0, Nat.zero_le _, rfl, fun j hj => absurd hj (by omega)⟩
  case round =>
    obtain ⟨k, hk, rfl, hall⟩ := hrel
    by_cases hlt : k < n
    · have h0 := Hc.out k hlt
      go_wp2_with fail
      refine (l1In_any (na l k) lo hi w).mono ?_
      rintro e w' ⟨rfl, rfl⟩
      cases ht : decide (lo ≤ na l k ∧ na l k ≤ hi)
      · have hno : inTo lo hi l n = false := by
          unfold inTo
          rw [List.all_eq_false]
          exact ⟨k, List.mem_range.2 hlt, by simp [ht]⟩
        have Hno := Lib.hid hno
        clear hno ht
        go_wp2_with fail
        go_ret
        exact ⟨ret_bool Hno.out.symm, rfl⟩
      · have hall2 : Hid (∀ j, j < k + 1 → decide (lo ≤ na l j ∧ na l j ≤ hi) = true) := by
          intro j hj
          by_cases hjk : j = k
          · subst hjk; exact ht
          · exact hall.out j (by omega)
        clear ht
        go_wp2_with fail
        go_round
        case rel => exact ⟨k + 1, by omega, by go_num, hall2⟩
        case measure => simp [intOf]; omega
    · obtain rfl : k = n := by omega
      have hyes : inTo lo hi l k = true := by
        unfold inTo
        rw [List.all_eq_true]
        exact fun j hj => hall.out j (List.mem_range.1 hj)
      have Hyes := Lib.hid hyes
      clear hyes
      go_wp2_with fail
      go_ret
      exact ⟨ret_bool Hyes.out.symm, rfl⟩

/-- No name is told twice among the first k. -/
def onceTo (l : List Int) (k : Nat) : Bool := (List.range k).all fun i => !seen l i (na l i)

def specNam (f : Int) (l : List Int) : Bool := decide ((l.length : Int) = f) && (inTo 0 (f - 1) l l.length && onceTo l l.length)

/-- Each of the first k names is a friend, and none is told twice. -/
def namTo (f : Int) (l : List Int) (k : Nat) : Bool := (List.range k).all fun i => decide (0 ≤ na l i ∧ na l i < f) && !seen l i (na l i)

def namB (f : Int) (l : List Int) : Bool := decide ((l.length : Int) = f) && namTo f l l.length

set_option maxRecDepth 20000 in
theorem caNames_pos (b off cap : Nat) (l : List Int) (n : Nat) (f : Int) (w : World) (Hn : Hid (n = l.length)) (hn : n ≤ 1048576) (hcap : n ≤ cap) (h0 : 0 < n) (hf : 1 ≤ f) (hf2 : f ≤ 12)
    (Hc : Hid (∀ i, i < n → w.cell? ⟨b, off + i, none⟩ = some (.int .i64 (na l i)))) :
    Calls Try.prog 57 #[.int .i64 f, .slice (some ⟨b, off, none⟩) n cap] w fun e w' => e = .returned (.bool (specNam f l)) ∧ w = w' := by
  cases hl : decide ((n : Int) = f)
  · have hR : specNam f l = false := by simp [specNam, ← Hn.out]; intro h; simp [h] at hl
    rw [hR]
    have ht : ((n : Int) != f) = true := by simpa using hl
    clear hl hR
    go_enter Try.func57, Try.ntmps57
    go_wp2_with fail
    go_ret
    exact ⟨rfl, rfl⟩
  · have hlf : (n : Int) = f := by simpa using hl
    have ht : ((n : Int) != f) = false := by simpa using hlf
    cases hi : inTo 0 (f - 1) l n
    · have hR : specNam f l = false := by simp [specNam, ← Hn.out, hi]
      rw [hR]
      have Hi := Lib.hid hi
      clear hl hR hi hlf
      go_enter Try.func57, Try.ntmps57
      go_wp2_with fail
      refine (l1All_pos b off cap l n 0 (f - 1) w hn Hc).mono ?_
      rintro e w' ⟨rfl, rfl⟩
      rw [Hi.out]
      go_wp2_with fail
      go_ret
      exact ⟨rfl, rfl⟩
    · have hR : specNam f l = onceTo l n := by simp [specNam, ← Hn.out, hi, hlf]
      rw [hR]
      have Hi := Lib.hid hi
      clear hl hR hi hlf
      go_enter Try.func57, Try.ntmps57
      go_wp2_with fail
      refine (l1All_pos b off cap l n 0 (f - 1) w hn Hc).mono ?_
      rintro e w' ⟨rfl, rfl⟩
      rw [Hi.out]
      go_wp2_with fail
      go_loop [20] (fun i => ∃ k : Nat, k ≤ n ∧ i = .int .i64 k ∧ Hid (∀ j, j < k → (!seen l j (na l j)) = true)) (fun i => n - (intOf i).toNat)
      case atStart => exact ⟨0, Nat.zero_le _, rfl, fun j hj => absurd hj (by omega)⟩
      case round =>
        obtain ⟨k, hk, rfl, hall⟩ := hrel
        by_cases hlt : k < n
        · have hc0 := Hc.out k hlt
          have hkc : k ≤ cap := by omega
          go_wp2_with fail
          refine (l1Has_pos b off cap l k (na l k) w (by omega) (fun i hi => Hc.out i (by omega))).mono ?_
          rintro e w' ⟨rfl, rfl⟩
          cases hs : seen l k (na l k)
          · have hall2 : Hid (∀ j, j < k + 1 → (!seen l j (na l j)) = true) := by
              intro j hj
              by_cases hjk : j = k
              · subst hjk; simp [hs]
              · exact hall.out j (by omega)
            clear hs
            go_wp2_with fail
            go_round
            case rel => exact ⟨k + 1, by omega, by go_num, hall2⟩
            case measure => simp [intOf]; omega
          · have hno : onceTo l n = false := by
              unfold onceTo
              rw [List.all_eq_false]
              exact ⟨k, List.mem_range.2 hlt, by simp [hs]⟩
            have Hno := Lib.hid hno
            clear hno hs
            go_wp2_with fail
            go_ret
            exact ⟨ret_bool Hno.out.symm, rfl⟩
        · obtain rfl : k = n := by omega
          have hyes : onceTo l k = true := by
            unfold onceTo
            rw [List.all_eq_true]
            exact fun j hj => hall.out j (List.mem_range.1 hj)
          have Hyes := Lib.hid hyes
          clear hyes
          go_wp2_with fail
          go_ret
          exact ⟨ret_bool Hyes.out.symm, rfl⟩

set_option maxRecDepth 20000 in
theorem caNames_zero (ao : Option Addr) (cap : Nat) (f : Int) (w : World) (hf : 1 ≤ f) :
    Calls Try.prog 57 #[.int .i64 f, .slice ao 0 cap] w fun e w' => e = .returned (.bool false) ∧ w = w' := by
  have ht : ((0 : Int) != f) = true := by rw [bne_iff_ne]; omega
  go_enter Try.func57, Try.ntmps57
  go_wp2_with fail
  go_ret
  exact ⟨rfl, rfl⟩

theorem caNames_any (ao : Option Addr) (cap : Nat) (l : List Int) (n : Nat) (f : Int) (w : World) (Hn : Hid (n = l.length)) (hn : n ≤ 1048576) (hcap : n ≤ cap) (hf : 1 ≤ f) (hf2 : f ≤ 12) (hc : NumsAt w ao l) :
    Calls Try.prog 57 #[.int .i64 f, .slice ao n cap] w fun e w' => e = .returned (.bool (specNam f l)) ∧ w = w' := by
  by_cases h0 : n = 0
  · subst h0
    have hl : l = [] := List.eq_nil_of_length_eq_zero Hn.out.symm
    have hR : specNam f l = false := by simp [specNam, hl]; intro h; omega
    rw [hR]
    exact caNames_zero ao cap f w hf
  · rcases hc with h | ⟨b, off, rfl, hc⟩
    · subst h; exact absurd Hn.out h0
    · exact caNames_pos b off cap l n f w Hn hn hcap (by omega) hf hf2 (by rw [Hn.out]; exact hc)

/-- The set of the first k names. -/
def msk (l : List Int) : Nat → Nat | 0 => 0 | k + 1 => msk l k ||| 2 ^ (na l k).toNat

theorem msk_lt (l : List Int) : ∀ k, (∀ j, j < k → 0 ≤ na l j ∧ na l j < 12) → msk l k < 4096 := by
  intro k
  induction k with
  | zero => intro _; simp [msk]
  | succ k ih =>
    intro h
    have h1 := ih (fun j hj => h j (by omega))
    have h2 := h k (by omega)
    exact Nat.or_lt_two_pow (n := 12) h1 (pow_small _ (by omega))

theorem msk_seen (l : List Int) (x : Nat) (hx : x < 12) : ∀ k, (∀ j, j < k → 0 ≤ na l j ∧ na l j < 12) → (msk l k).testBit x = seen l k x := by
  intro k
  induction k with
  | zero => intro _; simp [msk, seen]
  | succ k ih =>
    intro h
    have h1 := ih (fun j hj => h j (by omega))
    have h2 := h k (by omega)
    have e : seen l (k + 1) x = (seen l k x || (na l k == (x : Int))) := by simp [seen, List.range_succ]
    rw [e, msk, Nat.testBit_or, h1, Nat.testBit_two_pow]
    congr 1
    rw [Bool.eq_iff_iff]
    simp
    omega

theorem namB_eq (f : Int) (l : List Int) : namB f l = specNam f l := by
  unfold namB specNam
  congr 1
  rw [Bool.eq_iff_iff]
  simp only [namTo, inTo, onceTo, Bool.and_eq_true, List.all_eq_true, List.mem_range, decide_eq_true_eq]
  constructor
  · intro h
    exact ⟨fun i hi => ⟨(h i hi).1.1, by have := (h i hi).1.2; omega⟩, fun i hi => (h i hi).2⟩
  · intro h i hi
    exact ⟨⟨(h.1 i hi).1, by have := (h.1 i hi).2; omega⟩, h.2 i hi⟩

set_option maxRecDepth 20000 in
theorem nameAll_pos (b off cap : Nat) (l : List Int) (n : Nat) (f : Int) (w : World) (Hn : Hid (n = l.length)) (hn : n ≤ 1048576) (h0 : 0 < n) (hf : 1 ≤ f) (hf2 : f ≤ 12)
    (Hc : Hid (∀ i, i < n → w.cell? ⟨b, off + i, none⟩ = some (.int .i64 (na l i)))) :
    Calls Try.prog 58 #[.int .i64 f, .slice (some ⟨b, off, none⟩) n cap] w fun e w' => e = .returned (.bool (namB f l)) ∧ w = w' := by
  cases hl : decide ((n : Int) = f)
  · have hR : namB f l = false := by simp [namB, ← Hn.out]; intro h; simp [h] at hl
    rw [hR]
    have ht : ((n : Int) != f) = true := by simpa using hl
    clear hl hR
    go_enter Try.func58, Try.ntmps58
    go_wp2_with fail
    go_ret
    exact ⟨rfl, rfl⟩
  · have hlf : (n : Int) = f := by simpa using hl
    have ht : ((n : Int) != f) = false := by simpa using hlf
    have hR : namB f l = namTo f l n := by simp [namB, ← Hn.out, hlf]
    rw [hR]
    clear hl hR hlf
    go_enter Try.func58, Try.ntmps58
    go_wp2_with fail
    go_loop [5, 14] (fun v i => ∃ k : Nat, k ≤ n ∧ i = .int .i64 k ∧ v = .int .u16 (msk l k) ∧ Hid (∀ j, j < k → (decide (0 ≤ na l j ∧ na l j < f) && !seen l j (na l j)) = true)) (fun _ i => n - (intOf i).toNat)
    case atStart => exact ⟨0, Nat.zero_le _, rfl, rfl, fun j hj => absurd hj (by omega)⟩
    case round =>
      obtain ⟨k, hk, rfl, rfl, hall⟩ := hrel
      have Hr : Hid (∀ j, j < k → 0 ≤ na l j ∧ na l j < 12) := by
        intro j hj
        have := hall.out j hj
        simp only [Bool.and_eq_true, decide_eq_true_eq] at this
        omega
      by_cases hlt : k < n
      · have hc0 := Hc.out k hlt
        by_cases hfr : 0 ≤ na l k ∧ na l k < f
        · obtain ⟨X, hX⟩ := Int.eq_ofNat_of_zero_le hfr.1
          have hX10 : X < 12 := by omega
          have hm := msk_lt l k Hr.out
          have hms := msk_seen l X hX10 k Hr.out
          have hfX : (X : Int) < f := by omega
          have hsucc : msk l (k + 1) = msk l k ||| 2 ^ X := by simp [msk, hX]
          have Hor := Lib.hid (bits_or_nat (msk l k) (2 ^ X) hm (pow_small X hX10))
          have Hwp := Lib.hid (wrap_pow16 X hX10)
          have HX := Lib.hid hX
          rw [hX] at hc0
          have Hms := Lib.hid hms
          have Hsucc := Lib.hid hsucc
          clear hX hms hsucc hfr
          go_wp2_with fail
          refine (isFriend_yes f X w (by omega) hfX).mono ?_
          rintro e w' ⟨rfl, rfl⟩
          go_wp2_with fail
          refine (has_any (msk l k) X w hm hX10).mono ?_
          rintro e w' ⟨rfl, rfl⟩
          rw [Hms.out]
          cases hs : seen l k X
          · have hall2 : Hid (∀ j, j < k + 1 → (decide (0 ≤ na l j ∧ na l j < f) && !seen l j (na l j)) = true) := by
              intro j hj
              by_cases hjk : j = k
              · subst hjk
                rw [HX.out, hs]
                simp
                omega
              · exact hall.out j (by omega)
            clear hs
            go_wp2_with fail
            go_round
            case rel => exact ⟨k + 1, by omega, by go_num, by rw [Hwp.out, Hor.out, Hsucc.out], hall2⟩
            case measure => simp [intOf]; omega
          · have hno : namTo f l n = false := by
              unfold namTo
              rw [List.all_eq_false]
              exact ⟨k, List.mem_range.2 hlt, by rw [HX.out, hs]; simp⟩
            have Hno := Lib.hid hno
            clear hno hs
            go_wp2_with fail
            go_ret
            exact ⟨ret_bool Hno.out.symm, rfl⟩
        · have hno : namTo f l n = false := by
            unfold namTo
            rw [List.all_eq_false]
            exact ⟨k, List.mem_range.2 hlt, by simp [hfr]⟩
          have Hno := Lib.hid hno
          have Hfr := Lib.hid hfr
          clear hno hfr
          go_wp2_with fail
          refine (isFriend_no f (na l k) w Hfr.out).mono ?_
          rintro e w' ⟨rfl, rfl⟩
          go_wp2_with fail
          go_ret
          exact ⟨ret_bool Hno.out.symm, rfl⟩
      · obtain rfl : k = n := by omega
        have hyes : namTo f l k = true := by
          unfold namTo
          rw [List.all_eq_true]
          exact fun j hj => hall.out j (List.mem_range.1 hj)
        have Hyes := Lib.hid hyes
        clear hyes
        go_wp2_with fail
        go_ret
        exact ⟨ret_bool Hyes.out.symm, rfl⟩

set_option maxRecDepth 20000 in
theorem nameAll_zero (ao : Option Addr) (cap : Nat) (f : Int) (w : World) (hf : 1 ≤ f) :
    Calls Try.prog 58 #[.int .i64 f, .slice ao 0 cap] w fun e w' => e = .returned (.bool false) ∧ w = w' := by
  have ht : ((0 : Int) != f) = true := by rw [bne_iff_ne]; omega
  go_enter Try.func58, Try.ntmps58
  go_wp2_with fail
  go_ret
  exact ⟨rfl, rfl⟩

theorem nameAll_any (ao : Option Addr) (cap : Nat) (l : List Int) (n : Nat) (f : Int) (w : World) (Hn : Hid (n = l.length)) (hn : n ≤ 1048576) (hf : 1 ≤ f) (hf2 : f ≤ 12) (hc : NumsAt w ao l) :
    Calls Try.prog 58 #[.int .i64 f, .slice ao n cap] w fun e w' => e = .returned (.bool (specNam f l)) ∧ w = w' := by
  by_cases h0 : n = 0
  · subst h0
    have hl : l = [] := List.eq_nil_of_length_eq_zero Hn.out.symm
    have hR : specNam f l = false := by simp [specNam, hl]; intro h; omega
    rw [hR]
    exact nameAll_zero ao cap f w hf
  · rcases hc with h | ⟨b, off, rfl, hc⟩
    · subst h; exact absurd Hn.out h0
    · rw [← namB_eq]
      exact nameAll_pos b off cap l n f w Hn hn (by omega) hf hf2 (by rw [Hn.out]; exact hc)

end Go.Proofs.Ytoaobdeigangfaa
