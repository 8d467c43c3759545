/- The clues that are needed: pure; one clue more; Concat of clues in blocks of their own. -/
import Derived.Test.YtmgmkgjefplfdaaWo
import Derived.Test.YtmgmkgjefplfdaaRc
import Derived.Test.YtmgmkgjefplfdaaSlc
import Derived.Test.YtmgmkgjefplfdaaCat
import Derived.Laws.AppendOwnNone
namespace Go.Proofs.Ytmgmkgjefplfdaa
open Go.ChangeShapes Go.WideShapes Go.ChangeAt Go.RowKit
set_option linter.unusedVariables false

set_option maxHeartbeats 1600000 in
set_option maxRecDepth 20000 in
theorem concat2_any (w : World) (a cap : Nat) (A B : List Clu) (V : Nat → Option Addr) (N C : Nat → Nat) (hcap : 2 ≤ cap)
    (HN : Hid (∀ k, k < 2 → N k = (pc2 A B k).length ∧ N k ≤ 20))
    (HS : Hid (∀ k, k < 2 → w.cell? ⟨a, k, none⟩ = some (.slice (V k) (N k) (C k))))
    (HA : Hid (∀ k, k < 2 → (V k = none ∧ N k = 0 ∧ C k = 0) ∨ ∃ b o, V k = some ⟨b, o, none⟩ ∧ ∀ i, i < (pc2 A B k).length → Sat4 w b o (pc2 A B k) i)) :
    Calls Try.prog 95 #[.slice (some ⟨a, 0, none⟩) 2 cap] w fun e w' => ∃ v, e = .returned v ∧ w'.ownsRow w.heap.size 25 4 v (A ++ B).length (ks (A ++ B)) ∧ Below w.heap.size w w' := by
  obtain ⟨i0, hi, hz0, hz1, hz2⟩ := info_parts infoCL
  have Hlen : Hid (∀ k, (cat2 A B k).length ≤ 40) := Lib.hid (fun k => by
    have h0 := HN.out 0 (by omega)
    have h1 := HN.out 1 (by omega)
    have h2 := cat2_len A B k
    have e0 : (pc2 A B 0).length = A.length := rfl
    have e1 : (pc2 A B 1).length = B.length := rfl
    omega)
  have hcap2 : (2 : Int) ≤ (cap : Int) := by omega
  go_enter Try.func95, Try.ntmps95
  go_wp2_with fail
  go_loopw [3, 11] (fun v i wr => ∃ k m : Nat, k ≤ 2 ∧ i = .int .i64 k ∧ v = .int .i64 (m : Int) ∧ Hid (m = (cat2 A B k).length) ∧ Below w.heap.size w wr) (fun _ i _ => 2 - (intOf i).toNat)
  case atStart => exact ⟨0, 0, by omega, rfl, rfl, Lib.hid rfl, Below.refl _ _⟩
  case round =>
    obtain ⟨k, m, hk, rfl, rfl, HM, hbel⟩ := hrel
    have hm40 : m ≤ 40 := by rw [HM.out]; exact Hlen.out k
    by_cases hlt : k < 2
    · have h0 := (hbel.cell (p := ⟨a, k, none⟩) (World.block_lt_of_cell? w _ (HS.out k hlt))).trans (HS.out k hlt)
      have hk0 : (0 : Int) ≤ k := by omega
      have hk2 : (k : Int) < 2 := by omega
      obtain ⟨q, hq⟩ : ∃ q, N k = q := ⟨_, rfl⟩
      have hNk := HN.out k hlt
      rw [hq] at h0 hNk
      have Hsucc : Hid (m + q = (cat2 A B (k + 1)).length) := Lib.hid (by rw [cat2_succ A B k hlt, List.length_append, ← HM.out, hNk.1])
      have hq20 := hNk.2
      have hd : decide ((m : Int) + (q : Int) < 0) = false := by simp only [decide_eq_false_iff_not]; omega
      clear hNk hq HM
      go_wp2_with fail
      go_roundw
      case rel => exact ⟨k + 1, m + q, by omega, by go_num, by go_num, Hsucc, hbel⟩
      case measure => simp [intOf]; omega
    · have hs := hbel.size
      clear HM
      go_wp2_with fail
      refine (grow_any _ wr (by omega)).mono ?_
      rintro e w1 ⟨v0, rfl, own0, hb1⟩
      have Hown0 := Lib.hid (own_base hs own0)
      have hbel1 : Below w.heap.size w w1 := hbel.trans (hb1.mono hs)
      clear own0 hb1 hbel hk
      go_wp2_with fail
      go_loopw [6, 27] (fun v i wr => ∃ k m : Nat, k ≤ 2 ∧ i = .int .i64 k ∧ Hid (m = (cat2 A B k).length) ∧ wr.ownsRow w.heap.size 25 4 v m (ks (cat2 A B k)) ∧ Below w.heap.size w wr) (fun _ i _ => 2 - (intOf i).toNat)
      case atStart => exact ⟨0, 0, by omega, rfl, Lib.hid rfl, Hown0.out, hbel1⟩
      case round =>
        obtain ⟨k, m, hk, rfl, HM, hor, hbel⟩ := hrel
        have hm40 : m ≤ 40 := by rw [HM.out]; exact Hlen.out k
        by_cases hlt : k < 2
        · have h0 := (hbel.cell (p := ⟨a, k, none⟩) (World.block_lt_of_cell? w _ (HS.out k hlt))).trans (HS.out k hlt)
          have hs := hbel.size
          have hk0 : (0 : Int) ≤ k := by omega
          have hk2 : (k : Int) < 2 := by omega
          have hNk := HN.out k hlt
          rcases HA.out k hlt with ⟨hV, h0n, h0c⟩ | ⟨b, o, hV, hsat⟩
          · rw [hV, h0n, h0c] at h0
            have hnil : pc2 A B k = [] := List.eq_nil_of_length_eq_zero (by rw [← hNk.1, h0n])
            have Hsame : Hid (cat2 A B (k + 1) = cat2 A B k) := Lib.hid (by rw [cat2_succ A B k hlt, hnil, List.append_nil])
            have Hor := Lib.hid hor
            have Hbel := Lib.hid hbel
            clear hor hbel hNk hV hnil h0n h0c
            go_wp2_with (at_builtin; refine wpList_append_own_none rfl _ _ 33 rfl w.heap.size 25 i0 4 Try.underlying33 hi _ m (ks (cat2 A B k)) rfl Hor.out rfl ?_)
            clear h0
            go_wp2_with fail
            go_roundw
            case rel => exact ⟨k + 1, m, by omega, by go_num, Lib.hid (by rw [Hsame.out]; exact HM.out), by rw [Hsame.out]; exact Hor.out, Hbel.out⟩
            case measure => simp [intOf]; omega
          · have HAk := Lib.hid (clues_news (fun i hi => (hsat i hi).kept hbel))
            rw [hV] at h0
            have Hcs := Lib.hid (cat2_succ A B k hlt)
            have HLn : Hid ((ks (pc2 A B k)).length = N k * 4) := Lib.hid (by rw [ks_length, hNk.1])
            obtain ⟨q, hq⟩ : ∃ q, N k = q := ⟨_, rfl⟩
            rw [hq] at h0 hNk HLn
            have hq20 := hNk.2
            have Hq := Lib.hid hNk.1
            obtain ⟨p, hp⟩ : ∃ p, pc2 A B k = p := ⟨_, rfl⟩
            rw [hp] at HAk Hcs HLn Hq
            obtain ⟨c, hc⟩ : ∃ c, C k = c := ⟨_, rfl⟩
            rw [hc] at h0
            have Hor := Lib.hid hor
            have Hbel := Lib.hid hbel
            clear hor hbel hNk hq hp hc hV hsat
            go_wp2_with (at_builtin; refine wpList_append_own _ rfl _ _ 33 rfl w.heap.size 25 i0 (.agg #[.int .i64 0, .int .i64 0, .int .i64 0, .int .i64 0]) 4 32 Try.underlying33 hi hz0 hz1 hz2 rfl (by omega) _ m (ks (cat2 A B k)) rfl Hor.out ⟨b, o, none⟩ q c (ks p) rfl HLn.out HAk.out (ks_one _) (by unfold maxLen; omega) (by omega) hs ?_)
            intro v1 w2 own1 gr1 _
            have Hown : Hid (w2.ownsRow w.heap.size 25 4 v1 (m + q) (ks (cat2 A B (k + 1)))) := Lib.hid (by rw [Hcs.out, ks_append]; exact own1)
            have Hb2 := Lib.hid (Hbel.out.grown gr1 hs (fun b hb => (Hor.out.lt b hb).1))
            have HM2 : Hid (m + q = (cat2 A B (k + 1)).length) := Lib.hid (by rw [Hcs.out, List.length_append, ← HM.out, ← Hq.out])
            clear own1 gr1 h0
            go_wp2_with fail
            go_roundw
            case rel => exact ⟨k + 1, m + q, by omega, by go_num, HM2, Hown.out, Hb2.out⟩
            case measure => simp [intOf]; omega
        · have hk2 : k = 2 := by omega
          subst hk2
          have Hor : Hid (wr.ownsRow w.heap.size 25 4 u6 (A ++ B).length (ks (A ++ B))) := Lib.hid (by have h := hor; rw [HM.out] at h; exact h)
          clear hor
          go_wp2_with fail
          go_ret
          exact ⟨_, rfl, Hor.out, hbel⟩

/-- The clues that are needed, of the first ones. -/
def hpA (F M : Nat) (l : List Clu) : Nat → List Clu
  | 0 => []
  | k + 1 => if (sol F M (hpA F M l k ++ l.drop (k + 1))).length = 1 then hpA F M l k else hpA F M l k ++ [(k0 l k, k1 l k, k2 l k, k3 l k)]
theorem hpA_len (F M : Nat) (l : List Clu) : ∀ k, (hpA F M l k).length ≤ k
  | 0 => Nat.le_refl _
  | k + 1 => by have := hpA_len F M l k; unfold hpA; split <;> simp <;> omega
theorem hpA_all {F M : Nat} {l : List Clu} {p : Clu → Bool} (h : l.all p = true) : ∀ k, k ≤ l.length → (hpA F M l k).all p = true
  | 0, _ => rfl
  | k + 1, hk => by
    have ih := hpA_all (F := F) (M := M) h k (by omega)
    unfold hpA
    split
    · exact ih
    · rw [List.all_append, ih, ← k_get l k (by omega)]
      rw [List.all_eq_true] at h
      simp [h l[k] (List.getElem_mem _)]
theorem drop_all {l : List Clu} {p : Clu → Bool} (h : l.all p = true) (k : Nat) : (l.drop k).all p = true := by
  rw [List.all_eq_true] at h ⊢
  exact fun q hq => h q (List.mem_of_mem_drop hq)
theorem hpA_rest {F M : Nat} {l : List Clu} {p : Clu → Bool} (h : l.all p = true) (k m : Nat) (hk : k ≤ l.length) : (hpA F M l k ++ l.drop m).all p = true := by
  rw [List.all_append, hpA_all h k hk, drop_all h m]; rfl
theorem drop_get (l : List Clu) (k : Nat) (h : k < l.length) : l.drop k = (k0 l k, k1 l k, k2 l k, k3 l k) :: l.drop (k + 1) := by
  rw [← k_get l k h]; exact List.drop_eq_getElem_cons h
/-- The model's list without the clue behind the needed ones. -/
theorem less_mid (A l : List Clu) (k : Nat) (h : k < l.length) : less (A ++ l.drop k) A.length = A ++ l.drop (k + 1) := by
  unfold less
  rw [drop_get l k h]
  rw [List.take_left, ← List.drop_drop, List.drop_left]; rfl
theorem good_le6 {f n : Int} {l : List Clu} (h : goodB f n l = true) : l.length ≤ 6 := by
  simp only [goodB, Bool.and_eq_true, decide_eq_true_eq] at h
  exact h.2.1
def hpB (f n : Int) (l : List Clu) : Bool := goodB f n l && ((sol f.toNat n.toNat l).length : Int) == 1
def hpF (f n : Int) (l : List Clu) : Int := if hpB f n l then f else 0
def hpG (f n : Int) (l : List Clu) : Int := if hpB f n l then n else 0
def hpL (f n : Int) (l : List Clu) : List Clu := if hpB f n l then hpA f.toNat n.toNat l l.length else []
theorem hpL_len (f n : Int) (l : List Clu) : (hpL f n l).length ≤ 1048576 := by
  unfold hpL
  split
  · rename_i h
    have hg : goodB f n l = true := by unfold hpB at h; simp at h; exact h.1
    have h6 := good_le6 hg
    have := hpA_len f.toNat n.toNat l l.length
    omega
  · simp
theorem hpB_false {f n : Int} {l : List Clu} (h : hpB f n l = false) : hpF f n l = 0 ∧ hpG f n l = 0 ∧ hpL f n l = [] := by simp [hpF, hpG, hpL, h]
theorem hpB_true {f n : Int} {l : List Clu} (h : hpB f n l = true) : hpF f n l = f ∧ hpG f n l = n ∧ hpL f n l = hpA f.toNat n.toNat l l.length := by simp [hpF, hpG, hpL, h]
/-- Where the clues of a value lie that owns them, or that it holds none. -/
theorem own_lies {w : World} {base : Nat} {v : Value} {n : Nat} {l : List Clu} (h : w.ownsRow base 25 4 v n (ks l)) (hn : n = l.length) :
    ∃ V C, v = .slice V n C ∧ ((V = none ∧ n = 0 ∧ C = 0) ∨ ∃ b, V = some ⟨b, 0, none⟩ ∧ ∀ i, i < l.length → Sat4 w b 0 l i) := by
  obtain ⟨ao, ca, rfl, hc, h0, _⟩ := kown_shape h hn
  refine ⟨ao, ca, rfl, ?_⟩
  rcases h.2 with ⟨h', _⟩ | ⟨g, cap, cur, h', _⟩
  · simp only [Value.slice.injEq] at h'
    exact .inl ⟨h'.1, h'.2.1, h'.2.2⟩
  · simp only [Value.slice.injEq] at h'
    obtain ⟨rfl, _, rfl⟩ := h'
    exact .inr ⟨g, rfl, fun i hi => clues_sat hc hn i (by omega)⟩
/-- One clue more. -/
theorem push_clue {P : Program} (w : World) {ops : Array Oper} {rest : List Oper} {o : Oper} {a : Act} {Q : Exit → Act → World → Prop} (hgd : o.guard = none) (s x : Operand) (t : TypeId)
    (ho : o.op = .call { callee := .builtin .append, args := #[s, x], argTypes := #[t, t] })
    (base : Nat) (i : TypeInfo) (ht : P.underlying t = some (.slice 25)) (hi : P.info? 25 = some i) (hz : i.zero = some (.agg #[.int .i64 0, .int .i64 0, .int .i64 0, .int .i64 0]))
    (hsize : i.size = 4) (hby : i.bytes = 32)
    (v : Value) (l : List Clu) (k : Nat) (hs : a.eval s = v) (hown : w.ownsRow base 25 4 v k (ks l)) (hsml : k ≤ 1000000)
    (q : Clu) (c : Nat) (ad : Nat) (hx : a.eval x = .slice (some ⟨ad, 0, none⟩) 1 c) (had : w.heap[ad]? = some (.cells #[.int .i64 q.1, .int .i64 q.2.1, .int .i64 q.2.2.1, .int .i64 q.2.2.2] 25 (0, 0))) (hbase : base ≤ w.heap.size)
    (h : ∀ v' w', w'.ownsRow base 25 4 v' (k + 1) (ks (l ++ [q])) → w.grownBy w' v.ownBlock → wpList P ops Q rest (a.put o.dst v') w') : wpList P ops Q (o :: rest) a w := by
  refine wpList_append_lies w hgd s x t ho base 25 i (.agg #[.int .i64 0, .int .i64 0, .int .i64 0, .int .i64 0]) 4 32 ht hi hz hsize hby rfl (by decide) v k (ks l) hs hown ⟨ad, 0, none⟩ 1 c [.int .i64 q.1, .int .i64 q.2.1, .int .i64 q.2.2.1, .int .i64 q.2.2.2] hx rfl (World.news_of_block had) ?_ (by omega) (by unfold maxLen; omega) (by omega) hbase w.heap.size rfl ?_
  · intro u hu
    simp at hu
    rcases hu with rfl | rfl | rfl | rfl <;> rfl
  · intro g cap w' hown' hgr hat _
    rw [show ks l ++ [.int .i64 q.1, .int .i64 q.2.1, .int .i64 q.2.2.1, .int .i64 q.2.2.2] = ks (l ++ [q]) by rw [ks_append]; rfl] at hown'
    exact h _ w' hown' hgr

end Go.Proofs.Ytmgmkgjefplfdaa
