/- Up to how many broken wires tests tell: the model. -/
import Derived.Test.YtoigafjocckepaaGp
import Derived.Test.YtoigafjocckepaaWa
import Derived.Test.YtoigafjocckepaaRs2
import Derived.Laws.IdiomStrings
import Derived.Maps.Own
import Derived.Maps.OwnOps
import Derived.Maps.OwnSet
import Derived.Maps.Ext
import Derived.Maps.Keyed
import Derived.DeepKeys4
import Derived.StringKeys
namespace Go.Proofs.Ytoigafjocckepaa
open Go.ChangeShapes Go.WideShapes Go.ChangeAt Go.RowKit Go.Maps
set_option linter.unusedVariables false


/-- The results as a number. -/
def rn (M : List Nat) (x : Nat) : Nat → Nat | 0 => 0 | k + 1 => rn M x k + (if mtB (wa M k) x then 2 ^ k else 0)
theorem rn_lt (M : List Nat) (x : Nat) : ∀ k, rn M x k < 2 ^ k
  | 0 => by simp [rn]
  | k + 1 => by
    have h := rn_lt M x k
    have h2 : 2 ^ (k + 1) = 2 ^ k + 2 ^ k := by rw [Nat.pow_succ]; omega
    unfold rn; split <;> omega
theorem rtx_list (M : List Nat) (x k : Nat) : (rtx M x (k + 1)).data.toList = (rtx M x k).data.toList ++ [if mtB (wa M k) x then 49 else 48] := by
  show (rtx M x k ++ (if mtB (wa M k) x then ⟨#[49]⟩ else ⟨#[48]⟩)).data.toList = _
  split <;> simp
theorem rtx_llen (M : List Nat) (x k : Nat) : (rtx M x k).data.toList.length = k := by
  rw [Array.length_toList]
  exact rtx_size M x k
theorem rn_rtx (M : List Nat) (x y : Nat) : ∀ k, rn M x k = rn M y k ↔ (rtx M x k).data.toList = (rtx M y k).data.toList
  | 0 => by simp [rn, rtx]
  | k + 1 => by
    have ih := rn_rtx M x y k
    have h1 := rn_lt M x k
    have h2 := rn_lt M y k
    rw [rtx_list, rtx_list]
    constructor
    · intro h
      unfold rn at h
      have h3 : (mtB (wa M k) x = mtB (wa M k) y) ∧ rn M x k = rn M y k := by
        cases hx : mtB (wa M k) x <;> cases hy : mtB (wa M k) y <;> simp [hx, hy] at h ⊢ <;> omega
      rw [ih.1 h3.2, h3.1]
    · intro h
      have h3 := List.append_inj' h rfl
      have h4 : mtB (wa M k) x = mtB (wa M k) y := by
        have := h3.2
        cases hx : mtB (wa M k) x <;> cases hy : mtB (wa M k) y <;> simp [hx, hy] at this ⊢
      unfold rn
      rw [ih.2 h3.1, h4]
theorem rn_mem (M : List Nat) (n x : Nat) (A : List Nat) : rn M x n ∈ A.map (fun y => rn M y n) ↔ (rtx M x n).data.toList ∈ A.map (fun y => (rtx M y n).data.toList) := by
  simp only [List.mem_map]
  constructor
  · rintro ⟨y, hy, h⟩; exact ⟨y, hy, (rn_rtx M y x n).1 h⟩
  · rintro ⟨y, hy, h⟩; exact ⟨y, hy, (rn_rtx M y x n).2 h⟩
theorem rtx_at (M : List Nat) (x : Nat) : ∀ n j, j < n → (rtx M x n).data.toList[j]? = some (if mtB (wa M j) x then 49 else 48)
  | 0, j, h => by omega
  | n + 1, j, h => by
    rw [rtx_list]
    by_cases hj : j < n
    · rw [List.getElem?_append_left (by rw [rtx_llen]; exact hj)]; exact rtx_at M x n j hj
    · obtain rfl : j = n := by omega
      rw [List.getElem?_append_right (by rw [rtx_llen]; exact Nat.le_refl _), rtx_llen]; simp
def bsv (f : Nat → Bool) (F : Nat) : List Value := (List.range F).map fun j => Value.bool (f j)
theorem bsv_get {f : Nat → Bool} {F i : Nat} (h : i < F) : (bsv f F)[i]? = some (.bool (f i)) := by simp [bsv, h]
theorem bsv_length (f : Nat → Bool) (F : Nat) : (bsv f F).length = F := by simp [bsv]
def sq (S : List Nat) : Nat → Bool := fun v => decide (v ∈ S)
theorem sq_set {S : List Nat} {C r : Nat} (h : r < C) : (bsv (sq S) C).set r (.bool true) = bsv (sq (S ++ [r])) C := by
  apply List.ext_getElem?
  intro x
  by_cases hx : x < C
  · by_cases e : r = x
    · subst e
      rw [List.getElem?_set_self (by rw [bsv_length]; exact h), bsv_get hx]
      simp [sq]
    · rw [List.getElem?_set_ne e, bsv_get hx, bsv_get hx]
      have : ¬ x = r := fun h => e h.symm
      simp [sq, this]
  · rw [List.getElem?_eq_none (by rw [List.length_set, bsv_length]; omega), List.getElem?_eq_none (by rw [bsv_length]; omega)]
theorem zero_bools (n : Nat) : (madeCells #[.bool false] n).toList = bsv (sq []) n := by
  rw [toList_madeCells_one]
  apply List.ext_getElem?
  intro x
  by_cases hx : x < n
  · rw [bsv_get hx]; simp [sq, hx]
  · simp [bsv, hx]
theorem infoB : (Try.prog.info? 4).map (fun i => (i.zero, i.size, i.bytes)) = some (some (.bool false), 1, 1) := by kernel_rfl
theorem wrap_pow12 : ∀ k : Nat, k < 13 → wrap64 ((2 : Int) ^ k) = ((2 ^ k : Nat) : Int) := by unfold wrap64; decide
theorem pow12 {n : Nat} (h : n ≤ 12) : 2 ^ n ≤ 4096 := Nat.pow_le_pow_right (n := 2) (by decide) h
theorem wL_pos (f : Nat) : ∀ m, 0 < (wL f m).length
  | 0 => by simp [wL, lx]
  | m + 1 => by have := wL_pos f m; simp only [wL, List.length_append]; omega
theorem row_mem {L : List (List Int)} {i : Nat} (h : i < L.length) : row L i ∈ L := by rw [← row_get h]; exact List.getElem_mem h

theorem rn_add (d p : Nat) (h : d < p) (hp : p ≤ 4096) : Value.int .i64 (wrap64 ((d : Int) + (p : Int))) = .int .i64 ((d + p : Nat) : Int) := by
  have e : wrap64 ((d : Int) + (p : Int)) = (d : Int) + (p : Int) := by unfold wrap64; omega
  rw [e, Int.natCast_add]
theorem byte_cell (w : World) (M : List Nat) (x n q j : Nat) (mk : Nat × Nat) (hj : j < n) : ((w.alloc (.cells (bytesRow (rtx M x n) q) 5 mk)).drew).cell? ⟨w.heap.size, j, none⟩ = some (.int .u8 (if mtB (wa M j) x then 49 else 48)) := by
  show (w.alloc (.cells (bytesRow (rtx M x n) q) 5 mk)).cell? ⟨w.heap.size, j, none⟩ = _
  have h1 := rtx_at M x n j hj
  have hs : (rtx M x n).data.size = n := rtx_size M x n
  rw [World.cell?_alloc_mark, bytesRow_at _ _ j (by rw [hs]; exact hj)]
  rw [Array.getElem?_toList, Array.getElem?_eq_getElem (by rw [hs]; exact hj)] at h1
  simp only [Option.some.injEq] at h1
  rw [h1]
  split <;> rfl

set_option maxHeartbeats 3200000 in
set_option maxRecDepth 20000 in
theorem wiTells_any (w : World) (f m : Nat) (hf : f ≤ 10) (hm : m ≤ f) (ao : Option Addr) (cap : Nat) (L : List (List Int)) (n : Nat) (Hn : Hid (n = L.length)) (Hg : Hid (wiB (f : Int) L = true)) (Hc : Hid (RowsAt w ao L)) :
    Calls Try.prog 40 #[.int .i64 (f : Int), .slice ao n cap, .int .i64 (m : Int)] w fun e w' => e = .returned (.bool (tlW (bws L) n [] (la f m))) ∧ Below w.heap.size w w' := by
  obtain ⟨i4, hi4, hz40, hz41, hz42⟩ := info_parts infoB
  have hn12 : n ≤ 12 := by have := (wi_parts Hg.out).2.1; have := Hn.out; omega
  have hw1 := wrap_pow12 n (by omega)
  have hC := pow12 hn12
  obtain ⟨C, hCe⟩ : ∃ C, 2 ^ n = C := ⟨_, rfl⟩
  rw [hCe] at hw1 hC
  have HCe := Lib.hid hCe
  have HAW := Lib.hid (la_wL (f := f) hf m)
  have HLp := wL_pos f m
  have HLn := wL_len hf m
  have HLr := Lib.hid (wL_ris (f := f) m)
  have Hwa := fun W => wiAll_any W f m hf (by omega)
  obtain ⟨A, hA⟩ : ∃ A, la f m = A := ⟨_, rfl⟩
  obtain ⟨LL, hLL⟩ : ∃ LL, wL f m = LL := ⟨_, rfl⟩
  rw [hA, hLL] at HAW
  rw [hLL] at HLp HLn HLr
  simp only [hLL] at Hwa
  rw [hA]
  obtain ⟨M, hM⟩ : ∃ M, bws L = M := ⟨_, rfl⟩
  have HWR := Lib.hid (fun (b : Nat) (hb : b < 1024) (W : World) (h : Hid (RowsAt W ao L)) => wiResults_any ao cap (f : Int) L n b W Hn Hg hb h)
  rw [hM] at HWR
  rw [hM]
  obtain ⟨R, hR⟩ : ∃ R, tlW M n [] A = R := ⟨_, rfl⟩
  rw [hR]
  have HR0 := Lib.hid hR
  obtain ⟨N, hN⟩ : ∃ N, LL.length = N := ⟨_, rfl⟩
  rw [hN] at HLp HLn
  have HN := Lib.hid hN
  have hcv2 := fun w s => run_bytes_of_string (P := Try.prog) w 9 61 5 s Try.underlying9 Try.underlying61 Try.underlying5
  clear hCe hA hLL hM hR hN
  go_enter Try.func40, Try.ntmps40
  go_wp2_with (refine wpList_make_full _ rfl _ _ 74 rfl w.heap.size 4 i4 (.bool false) 1 Try.underlying74 hi4 hz40 hz41 .i64 .i64 _ _ C rfl rfl hw1 hw1 ?_ ?_ ?_ ?_)
  · rw [hz42]; omega
  · unfold maxLen; omega
  · exact Nat.le_refl _
  intro w3 hown hgr
  rw [zero_bools] at hown
  have HS0 := Lib.hid hown
  have hg2 : w.heap.size < w3.heap.size := (hown.lt _ rfl).2
  have Hb3 := Lib.hid ((Below.refl w.heap.size w).grown hgr (Nat.le_refl _) (fun _ h => by cases h))
  obtain ⟨g2, hg2e⟩ : ∃ g2, g2 = w.heap.size := ⟨_, rfl⟩
  have Hg2e := Lib.hid hg2e
  rw [← hg2e] at HS0 hg2 ⊢
  clear hown hgr hg2e hw1 hz40 hz41 hz42 hi4
  go_wp2_with fail
  refine (Hwa w3).mono ?_
  rintro e w4 ⟨v, X, rfl, own4, hb4⟩
  have hs4 := hb4.size
  obtain ⟨g, c, rfl, hgb⟩ := own4.outer (by rw [HN.out]; exact HLp)
  have hob := (own4.1.lt g rfl).2
  rw [HN.out] at own4
  have HO := Lib.hid own4
  have HS4 := Lib.hid (own_later HS0.out hb4)
  have Hb4 := Lib.hid (Hb3.out.trans (hb4.mono Hb3.out.size))
  rw [HN.out]
  obtain ⟨H, hH⟩ : ∃ H, w3.heap.size = H := ⟨_, rfl⟩
  rw [hH] at HO hg2 hgb hs4
  clear own4 hb4 HS0 Hb3 Hwa
  go_wp2_with fail
  go_loopw [21] (fun i wr => ∃ k : Nat, k ≤ N ∧ i = .int .i64 k ∧ wr.ownsRow g2 4 1 (.slice (some ⟨g2, 0, none⟩) C C) C (bsv (sq ((A.take k).map fun x => rn M x n)) C) ∧ Hid (tlW M n ((A.take k).map fun x => (rtx M x n).data.toList) (A.drop k) = R) ∧ OwnSS wr H (.slice (some ⟨g, 0, none⟩) N c) X LL ∧ H ≤ wr.heap.size ∧ Below w.heap.size w wr) (fun i _ => N - (intOf i).toNat)
  case atStart => exact ⟨0, Nat.zero_le _, rfl, HS4.out, HR0, HO.out, hs4, Hb4.out⟩
  case round =>
    obtain ⟨k, hk, rfl, hsr, HR, hor, hHr, hbel⟩ := hrel
    by_cases hlt : k < N
    · have hkL : k < LL.length := by rw [HN.out]; exact hlt
      have hkA : k < A.length := by rw [HAW.out, List.length_map]; exact hkL
      obtain ⟨aa, cc, hX, hcell, hrow⟩ := hor.cellOf HN.out.symm k hkL
      obtain ⟨a2, c2, he, hna⟩ := nums_shape hrow rfl
      cases he
      have hris := HLr.out _ (row_mem hkL)
      have hxk : wa A k = bw (row LL k) := by rw [HAW.out]; exact bws_at LL k hkL
      have htk : (A.take (k + 1)).map (fun x => (rtx M x n).data.toList) = (A.take k).map (fun x => (rtx M x n).data.toList) ++ [(rtx M (wa A k) n).data.toList] := by
        rw [List.take_succ_eq_append_getElem hkA, List.map_append, wa_get A k hkA]; rfl
      have htn : (A.take (k + 1)).map (fun x => rn M x n) = (A.take k).map (fun x => rn M x n) ++ [rn M (wa A k) n] := by
        rw [List.take_succ_eq_append_getElem hkA, List.map_append, wa_get A k hkA]; rfl
      have hdr : A.drop k = wa A k :: A.drop (k + 1) := by rw [List.drop_eq_getElem_cons hkA, wa_get A k hkA]
      have hmem := rn_mem M n (wa A k) (A.take k)
      have hR2 := HR.out
      rw [hdr] at hR2
      unfold tlW at hR2
      rw [hxk] at htk htn hmem hR2
      have hx : bw (row LL k) < 1024 := bw_lt (by omega) hris
      have Hbits := Lib.hid (fun W h => wiBits_any aa cc (f : Int) (by omega) (row LL k) (row LL k).length W rfl hris h)
      obtain ⟨x, hxe⟩ : ∃ x, bw (row LL k) = x := ⟨_, rfl⟩
      rw [hxe] at htk htn hmem hR2 hx
      simp only [hxe] at Hbits
      obtain ⟨m1, hm1⟩ : ∃ q, (row LL k).length = q := ⟨_, rfl⟩
      rw [hm1] at Hbits hcell
      have Htk := Lib.hid htk
      have Htn := Lib.hid htn
      have HR3 := Lib.hid hR2
      have Hmem := Lib.hid hmem
      have Hna := Lib.hid hna
      have hrl := rn_lt M x n
      rw [HCe.out] at hrl
      have hsz := hbel.size
      have hk1 : (0 : Int) ≤ k := by omega
      have hk2 : (k : Int) < N := by omega
      have Hs := Lib.hid hsr
      have Ho := Lib.hid hor
      have Hbel := Lib.hid hbel
      clear hX hrow hris hxk htk htn hdr hmem hR2 hxe hm1 hna hsr hor hbel HR
      go_wp2_with fail
      refine (Hbits.out wr Hna.out).mono ?_
      rintro e w5 ⟨rfl, rfl⟩
      go_wp2_with fail
      refine (HWR.out x hx wr (Lib.hid (Hc.out.kept Hbel.out))).mono ?_
      rintro e w5 ⟨rfl, rfl⟩
      obtain ⟨q5, hq5⟩ : ∃ q, grownCap wr n 0 5 = q := ⟨_, rfl⟩
      have Hq5 := Lib.hid hq5
      obtain ⟨mk, hmk⟩ : ∃ q, ((bytesRow (rtx M x n) q5).size, (bytesRow (rtx M x n) q5).size + 1) = q := ⟨_, rfl⟩
      have Hmk := Lib.hid hmk
      have hcb := fun j (hj : j < n) => byte_cell wr M x n q5 j mk hj
      have bd5 : Below wr.heap.size wr ((wr.alloc (.cells (bytesRow (rtx M x n) q5) 5 mk)).drew) := ((Below.refl _ _).alloc (Nat.le_refl _) _).drew
      have Hs5 := Lib.hid (own_later Hs.out bd5)
      have Ho5 := Lib.hid (Ho.out.later bd5)
      have Hb5 := Lib.hid (Hbel.out.trans (bd5.mono hsz))
      have hH5 := bd5.size
      have hsz5 : (rtx M x n).size = n := rtx_size M x n
      obtain ⟨hb, hhb⟩ : ∃ hb, wr.heap.size = hb := ⟨_, rfl⟩
      have Hhb := Lib.hid hhb
      obtain ⟨Sn, hSn⟩ : ∃ S, (A.take k).map (fun x => rn M x n) = S := ⟨_, rfl⟩
      obtain ⟨S, hS⟩ : ∃ S, (A.take k).map (fun x => (rtx M x n).data.toList) = S := ⟨_, rfl⟩
      rw [hSn] at Hs5 Htn Hmem
      rw [hS] at Htk HR3 Hmem
      clear hq5 hmk hhb hSn hS
      go_wp2_with fail
      rw [Hq5.out, Hmk.out]
      obtain ⟨W5, hW5⟩ : ∃ W5, (wr.alloc (.cells (bytesRow (rtx M x n) q5) 5 mk)).drew = W5 := ⟨_, rfl⟩
      rw [hW5]
      rw [hW5] at Hs5 Ho5 Hb5 hH5
      simp only [hW5] at hcb
      have Hcb := Lib.hid hcb
      have hHr2 : H ≤ W5.heap.size := Nat.le_trans hHr hH5
      rw [Hhb.out] at Hcb hH5 ⊢
      clear hcb bd5 hW5 Hs Ho Hbel hcell Hbits hsz5
      go_loopw [10, 31] (fun v i wq => ∃ q : Nat, q ≤ n ∧ i = .int .i64 q ∧ v = .int .i64 ((rn M x q : Nat) : Int) ∧ W5 = wq) (fun _ i _ => n - (intOf i).toNat)
      case atStart => exact ⟨0, Nat.zero_le _, rfl, rfl, rfl⟩
      case round =>
        obtain ⟨q, hq, rfl, rfl, rfl⟩ := hrel
        by_cases hlt2 : q < n
        · have hc5 := Hcb.out q hlt2
          have hq1 : (0 : Int) ≤ q := by omega
          have hq2 : (q : Int) < n := by omega
          have hrq := rn_lt M x q
          have hp12 := pow12 (n := q) (by omega)
          have hwq := wrap_pow12 q (by omega)
          cases hmt : mtB (wa M q) x
          · have Hrn : Hid (rn M x (q + 1) = rn M x q) := Lib.hid (by show rn M x q + (if mtB (wa M q) x then 2 ^ q else 0) = _; rw [hmt]; rfl)
            rw [hmt] at hc5
            simp only [Bool.false_eq_true, if_false] at hc5
            clear hmt hwq hp12 hrq
            go_wp2_with fail
            go_roundw
            case rel => exact ⟨q + 1, by omega, by go_num, by rw [Hrn.out], by trivial⟩
            case measure => simp [intOf]; omega
          · have Hrn : Hid (rn M x (q + 1) = rn M x q + 2 ^ q) := Lib.hid (by show rn M x q + (if mtB (wa M q) x then 2 ^ q else 0) = _; rw [hmt]; rfl)
            rw [hmt] at hc5
            simp only [if_true] at hc5
            obtain ⟨p, hp⟩ : ∃ p, 2 ^ q = p := ⟨_, rfl⟩
            rw [hp] at Hrn hp12 hwq hrq
            clear hmt hp
            go_wp2_with fail
            go_roundw
            case rel => exact ⟨q + 1, by omega, by go_num, by rw [Hrn.out]; exact rn_add _ _ hrq hp12, by trivial⟩
            case measure => simp [intOf]; omega
        · have hqn : n = q := by omega
          subst hqn
          obtain ⟨r, hr⟩ : ∃ r, rn M x n = r := ⟨_, rfl⟩
          rw [hr] at Htn Hmem hrl ⊢
          have hsc := Hs5.out.cellAt r (by omega)
          rw [bsv_get hrl] at hsc
          have hr1 : (0 : Int) ≤ r := by omega
          have hr2 : (r : Int) < C := by omega
          by_cases hin : r ∈ Sn
          · have hR2 := HR3.out
            rw [if_pos (Hmem.out.1 hin)] at hR2
            have HRf := Lib.hid hR2
            rw [show sq Sn r = true by simpa [sq] using hin] at hsc
            clear hin hR2 hr
            go_wp2_with fail
            go_ret
            exact ⟨ret_bool HRf.out, Hb5.out⟩
          · have hR2 := HR3.out
            rw [if_neg (fun h => hin (Hmem.out.2 h)), ← Htk.out] at hR2
            have HR4 := Lib.hid hR2
            rw [show sq Sn r = false by simpa [sq] using hin] at hsc
            have hout := Hs5.out
            obtain ⟨u0, z0⟩ := own_some hout r (by omega)
            have zf0 := hout.frozenAt r
            have hst := hout.stored r (.bool true)
            rw [sq_set hrl, ← Htn.out] at hst
            have Hst := Lib.hid hst.1
            have Hos := Lib.hid (Ho5.out.kept hst.2 (fun b hb => by cases hb; exact hg2))
            have Hbs : Hid (Below w.heap.size w (W5.setCell ⟨g2, r, none⟩ (.bool true))) := Lib.hid (Hb5.out.setCell (by show w.heap.size ≤ g2; rw [Hg2e.out]; exact Nat.le_refl _) _)
            have hss : (W5.setCell ⟨g2, r, none⟩ (.bool true)).heap.size = W5.heap.size := by simp
            clear hin hR2 hr hst hout
            go_wp2_with fail
            go_roundw
            case rel => exact ⟨k + 1, by omega, by go_num, Hst.out, HR4, Hos.out, by rw [hss]; exact hHr2, Hbs.out⟩
            case measure => simp [intOf]; omega
    · have hkn : N = k := by omega
      subst hkn
      have hd : A.drop N = [] := List.drop_eq_nil_of_le (by rw [HAW.out, List.length_map, HN.out]; exact Nat.le_refl _)
      have hR2 := HR.out
      rw [hd] at hR2
      unfold tlW at hR2
      have HRf := Lib.hid hR2
      clear hsr hor hd hR2 HR
      go_wp2_with fail
      go_ret
      exact ⟨ret_bool HRf.out, hbel⟩

end Go.Proofs.Ytoigafjocckepaa
