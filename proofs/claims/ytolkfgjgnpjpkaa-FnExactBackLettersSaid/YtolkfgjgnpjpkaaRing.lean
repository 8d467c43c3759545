/- Letters around: the model and the program. -/
import Derived.Test.YtolkfgjgnpjpkaaGood
namespace Go.Proofs.Ytolkfgjgnpjpkaa
open Go.ChangeShapes Go.WideShapes Go.ChangeAt Go.RowKit

/-- An append to a row of the call's own, as a step of a region that draws; nothing may be appended too. -/
theorem step_append_mine {P : Program} (w : World) {ops : Array Oper} {o : Oper} {a : Act} {K : Act → World → Prop} {Q : Exit → Act → World → Prop} {E : Prop} (hgd : o.guard = none) (s x : Operand) (t : TypeId)
    (ho : o.op = .call { callee := .builtin .append, args := #[s, x], argTypes := #[t, t] })
    (base : Nat) (e : TypeId) (i : TypeInfo) (z : Value) (size bytes : Nat) (ht : P.underlying t = some (.slice e)) (hi : P.info? e = some i) (hz : i.zero = some z)
    (hsize : i.size = size) (hby : i.bytes = bytes) (hzs : z.cells.size = size) (hsz : 0 < size)
    (v : Value) (n : Nat) (xs : List Value) (hs : a.eval s = v) (hown : w.ownsRow base e size v n xs)
    (ad : Addr) (m c : Nat) (news : List Value) (hx : a.eval x = .slice (some ad) m c) (hl : news.length = m * size) (hnews : ∀ j u, news[j]? = some u → w.cell? (ad.add j) = some u) (h1 : ∀ u ∈ news, u.oneCell' = true)
    (h63 : n + m ≤ maxLen) (hbytes : (n + m) * bytes ≤ 140737488355328) (hbase : base ≤ w.heap.size)
    (h : ∀ v' w', w'.ownsRow base e size v' (n + m) (xs ++ news) → w.grownBy w' v.ownBlock → K (a.put o.dst v') w') :
    if Region.wanted o (yielded ops a.tmps) = true then Oper.wp P o a w K Q else E := by
  have hw : Region.wanted o (yielded ops a.tmps) = true := by simp [Region.wanted, hgd]
  rw [if_pos hw]
  exact wp_append_own w s x t ho base e i z size bytes ht hi hz hsize hby hzs hsz v n xs hs hown ad m c news hx hl hnews h1 h63 hbytes hbase fun v' w' h2 h3 _ => h v' w' h2 h3
/-- The first m letters around. -/
def ringL (F m : Nat) : List (Int × Int) := (List.range m).map fun (k : Nat) => ((k : Int).tmod F, ((k : Int) + 1).tmod F)
theorem ringL_length (F m : Nat) : (ringL F m).length = m := by simp [ringL]
theorem ringL_succ (F m : Nat) : ringL F (m + 1) = ringL F m ++ [((m : Int).tmod F, ((m : Int) + 1).tmod F)] := by simp [ringL, List.range_succ]

set_option maxRecDepth 20000 in
theorem specRing_yes (F : Nat) (w : World) (h1 : 1 ≤ F) (h2 : F ≤ 10) :
    Calls Try.prog 53 #[.int .i64 F] w fun e w' => ∃ v, e = .returned (.tuple #[v, .bool true]) ∧ w'.ownsRow w.heap.size 62 2 v (2 * (F - 1)) (cs (ringL F (2 * (F - 1)))) ∧ Below w.heap.size w w' := by
  obtain ⟨i0, hi, hz0, hz1, hz2⟩ := info_parts info62
  have Hfr : Hid (frB (F : Int) = true) := by show _ = _; simp [frB]; omega
  have hF0 : ¬ F = 0 := by omega
  have hF2 : ¬ (F : Int) = 0 := by omega
  go_enter Try.func53, Try.ntmps53
  go_wp2_with fail
  refine (caFriends_any F w).mono ?_
  rintro e w' ⟨rfl, rfl⟩
  rw [Hfr.out]
  go_wp2_with fail
  go_loopw [4, 5] (fun v i wr => ∃ k : Nat, k ≤ 2 * (F - 1) ∧ i = .int .i64 k ∧ wr.ownsRow w.heap.size 62 2 v k (cs (ringL F k)) ∧ Below w.heap.size w wr) (fun _ i _ => 2 * (F - 1) - (intOf i).toNat)
  case atStart => exact ⟨0, Nat.zero_le _, rfl, World.ownsRow_nil _ _ _ _, Below.refl _ _⟩
  case round =>
    obtain ⟨k, hk, rfl, hor, hbel⟩ := hrel
    by_cases hlt : k < 2 * (F - 1)
    · have hsz := hbel.size
      have hk0 : 0 ≤ (k : Int) := by omega
      have hk1 : 0 ≤ (k : Int) + 1 := by omega
      have Hor := Lib.hid hor
      clear hor
      obtain ⟨x, hx⟩ : ∃ x, x = (k : Int).tmod F := ⟨_, rfl⟩
      obtain ⟨y, hy⟩ : ∃ y, y = ((k : Int) + 1).tmod F := ⟨_, rfl⟩
      have HNEW : Hid (∀ j u, [Value.int .i64 x, .int .i64 y][j]? = some u → (wr.alloc (.cells #[.int .i64 x, .int .i64 y] 62)).drew.cell? ((⟨wr.heap.size, 0, none⟩ : Addr).add j) = some u) := World.news_of_block (cs := #[.int .i64 x, .int .i64 y]) (t := 62) (fr := (0, 0)) (heap_alloc_new _ _)
      have HONE : Hid (∀ u ∈ [Value.int .i64 x, .int .i64 y], u.oneCell' = true) := by intro u hu; simp at hu; rcases hu with rfl | rfl <;> rfl
      have Hstep : Hid (ringL F (k + 1) = ringL F k ++ [(x, y)]) := by rw [hx, hy]; exact ringL_succ F k
      have hw1 : IntKind.i64.wrap ((k : Int) + 1) = (k : Int) + 1 := IntWalk.i64_in _ (by omega)
      have hx2 := hx.symm
      have hy2 := hy.symm
      clear hx hy
      have HB0 : Hid (∀ o, Below w.heap.size w (wr.alloc o).drew) := fun o => (hbel.alloc hsz _).drew
      have HO0 : Hid ((wr.alloc (.cells #[.int .i64 x, .int .i64 y] 62)).drew.ownsRow w.heap.size 62 2 u4 k (cs (ringL F k))) := (Hor.out.alloc _).drew
      go_wp2_with fail
      go_region_held3 (fun w' => Below w.heap.size w w')
        (first | exact hbel.drew | exact hbel | exact (HB0.out _) | assumption | go_keep)
        (first
          | (refine step_append_mine _ (by rfl) _ _ _ (by rfl) w.heap.size 62 i0 _ 2 16 Try.underlying25 hi hz0 hz1 hz2 rfl (by omega) _ k (cs (ringL F k)) (by rfl) HO0.out ⟨wr.heap.size, 0, none⟩ 1 _ [.int .i64 x, .int .i64 y] (by rfl) (by rfl) HNEW.out HONE.out (by unfold maxLen; omega) (by omega) (by simp; omega) ?_
             intro v1 w1 own1 gr1
             have hb1 : Below w.heap.size w w1 := (HB0.out _).grown gr1 (by simp; omega) (fun b hb => (Hor.out.lt b hb).1))
          | fail)
      have Hown := Lib.hid own1
      have Hbel := Lib.hid hb1
      clear own1 hb1 hbel
      go_wp2_with fail
      go_roundw
      case rel => exact ⟨k + 1, by omega, by go_num, by rw [Hstep.out, cs_append]; exact Hown.out, Hbel.out⟩
      case measure => simp [intOf]; omega
    · obtain rfl : k = 2 * (F - 1) := by omega
      have Hor := Lib.hid hor
      clear hor
      go_wp2_with fail
      go_ret2
      exact ⟨_, rfl, Hor.out, hbel⟩

end Go.Proofs.Ytolkfgjgnpjpkaa
