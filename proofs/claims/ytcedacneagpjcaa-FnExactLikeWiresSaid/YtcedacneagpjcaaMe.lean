/- A map from labels to lists: an entry looked at and stored. -/
import Derived.Test.YtcedacneagpjcaaTe
import Derived.WideKeyEntry
import Derived.Maps.RangeWalk
namespace Go.Proofs.Ytcedacneagpjcaa
open Go.ChangeShapes Go.WideShapes Go.ChangeAt Go.RowKit Go.Maps
set_option linter.unusedVariables false


open Go.ChangeMaps (setBlock heap_setBlock_same heap_setBlock_other)

/-- An element is held as the value that it is. -/
def RV (v : Value) : Option (DataW Value × List MemPlace) := some (.held v, [])

theorem klaw_lb : WideMaps.KeyLaw Try.prog 60 := deep_law_laid Facts.laidOut (m := 2) (by omega) (of_decide_eq_true (by kernel_rfl)) (by kernel_rfl) (by kernel_rfl)

/-- No list yet. -/
def nlV : Value := .slice none 0 0

/-- 'm[k] op= ..': the entry is looked at (or laid), other blocks turn, and the entry is stored. -/
theorem entry_lb {w : World} {b n : Nat} {D : DataW Value} (h : w.ownsMap Try.prog 60 RV b n D) (hn : n < maxLen) {key : Value} {kl : Lit} (hkey : keyOf Try.prog 60 key = some kl) :
    ∃ (v0 : Value) (st : Nat) (w1 : World), (Instr.mapEntry 53 (.map (some b)) key).run Try.prog w = .ok (.tuple #[v0, .int .i64 (st : Int)]) w1 ∧ D.atKey kl (.held nlV) = .held v0 ∧ w.grownBy w1 (some b) ∧ w1.heap.size = w.heap.size ∧
      ∀ (w2 : World) (row : Option Nat), w1.grownBy w2 row → some b ≠ row → ∀ val : Value, ∃ w3, (Instr.entryStore 53 (.map (some b)) (.int .i64 (st : Int)) val).run Try.prog w2 = .ok () w3 ∧ w3.ownsMap Try.prog 60 RV b (n + 1) (D.put kl (.held val)) ∧ w2.grownBy w3 (some b) ∧ w3.heap.size = w2.heap.size := by
  have h0 := h
  obtain ⟨es, clock, hb, F, hs, hD⟩ := h
  have hz : ∀ u : World, (zeroValue 22).run Try.prog u = .ok (.slice none 0 0) u := fun u => Try.zeroValue22 u
  obtain ⟨v0, st, es1, clock1, hrun, hv, hback⟩ := WideElems.entry_then_store klaw_lb Try.underlying53 hz hb F hkey
  have hbl : b < w.heap.size := (Array.getElem?_eq_some_iff.1 hb).1
  refine ⟨v0, st, setBlock w b (.map es1 clock1), hrun, ?_, ⟨rfl, rfl, rfl, by simp [setBlock], fun i _ hi => heap_setBlock_other hb _ (fun e => hi (by rw [e]))⟩, by simp [setBlock], ?_⟩
  · rw [hD]
    rcases Maps.fit_look (w := w) false law_lb Try.underlying53 (hz w) hb F hkey with ⟨_, hnone, hat⟩ | ⟨e0, y, he0, hk0, hl0, hR, hat, _⟩
    · rw [hat]
      rcases hv with ⟨e1, h1, h2, h3⟩ | ⟨_, h3⟩
      · exact absurd h2 (hnone e1 h1)
      · rw [h3]; rfl
    · rw [hat]
      have hy : y.1 = .held e0.val := by
        unfold RV at hR
        simp only [Option.some.injEq] at hR
        rw [← hR]
      rw [hy]
      rcases hv with ⟨e1, h1, h2, h3⟩ | ⟨h4, _⟩
      · obtain ⟨s1, s2, s3⟩ := F.stamped
        have : e0 = e1 := entry_eq_of_key (List.pairwise_map.1 s3) he0 h1 (by rw [hk0, h2])
        rw [this, h3]
      · exact absurd hk0 (h4 e0 he0)
  · intro w2 row hg hne val
    have hb2 : w2.heap[b]? = some (.map es1 clock1) := (hg.block b (by simpa [setBlock] using hbl) hne).trans (heap_setBlock_same hb _)
    obtain ⟨es', clock', hst, hup⟩ := hback w2 val hb2
    obtain ⟨w', hup2, hown, _⟩ := World.ownsMap.update h0 law_lb Try.underlying53 hn hkey (show RV val = some (.held val, []) from rfl)
    rw [hup] at hup2
    simp only [Result.ok.injEq, true_and] at hup2
    subst hup2
    obtain ⟨es2, clock2, hb3, F3, hs3, hD3⟩ := hown
    rw [heap_setBlock_same hb _] at hb3
    simp only [Option.some.injEq, Obj.map.injEq] at hb3
    obtain ⟨rfl, rfl⟩ := hb3
    exact ⟨_, hst, ⟨es', clock', heap_setBlock_same hb2 _, F3, hs3, hD3⟩, ⟨rfl, rfl, rfl, by simp [setBlock], fun i _ hi => heap_setBlock_other hb2 _ (fun e => hi (by rw [e]))⟩, by simp [setBlock]⟩

end Go.Proofs.Ytcedacneagpjcaa
