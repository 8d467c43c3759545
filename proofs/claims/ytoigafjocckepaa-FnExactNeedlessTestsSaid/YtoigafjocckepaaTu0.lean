/- Up to how many broken wires tests tell: what is asked. -/
import Derived.Test.YtoigafjocckepaaGp
import Derived.Maps.Own
import Derived.Maps.OwnOps
import Derived.Maps.OwnSet
import Derived.Maps.Ext
import Derived.Maps.Keyed
import Derived.DeepKeys4
import Derived.StringKeys
namespace Go.Proofs.Ytoigafjocckepaa
open Go.ChangeShapes Go.WideShapes Go.ChangeAt Go.RowKit Go.Maps
set_option linter.unusedVariables false


def tuB (f : Int) (L : List (List Int)) (m : Int) : Bool := wiB f L && decide (0 ≤ m ∧ m ≤ f)
def tuR (f : Int) (L : List (List Int)) (m : Int) : Bool := tuB f L m && decide (m ≤ gt f.toNat L)
def ggR (f : Int) (L : List (List Int)) : Int := if wiB f L then gt f.toNat L else 0
def ggB (f : Int) (L : List (List Int)) : Bool := wiB f L
theorem gtW_le (M : List Nat) (n : Nat) (d : Int) (hd : 0 ≤ d ∧ d ≤ 10) : ∀ (A : List Nat), (∀ x, x ∈ A → x < 1024) → ∀ S, -1 ≤ gtW M n d S A ∧ gtW M n d S A ≤ 10
  | [], _, _ => by unfold gtW; omega
  | x :: r, h, S => by
    unfold gtW
    split
    · have := pc_le (h x (by simp)); omega
    · exact gtW_le M n d hd r (fun y hy => h y (by simp [hy])) _
theorem gt_le {f : Nat} (hf : f ≤ 10) (L : List (List Int)) : -1 ≤ gt f L ∧ gt f L ≤ 10 := gtW_le _ _ _ (by omega) _ (la_lt hf f) _
theorem gt_low {f : Nat} (hf : f ≤ 10) (L : List (List Int)) : 0 ≤ gt f L := by
  have h := gt_tells (f := f) (m := 0) hf (by omega) (bws L) L.length
  have h2 : tlW (bws L) L.length [] (la f 0) = true := by simp [la, tlW]
  rw [h2] at h
  have h3 := of_decide_eq_true h
  unfold gt; omega
theorem gt_high {f : Nat} (hf : f ≤ 10) (L : List (List Int)) : gt f L ≤ f := by
  have key : ∀ (d : Int) (A : List Nat), 0 ≤ d → (∀ x, x ∈ A → (pc x : Int) ≤ d) → ∀ S, gtW (bws L) L.length d S A ≤ d := by
    intro d A hd
    induction A with
    | nil => intro _ S; unfold gtW; exact Int.le_refl _
    | cons x r ih =>
      intro h S
      unfold gtW
      split
      · have := h x (by simp); omega
      · exact ih (fun y hy => h y (by simp [hy])) _
  refine key f (la f f) (by omega) (fun x hx => ?_) []
  have := la_pc hf f x hx
  omega
theorem gt_is {f m : Nat} (hf : f ≤ 10) (hm : m ≤ f) (L : List (List Int)) : tlW (bws L) L.length [] (la f m) = decide ((m : Int) ≤ gt f L) := (gt_tells hf hm _ _).symm

end Go.Proofs.Ytoigafjocckepaa
