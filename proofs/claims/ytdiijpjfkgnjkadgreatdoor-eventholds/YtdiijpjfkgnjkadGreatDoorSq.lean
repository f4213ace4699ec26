/-
  What is proved here: plain facts on the days of a rule in all: period by period, cut at an end, passed over; no program is named.
-/
import Derived.Test.YtdiijpjfkgnjkadGreatDoorPer
namespace Go.Proofs.YtdiijpjfkgnjkadGreatDoor
open Cal Txt

/-- Days of so many periods from the k-th on, as far as they do not begin behind t. -/
def fl (r : Rl) (s t : Int) : Nat → Int → List Int
  | 0, _ => []
  | n + 1, k => match pE r s k with
    | none => []
    | some (a, b) => if t < a then [] else perD r s a b ++ fl r s t n (k + 1)
/-- .. of all of them. -/
def flat (r : Rl) (s t k : Int) : List Int := fl r s t (109574 - k).toNat k
theorem fl_none {r : Rl} {s t k : Int} (h : pE r s k = none) : ∀ n, fl r s t n k = []
  | 0 => rfl
  | n + 1 => by
    show (match pE r s k with | none => [] | some (a, b) => if t < a then [] else perD r s a b ++ fl r s t n (k + 1)) = _
    rw [h]
theorem flat_none {r : Rl} {s t k : Int} (h : pE r s k = none) : flat r s t k = [] := fl_none h _
theorem flat_some {r : Rl} {s t k a b : Int} (h : pE r s k = some (a, b)) : flat r s t k = if t < a then [] else perD r s a b ++ flat r s t (k + 1) := by
  obtain ⟨_, hk, _, _⟩ := pE_some h
  unfold flat
  rw [show (109574 - k).toNat = (109574 - (k + 1)).toNat + 1 by omega]
  show (match pE r s k with | none => [] | some (a, b) => if t < a then [] else perD r s a b ++ fl r s t _ (k + 1)) = _
  rw [h]
theorem flat_far {r : Rl} {s t k a b : Int} (h : pE r s k = some (a, b)) (ht : t < a) : flat r s t k = [] := by rw [flat_some h, if_pos ht]
theorem flat_on {r : Rl} {s t k a b : Int} (h : pE r s k = some (a, b)) (ht : a ≤ t) : flat r s t k = perD r s a b ++ flat r s t (k + 1) := by rw [flat_some h, if_neg (by omega)]
end Go.Proofs.YtdiijpjfkgnjkadGreatDoor
