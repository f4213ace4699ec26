/-
  What is proved here: plain facts on the first of THE DAYS of a rule, as SeqHolds asks them; no program is named.
-/
import Derived.Test.YtcillnphabddaacDoorSqDays
import Derived.Test.YtcillnphabddaacDoorSqNext
namespace Go.Proofs.YtcillnphabddaacDoor
open Go.RowKit Cal Txt

theorem getD_app_left {A B : List Int} {i : Nat} (h : i < A.length) : (A ++ B).getD i 0 = A.getD i 0 := by
  rw [List.getD_eq_getElem?_getD, List.getD_eq_getElem?_getD, List.getElem?_append_left h]
theorem getD_mem {l : List Int} {i : Nat} (h : i < l.length) : l.getD i 0 ∈ l := by
  rw [List.getD_eq_getElem?_getD, List.getElem?_eq_getElem h]
  exact List.getElem_mem h
theorem rise_lt {l : List Int} (h : l.Pairwise (· < ·)) {i j : Nat} (hij : i < j) (hj : j < l.length) : l.getD i 0 < l.getD j 0 := by
  rw [List.getD_eq_getElem?_getD, List.getD_eq_getElem?_getD, List.getElem?_eq_getElem hj, List.getElem?_eq_getElem (show i < l.length by omega)]
  exact List.pairwise_iff_getElem.1 h i j _ hj hij
theorem getD_tk {l : List Int} {n i : Nat} (h : i < (l.take n).length) : (l.take n).getD i 0 = l.getD i 0 := by
  rw [List.getD_eq_getElem?_getD, List.getD_eq_getElem?_getD, List.getElem?_take_of_lt (by simp at h; omega)]
theorem rise_split {l : List Int} (h : l.Pairwise (· < ·)) {i : Nat} (hi : i < l.length) : (∀ x ∈ l.take (i + 1), x ≤ l.getD i 0) ∧ (∀ x ∈ l.drop (i + 1), l.getD i 0 < x) := by
  refine ⟨fun x hx => ?_, fun x hx => ?_⟩
  · obtain ⟨j, hj, rfl⟩ := List.mem_iff_getElem.1 hx
    have e : (l.take (i + 1))[j] = l.getD j 0 := by
      rw [List.getElem_take, List.getD_eq_getElem?_getD, List.getElem?_eq_getElem (by simp at hj; omega)]
      rfl
    rw [e]
    simp at hj
    rcases Nat.lt_or_ge j i with q | q
    · exact Int.le_of_lt (rise_lt h q hi)
    · rw [show j = i by omega]
      exact Int.le_refl _
  · obtain ⟨j, hj, rfl⟩ := List.mem_iff_getElem.1 hx
    have e : (l.drop (i + 1))[j] = l.getD (i + 1 + j) 0 := by
      rw [List.getElem_drop, List.getD_eq_getElem?_getD, List.getElem?_eq_getElem (by simp at hj; omega)]
      rfl
    rw [e]
    exact rise_lt h (by omega) (by simp at hj; omega)
/-- The next one is the next. -/
theorem next_is {r : Rl} {s : Int} (h : sf r s = 0) {i : Nat} (hi : i + 1 < (DAYS r s).length) : (btL r s ((DAYS r s).getD i 0) 109573).find? (fun n => decide ((DAYS r s).getD i 0 < n)) = some ((DAYS r s).getD (i + 1) 0) := by
  rw [btL_eq h]
  obtain ⟨a, b⟩ := rise_split (DAYS_rise r s) (show i < (DAYS r s).length by omega)
  have lt := rise_lt (DAYS_rise r s) (show i < i + 1 by omega) hi
  have top := (DAYS_in h (getD_mem hi)).2.1
  have e : DAYS r s = (DAYS r s).take (i + 1) ++ (DAYS r s).getD (i + 1) 0 :: (DAYS r s).drop (i + 1 + 1) := by
    rw [show (DAYS r s).getD (i + 1) 0 = (DAYS r s)[i + 1] by rw [List.getD_eq_getElem?_getD, List.getElem?_eq_getElem hi]; rfl, ← List.drop_eq_getElem_cons hi, List.take_append_drop]
  generalize (DAYS r s).getD i 0 = x at a b lt ⊢
  generalize (DAYS r s).getD (i + 1) 0 = y at lt top e ⊢
  rw [e, List.filter_append, List.find?_append]
  rw [List.find?_eq_none.2 (fun z hz => by
    have := a z (List.mem_filter.1 hz).1
    simp; omega)]
  rw [List.filter_cons_of_pos (by simp; omega), List.find?_cons_of_pos (by simpa using lt)]
  rfl
theorem has_is {r : Rl} {s x : Int} (h : sf r s = 0) (hx : x ∈ DAYS r s) : btL r s x x ≠ [] := by
  rw [btL_eq h]
  intro e
  have : x ∈ (DAYS r s).filter (fun y => decide (x ≤ y ∧ y ≤ x)) := List.mem_filter.2 ⟨hx, by simp⟩
  rw [e] at this
  cases this
/-- Those up to the last of them are just those. -/
theorem upto_is {r : Rl} {s : Int} (h : sf r s = 0) {j : Nat} (hj : j < (DAYS r s).length) : btL r s s ((DAYS r s).getD j 0) = (DAYS r s).take (j + 1) := by
  rw [btL_eq h]
  obtain ⟨a, b⟩ := rise_split (DAYS_rise r s) hj
  have inn : ∀ x ∈ DAYS r s, s ≤ x := fun x hx => (DAYS_in h hx).1
  have e : DAYS r s = (DAYS r s).take (j + 1) ++ (DAYS r s).drop (j + 1) := (List.take_append_drop _ _).symm
  generalize hx : (DAYS r s).getD j 0 = x at a b
  clear hx
  conv => lhs; rw [e]
  rw [List.filter_append, List.filter_eq_self.2 (fun z hz => by have := a z hz; have := inn z (List.mem_of_mem_take hz); simp; omega), List.filter_eq_nil_iff.2 (fun z hz => by have := b z hz; simp; omega), List.append_nil]
/-- A rule that rings each November. -/
def rn : Rl := ⟨4, 1, 0, 0, [11], [], [(4, 4)], []⟩
theorem fact_three : (btL rn 46340 46340 109573).take 3 = [46340, 46351, 46715] := by
  have h : sf rn 46340 = 0 := by decide
  have p0 : pE rn 46340 0 = some (num 2026 1 1, num 2026 12 31) := by decide +kernel
  have p1 : pE rn 46340 (0 + 1) = some (num 2027 1 1, num 2027 12 31) := by decide +kernel
  have d0 : perD rn 46340 (num 2026 1 1) (num 2026 12 31) = [46351] := by decide +kernel
  have d1 : perD rn 46340 (num 2027 1 1) (num 2027 12 31) = [46715] := by decide +kernel
  have e : dys rn 46340 = 46340 :: 46351 :: 46715 :: beh 46340 (flat rn 46340 109573 (0 + 1 + 1)) := by
    unfold dys
    rw [flat_on p0 (by decide), d0, flat_on p1 (by decide), d1]
    generalize flat rn 46340 109573 (0 + 1 + 1) = F
    show 46340 :: beh 46340 (46351 :: 46715 :: F) = _
    unfold beh
    rw [List.filter_cons_of_pos (by decide), List.filter_cons_of_pos (by decide)]
  have e2 : DAYS rn 46340 = dys rn 46340 := by
    unfold DAYS cutC
    rw [if_pos (show rn.count = 0 from rfl)]
    refine List.filter_eq_self.2 (fun x hx => ?_)
    have := all_in (r := rn) (s := 46340) (t := 109573) (k := 0) (by decide) (by decide) hx
    have t : tl rn 109573 = 109573 := rfl
    rw [t]
    simp
    omega
  rw [btL_all h, e2, e]
  rfl
end Go.Proofs.YtcillnphabddaacDoor
