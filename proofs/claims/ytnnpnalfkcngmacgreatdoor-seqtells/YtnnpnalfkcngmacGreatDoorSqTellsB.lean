/-
  What is proved here: small facts that the walk of chimelaw1.SeqTells asks.
-/
import Derived.Test.YtnnpnalfkcngmacGreatDoorRefSeq
import Derived.Test.YtnnpnalfkcngmacGreatDoorSqUni
import Derived.Test.YtnnpnalfkcngmacGreatDoorRefRule3
import Derived.Test.YtnnpnalfkcngmacGreatDoorBL
import Derived.Test.YtnnpnalfkcngmacGreatDoorSmInts
namespace Go.Proofs.YtnnpnalfkcngmacGreatDoor
open Go.RowKit Cal Txt

theorem refRule_in (r : Rl) (v : Value) (w : World) (hv : RuleIn w v r) :
    Calls Tryz.prog 4 #[v] w fun e w' => e = .returned (.int .i64 (rf r)) ∧ Below w.heap.size w w' := by
  obtain ⟨vm, vd, vw, vp, rfl, hm, hd, hw, hp⟩ := hv
  exact refRule_any r vm vd vw vp w hm hd hw hp
theorem sf_one {r : Rl} {s Z : Int} {dt : Bool} (hZ : Z = rf r) (hd : dt = decide (1 ≤ s ∧ s ≤ 109573)) (h : ((Z == 0) && !dt) = true) : 1 = sf r s := by
  rw [Bool.and_eq_true] at h
  obtain ⟨h1, h2⟩ := h
  have h1' : rf r = 0 := by rw [← hZ]; simpa using h1
  have h2' : ¬ (1 ≤ s ∧ s ≤ 109573) := by
    rw [hd, Bool.not_eq_true'] at h2
    exact of_decide_eq_false h2
  unfold sf
  rw [if_pos h1', if_neg h2']
theorem sf_same {r : Rl} {s Z : Int} {dt : Bool} (hZ : Z = rf r) (hd : dt = decide (1 ≤ s ∧ s ≤ 109573)) (h : ((Z == 0) && !dt) = false) : Z = sf r s := by
  unfold sf
  by_cases h1 : rf r = 0
  · rw [if_pos h1]
    have h2 : 1 ≤ s ∧ s ≤ 109573 := by
      rw [hZ, h1] at h
      simp at h
      rw [h] at hd
      exact of_decide_eq_true hd.symm
    rw [if_pos h2, hZ, h1]
  · rw [if_neg h1, hZ]
theorem ff_one {r : Rl} {s n E : Int} (hE : E = sf r s) (h : ((E == 0) && (decide (n < 0) || decide (200 < n))) = true) : 1 = ff r s n := by
  rw [Bool.and_eq_true] at h
  have h1 : sf r s = 0 := by rw [← hE]; simpa using h.1
  have h2 := h.2
  simp at h2
  unfold ff
  rw [if_pos h1, if_neg (by omega)]
theorem ff_same {r : Rl} {s n E : Int} (hE : E = sf r s) (h : ((E == 0) && (decide (n < 0) || decide (200 < n))) = false) : E = ff r s n := by
  unfold ff
  by_cases h1 : sf r s = 0
  · rw [if_pos h1]
    rw [hE, h1] at h
    simp at h
    rw [if_pos (by omega), hE, h1]
  · rw [if_neg h1, hE]
theorem ff_good {r : Rl} {s n : Int} (h : ff r s n = 0) : sf r s = 0 ∧ 0 ≤ n ∧ n ≤ 200 := by
  unfold ff at h
  split at h
  · split at h
    · rename_i a b; exact ⟨a, b⟩
    · cases h
  · rename_i a; exact absurd h a
theorem bwF_good {r : Rl} {s fr t : Int} (h : sf r s = 0) : (200 < (bwA r s fr t).length → bwF r s fr t = 4 ∧ bwL r s fr t = []) ∧ (¬ 200 < (bwA r s fr t).length → bwF r s fr t = 0 ∧ bwL r s fr t = bwA r s fr t) := by
  constructor
  · intro q
    exact ⟨by unfold bwF; rw [if_pos h, if_pos q], by unfold bwL; rw [if_neg (fun k => by omega)]⟩
  · intro q
    exact ⟨by unfold bwF; rw [if_pos h, if_neg q], by unfold bwL; rw [if_pos ⟨h, by omega⟩]⟩
theorem bwF_bad {r : Rl} {s fr t : Int} (h : ¬ sf r s = 0) : bwF r s fr t = sf r s ∧ bwL r s fr t = [] ∧ nxX r s fr = 0 ∧ nxG r s fr = sf r s ∧ ctN r s = 0 ∧ hsB r s fr = false :=
  ⟨if_neg h, if_neg (fun q => h q.1), if_neg h, if_neg h, if_neg h, decide_eq_false (fun q => h q.1)⟩
theorem nx_some {r : Rl} {s a x : Int} (h : sf r s = 0) (e : nxt r s a = some x) : nxX r s a = x ∧ nxG r s a = 0 := by
  unfold nxX nxG
  rw [if_pos h, if_pos h, e]
  exact ⟨rfl, rfl⟩
theorem nx_none {r : Rl} {s a : Int} (h : sf r s = 0) (e : nxt r s a = none) : nxX r s a = 0 ∧ nxG r s a = 5 := by
  unfold nxX nxG
  rw [if_pos h, if_pos h, e]
  exact ⟨rfl, rfl⟩
theorem nil_ints (w : World) : Ints w (.slice none 0 0) [] := ⟨none, 0, rfl, Or.inl rfl⟩
theorem fsL_len {r : Rl} {s n : Int} : (fsL r s n).length ≤ 200 := by
  unfold fsL
  split
  · rename_i h
    have := (ff_good h).2.2
    rw [List.length_take]
    omega
  · simp
theorem bwL_len {r : Rl} {s fr t : Int} : (bwL r s fr t).length ≤ 200 := by
  unfold bwL
  split
  · rename_i h; exact h.2
  · simp
/-- The first that is behind a number, of those looked at. -/
theorem find_next {l : List Int} {a : Int} {i : Nat} (hi : i < l.length) (h : (l.take i).find? (fun n => decide (a < n)) = none) : (a < l.getD i 0 → l.find? (fun n => decide (a < n)) = some (l.getD i 0)) ∧ (¬ a < l.getD i 0 → (l.take (i + 1)).find? (fun n => decide (a < n)) = none) := by
  have e : l = l.take i ++ l.getD i 0 :: l.drop (i + 1) := by
    rw [← drop_at hi, List.take_append_drop]
  constructor
  · intro q
    have e2 : (l.take i ++ l.getD i 0 :: l.drop (i + 1)).find? (fun n => decide (a < n)) = some (l.getD i 0) := by
      rw [List.find?_append, h, Option.none_or, List.find?_cons_of_pos (by simpa using q)]
    rwa [← e] at e2
  · intro q
    rw [List.take_succ_eq_append_getElem hi, List.find?_append, h]
    rw [List.getD_eq_getElem?_getD, List.getElem?_eq_getElem hi] at q
    simp at q
    simp [q]
theorem filt_next {l : List Int} {fr : Int} {i : Nat} (hi : i < l.length) : (fr ≤ l.getD i 0 → (l.take (i + 1)).filter (fun x => decide (fr ≤ x)) = (l.take i).filter (fun x => decide (fr ≤ x)) ++ [l.getD i 0]) ∧ (¬ fr ≤ l.getD i 0 → (l.take (i + 1)).filter (fun x => decide (fr ≤ x)) = (l.take i).filter (fun x => decide (fr ≤ x))) := by
  rw [List.take_succ_eq_append_getElem hi, List.filter_append, List.getD_eq_getElem?_getD, List.getElem?_eq_getElem hi]
  constructor
  · intro q
    simp at q
    simp [q]
  · intro q
    simp at q
    simp [q]
end Go.Proofs.YtnnpnalfkcngmacGreatDoor
