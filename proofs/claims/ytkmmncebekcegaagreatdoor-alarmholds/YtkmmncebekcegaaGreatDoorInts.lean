/-
  What is proved here: small words on lists of numbers that lie in memory behind a slice.
-/
import Derived.Test.YtkmmncebekcegaaGreatDoorLow
namespace Go.Proofs.YtkmmncebekcegaaGreatDoor
open Go.RowKit Cal

/-- A slice reads as a list of numbers. -/
def Ints (w : World) (v : Value) (l : List Int) : Prop :=
  ∃ a cap, v = .slice a l.length cap ∧ (l = [] ∨ ∃ b off, a = some ⟨b, off, none⟩ ∧ ∀ i, i < l.length → w.cell? ⟨b, off + i, none⟩ = some (.int .i64 (l.getD i 0)))
theorem Ints.on {w w' : World} {v : Value} {l : List Int} (h : Ints w v l) (q : Below w.heap.size w w') : Ints w' v l := by
  obtain ⟨a, cap, e, hc⟩ := h
  refine ⟨a, cap, e, ?_⟩
  rcases hc with hc | ⟨b, off, ea, hc⟩
  · exact Or.inl hc
  · refine Or.inr ⟨b, off, ea, fun i hi => ?_⟩
    have k := hc i hi
    have hb : b < w.heap.size := by
      rcases Nat.lt_or_ge b w.heap.size with g | g
      · exact g
      · simp [World.cell?, Array.getElem?_eq_none g] at k
    exact (q.cell (p := ⟨b, off + i, none⟩) hb).trans k
theorem Ints.alloc {w : World} {v : Value} {l : List Int} (h : Ints w v l) (o : Obj) : Ints (w.alloc o) v l := h.on ((Below.refl _ _).alloc (Nat.le_refl _) _)
/-- Are all numbers from one to another one, and none 0? -/
def inB (lo hi : Int) (l : List Int) : Bool := l.all fun x => decide (¬ x = 0 ∧ lo ≤ x ∧ x ≤ hi)
theorem inB_iff {lo hi : Int} {l : List Int} : inB lo hi l = true ↔ ∀ j, j < l.length → ¬ l.getD j 0 = 0 ∧ lo ≤ l.getD j 0 ∧ l.getD j 0 ≤ hi := by
  unfold inB
  rw [List.all_eq_true]
  constructor
  · intro h j hj
    have := h (l[j]) (List.getElem_mem hj)
    rw [List.getD_eq_getElem?_getD, List.getElem?_eq_getElem hj]
    simpa using this
  · intro h x hx
    obtain ⟨j, hj, rfl⟩ := List.getElem_of_mem hx
    have := h j hj
    rw [List.getD_eq_getElem?_getD, List.getElem?_eq_getElem hj] at this
    simpa using this
theorem inB_not {lo hi : Int} {l : List Int} (j : Nat) (hj : j < l.length) (h : ¬ (¬ l.getD j 0 = 0 ∧ lo ≤ l.getD j 0 ∧ l.getD j 0 ≤ hi)) : inB lo hi l = false := by
  rcases e : inB lo hi l with _ | _
  · rfl
  · exact absurd (inB_iff.1 e j hj) h
/-- Is each number above the one ahead? -/
def risB (l : List Int) : Bool := (List.range (l.length - 1)).all fun i => decide (l.getD i 0 < l.getD (i + 1) 0)
theorem risB_iff {l : List Int} : risB l = true ↔ ∀ j, j + 1 < l.length → l.getD j 0 < l.getD (j + 1) 0 := by
  unfold risB
  rw [List.all_eq_true]
  constructor
  · intro h j hj
    have := h j (List.mem_range.2 (by omega))
    exact of_decide_eq_true this
  · intro h j hj
    exact decide_eq_true (h j (by have := List.mem_range.1 hj; omega))
theorem risB_not {l : List Int} (j : Nat) (hj : j + 1 < l.length) (h : ¬ l.getD j 0 < l.getD (j + 1) 0) : risB l = false := by
  rcases e : risB l with _ | _
  · rfl
  · exact absurd (risB_iff.1 e j hj) h
end Go.Proofs.YtkmmncebekcegaaGreatDoor
