/-
  What is proved here: rows of numbers that a slice reads as; small words on the document's list of rings.
-/
import Derived.Test.YtpnbnnndpbjgmaaDoorQuRef2
import Derived.Test.YtpnbnnndpbjgmaaDoorInts
namespace Go.Proofs.YtpnbnnndpbjgmaaDoor.Qu
open Go.RowKit

/-- A slice reads as rows of numbers. -/
def Sts (w : World) (v : Value) (S : List (List Int)) : Prop := ∃ a cap, v = .slice a S.length cap ∧ (S = [] ∨ ∃ b off, a = some ⟨b, off, none⟩ ∧ ∀ i, i < S.length → ∃ u, w.cell? ⟨b, off + i, none⟩ = some u ∧ Ints w u (S.getD i []))
theorem Sts.on {w w' : World} {v : Value} {S : List (List Int)} (h : Sts w v S) (q : Below w.heap.size w w') : Sts w' v S := by
  obtain ⟨a, cap, e, hc⟩ := h
  refine ⟨a, cap, e, ?_⟩
  rcases hc with hc | ⟨b, off, ea, hc⟩
  · exact Or.inl hc
  · refine Or.inr ⟨b, off, ea, fun i hi => ?_⟩
    obtain ⟨u, hu, hs⟩ := hc i hi
    exact ⟨u, (q.cell (p := ⟨b, off + i, none⟩) (cell_in hu)).trans hu, hs.on q⟩
theorem Rw.form {w : World} {v : Value} {M : List Rq} (h : Rw w v M) : ∃ a cap, v = .slice a M.length cap := by
  obtain ⟨⟨a, cap, e, _⟩, _⟩ := h
  exact ⟨a, cap, e⟩
theorem Rw.blk {w w' : World} {v : Value} {M : List Rq} (h : Rw w v M) (q : ∀ k, v.ownBlock = some k → w'.heap[k]? = w.heap[k]?) : Rw w' v M := by
  obtain ⟨⟨a, cap, e, hc⟩, h2⟩ := h
  refine ⟨⟨a, cap, e, ?_⟩, h2⟩
  rcases hc with hc | ⟨b, off, ea, hc⟩
  · exact Or.inl hc
  · refine Or.inr ⟨b, off, ea, fun j u hu => ?_⟩
    have k0 := hc j u hu
    have e1 : w'.heap[b]? = w.heap[b]? := q b (by rw [e, ea]; rfl)
    exact (World.cell?_of_block (a := ⟨b, off + j, none⟩) e1).trans k0
theorem Rw.tail {w : World} {x : Rq} {M : List Rq} {bb off cap : Nat} (h : Rw w (.slice (some ⟨bb, off, none⟩) (x :: M).length cap) (x :: M)) : Rw w (.slice (if cap = 1 then some ⟨bb, off, none⟩ else some ⟨bb, off + 5, none⟩) M.length (cap - 1)) M := by
  have hcap : M.length + 1 ≤ cap := by
    rcases h.2 with ⟨e, _⟩ | ⟨b', o', c', e, hc⟩
    · injection e with e1; cases e1
    · injection e with _ _ e3
      simpa [e3] using hc
  by_cases h1 : cap = 1
  · have hM : M = [] := List.eq_nil_of_length_eq_zero (by omega)
    subst hM
    rw [if_pos h1]
    exact ⟨⟨_, _, rfl, Or.inl rfl⟩, Or.inr ⟨bb, off, _, rfl, by simp⟩⟩
  · rw [if_neg h1]
    have q := rowDrop (c := 5) (fun _ => rfl) h.1 1 (by simp) (cap - 1)
    simp only [List.length_cons, Nat.add_sub_cancel, Nat.one_mul, List.drop_succ_cons, List.drop_zero] at q
    exact ⟨q, Or.inr ⟨bb, off + 5, cap - 1, rfl, by omega⟩⟩
end Go.Proofs.YtpnbnnndpbjgmaaDoor.Qu
