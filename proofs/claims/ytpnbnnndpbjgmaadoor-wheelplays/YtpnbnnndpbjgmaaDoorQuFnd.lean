/-
  What is proved here: what slices.BinarySearchFunc answers at a rising row of rings, by alarm.Order (a contract over the translation).
-/
import Derived.Test.YtpnbnnndpbjgmaaDoorQuIns2
import Derived.Shelf.Abstract
import Derived.BigQuiet
import Derived.Lib.QuietBelow
namespace Go.Proofs.YtpnbnnndpbjgmaaDoor.Qu
open Go.RowKit

/-- Rings that a slice reads as. -/
def Rd (w : World) (v : Value) (M : List Rq) : Prop := ∃ a cap, v = .slice a M.length cap ∧ (M = [] ∨ ∃ b off, a = some ⟨b, off, none⟩ ∧ ∀ i, i < M.length → ∀ c, c < 5 → w.cell? ⟨b, off + i * 5 + c, none⟩ = (encQ (M.getD i zq))[c]?)
theorem Ow.rd {w : World} {n0 : Nat} {v : Value} {M : List Rq} (h : Ow w n0 v M) : Rd w v M := by
  rcases h.open with ⟨rfl, rfl⟩ | ⟨g, cap, L, rfl, _, hL, hnc, _, hl, ht⟩
  · exact ⟨none, 0, rfl, Or.inl rfl⟩
  · refine ⟨_, cap, rfl, Or.inr ⟨g, 0, rfl, fun i hi c hc => ?_⟩⟩
    rw [← flatQ_at M i c hi hc, ← ht, List.getElem?_take, if_pos (by omega)]
    have h5 : i * 5 + c < L.length := by rw [hl]; omega
    rw [show 0 + i * 5 + c = i * 5 + c by omega, hL.cell (List.getElem?_eq_getElem h5), List.getElem?_eq_getElem h5]
theorem Rd.on {w w' : World} {v : Value} {M : List Rq} (h : Rd w v M) (q : Below w.heap.size w w') : Rd w' v M := by
  obtain ⟨a, cap, e, hc⟩ := h
  refine ⟨a, cap, e, ?_⟩
  rcases hc with hc | ⟨b, off, ea, hc⟩
  · exact Or.inl hc
  · refine Or.inr ⟨b, off, ea, fun i hi c h5 => ?_⟩
    have k0 := hc i hi c h5
    have hs : (encQ (M.getD i zq))[c]? = some (encQ (M.getD i zq))[c] := List.getElem?_eq_getElem (by rw [encQ_len]; exact h5)
    rw [hs] at k0 ⊢
    exact (q.cell (p := ⟨b, off + i * 5 + c, none⟩) (cell_in k0)).trans k0
/-- The five cells of a ring that lies somewhere. -/
def At5 (W : World) (b o : Nat) (x : Rq) : Prop := W.cell? ⟨b, o, none⟩ = some (.int .i64 x.1) ∧ W.cell? ⟨b, o + 1, none⟩ = some (.string x.2.1) ∧ W.cell? ⟨b, o + 2, none⟩ = some (.int .i64 x.2.2.1) ∧ W.cell? ⟨b, o + 3, none⟩ = some (.int .i64 x.2.2.2.1) ∧ W.cell? ⟨b, o + 4, none⟩ = some (.int .i64 x.2.2.2.2)
theorem Rd.at {w : World} {b off cap : Nat} {M : List Rq} (h : Rd w (.slice (some ⟨b, off, none⟩) M.length cap) M) {i : Nat} (hi : i < M.length) : At5 w b (off + i * 5) (M.getD i zq) := by
  obtain ⟨a, cap', e, hc⟩ := h
  injection e with e1 _ _
  rcases hc with hc | ⟨b', off', ea, hc⟩
  · rw [hc] at hi; simp at hi
  · rw [ea] at e1
    injection e1 with e1
    injection e1 with e1 e2
    subst e1; subst e2
    exact ⟨hc i hi 0 (by omega), hc i hi 1 (by omega), hc i hi 2 (by omega), hc i hi 3 (by omega), hc i hi 4 (by omega)⟩
theorem At5.lt {W : World} {b o : Nat} {x : Rq} (h : At5 W b o x) : b < W.heap.size := cell_in h.1
theorem At5.on {W W' : World} {b o : Nat} {x : Rq} (h : At5 W b o x) (q : Below W.heap.size W W') : At5 W' b o x :=
  ⟨(q.cell (p := ⟨b, o, none⟩) h.lt).trans h.1, (q.cell (p := ⟨b, o + 1, none⟩) h.lt).trans h.2.1, (q.cell (p := ⟨b, o + 2, none⟩) h.lt).trans h.2.2.1, (q.cell (p := ⟨b, o + 3, none⟩) h.lt).trans h.2.2.2.1, (q.cell (p := ⟨b, o + 4, none⟩) h.lt).trans h.2.2.2.2⟩
/-- Is it there? -/
def hasQ (M : List Rq) (r : Rq) : Bool := M.any (fun x => decide (oc x r = 0))
theorem hasQ_iff {M : List Rq} {r : Rq} : hasQ M r = true ↔ r ∈ M := by
  unfold hasQ
  rw [List.any_eq_true]
  constructor
  · rintro ⟨x, hx, h⟩
    rw [← (oc_cm.eq x r).1 (of_decide_eq_true h)]
    exact hx
  · intro h
    exact ⟨r, h, decide_eq_true (oc_self r)⟩
theorem hasQ_not {M : List Rq} {r : Rq} : hasQ M r = false ↔ r ∉ M := by
  rw [← hasQ_iff]; simp
/-- It is there, and its place. -/
def FndA (M : List Rq) (r : Rq) (w : World) (e : Ending) (w' : World) : Prop := ∃ p : Nat, Fnd M r p ∧ e = .returned (.tuple #[.int .i64 p, .bool (hasQ M r)]) ∧ Below w.heap.size w w'
end Go.Proofs.YtpnbnnndpbjgmaaDoor.Qu
