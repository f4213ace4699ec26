/-
  What is proved here: small words on a list of numbers that a call gathers by append.
-/
import Derived.Test.YtiapdldeknijaaaDoorInts
import Derived.OwnWalk
import Derived.Lib.Join
namespace Go.Proofs.YtiapdldeknijaaaDoor
open Go.RowKit

theorem ow_below {W W' : World} {base : Nat} {e : TypeId} {size : Nat} {v : Value} {n : Nat} {xs : List Value} (h : W.ownsRow base e size v n xs) (q : Below W.heap.size W W') : W'.ownsRow base e size v n xs := by
  refine ⟨h.1, ?_⟩
  rcases h.2 with a | ⟨g, cap, cur, hv, hb, hg, r⟩
  · exact Or.inl a
  · have hlt : g < W.heap.size := by
      rcases Nat.lt_or_ge g W.heap.size with k | k
      · exact k
      · rw [Array.getElem?_eq_none k] at hg; cases hg
    exact Or.inr ⟨g, cap, cur, hv, hb, (q.block g hlt).trans hg, r⟩
theorem ow_grow {w wr w1 w2 : World} {B : Nat} {e : TypeId} {sz : Nat} {v : Value} {k : Nat} {ys : List Value} {o : Obj} (hB : B ≤ wr.heap.size) (hb : Below B w wr) (hx : Below wr.heap.size wr w1)
    (hown : wr.ownsRow B e sz v k ys) (hgrow : (w1.alloc o).grownBy w2 v.ownBlock) : Below B w w2 := by
  have h1 : Below B w w1 := hb.trans (hx.mono hB)
  have hs := hx.size
  refine (h1.alloc (by omega) o).grown hgrow (by simp; omega) (fun j hj => ?_)
  have := (hown.lt j hj).1
  omega
/-- Numbers as cells. -/
def nums (xs : List Int) : List Value := xs.map (Value.int .i64)
theorem nums_snoc (xs : List Int) (y : Int) : nums (xs ++ [y]) = nums xs ++ [.int .i64 y] := by simp [nums]
theorem ow_ints {W : World} {base : Nat} {e : TypeId} {v : Value} {n : Nat} {xs : List Int} (h : W.ownsRow base e 1 v n (nums xs)) : Ints W v xs := by
  have hl : xs.length = n := by have := h.1; simpa [nums] using this
  rcases h.2 with ⟨hv, h0⟩ | ⟨g, cap, cur, hv, hb, hg, hc, hm, hs, ht⟩
  · exact ⟨none, 0, by rw [hv, hl, h0], Or.inl (List.eq_nil_of_length_eq_zero (by omega))⟩
  · refine ⟨some ⟨g, 0, none⟩, cap, by rw [hv, hl], Or.inr ⟨g, 0, rfl, fun i hi => ?_⟩⟩
    have := h.cells (g := g) (by rw [hv]; rfl) i (.int .i64 (xs.getD i 0)) (by unfold nums; rw [List.getElem?_map, List.getElem?_eq_getElem hi, List.getD_eq_getElem?_getD, List.getElem?_eq_getElem hi]; rfl)
    have hadd : (⟨g, 0, none⟩ : Addr).add i = ⟨g, 0 + i, none⟩ := by unfold Addr.add; split <;> simp_all
    rw [hadd] at this
    exact this
end Go.Proofs.YtiapdldeknijaaaDoor
