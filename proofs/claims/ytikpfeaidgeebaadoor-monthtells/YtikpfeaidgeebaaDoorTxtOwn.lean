/-
  What is proved here: small words on lists of texts that a call gathers.
-/
import Derived.Test.YtikpfeaidgeebaaDoorLow
import Derived.OwnWalk
namespace Go.Proofs.YtikpfeaidgeebaaDoor
open Go.RowKit Cal

/-- A text as bytes. -/
def tb (l : List UInt8) : ByteArray := ⟨l.toArray⟩
theorem tb_data (l : List UInt8) : (tb l).data.toList = l := by simp [tb]
theorem own_below {W W' : World} {base : Nat} {e : TypeId} {size : Nat} {v : Value} {n : Nat} {xs : List Value} (h : W.ownsRow base e size v n xs) (q : Below W.heap.size W W') : W'.ownsRow base e size v n xs := by
  refine ⟨h.1, ?_⟩
  rcases h.2 with a | ⟨g, cap, cur, hv, hb, hg, r⟩
  · exact Or.inl a
  · have hlt : g < W.heap.size := by
      rcases Nat.lt_or_ge g W.heap.size with k | k
      · exact k
      · rw [Array.getElem?_eq_none k] at hg; cases hg
    exact Or.inr ⟨g, cap, cur, hv, hb, (q.block g hlt).trans hg, r⟩
/-- Texts as cells. -/
def strs (xs : List ByteArray) : List Value := xs.map Value.string
/-- What a gathered list of texts looks like. -/
theorem own_texts {W : World} {base : Nat} {e : TypeId} {v : Value} {n : Nat} {xs : List ByteArray} (h : W.ownsRow base e 1 v n (strs xs)) (hn : 0 < n) :
    ∃ g cap, v = .slice (some ⟨g, 0, none⟩) n cap ∧ g < W.heap.size ∧ n ≤ cap ∧ ∀ (j : Nat) x, xs[j]? = some x → W.cell? ⟨g, 0 + j, none⟩ = some (.string x) := by
  rcases h.2 with ⟨_, h0⟩ | ⟨g, cap, cur, hv, hb, hg, hc, hm, hs, ht⟩
  · omega
  · refine ⟨g, cap, hv, ?_, hc, fun j x hj => ?_⟩
    · rcases Nat.lt_or_ge g W.heap.size with k | k
      · exact k
      · rw [Array.getElem?_eq_none k] at hg; cases hg
    · have := h.cells (g := g) (by rw [hv]; rfl) j (.string x) (by unfold strs; rw [List.getElem?_map, hj]; rfl)
      have hadd : (⟨g, 0, none⟩ : Addr).add j = ⟨g, 0 + j, none⟩ := by unfold Addr.add; split <;> simp_all
      rw [hadd] at this
      exact this
theorem info_str : (Tryd.prog.info? 9).map (fun i => (i.zero, i.size, i.bytes)) = some (some (.string ByteArray.empty), 1, 16) := by kernel_rfl
/-- One more text is gathered. -/
theorem own_next {w wr w1 w2 : World} {B : Nat} {e : TypeId} {v v' : Value} {k : Nat} {xs : List ByteArray} {x : ByteArray} {o : Obj} (hB : B ≤ wr.heap.size) (hb : Below B w wr) (hx : Below wr.heap.size wr w1)
    (hown : wr.ownsRow B e 1 v k (strs xs)) (hown' : w2.ownsRow B e 1 v' (k + 1) (strs xs ++ [.string x])) (hgrow : (w1.alloc o).grownBy w2 v.ownBlock) :
    w2.ownsRow B e 1 v' (k + 1) (strs (xs ++ [x])) ∧ Below B w w2 := by
  refine ⟨by unfold strs; rw [List.map_append]; exact hown', ?_⟩
  have h1 : Below B w w1 := hb.trans (hx.mono hB)
  have hs := hx.size
  refine (h1.alloc (by omega) o).grown hgrow (by simp; omega) (fun j hj => ?_)
  have := (hown.lt j hj).1
  omega
end Go.Proofs.YtikpfeaidgeebaaDoor
