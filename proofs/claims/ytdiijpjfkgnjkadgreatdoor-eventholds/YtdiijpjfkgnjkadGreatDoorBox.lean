/-
  What is proved here: words on blocks of a call's own: that they are there, and a store of a whole struct into one.
-/
import Derived.Test.YtdiijpjfkgnjkadGreatDoorLow
import Derived.Deep.MidRow
namespace Go.Proofs.YtdiijpjfkgnjkadGreatDoor
open Go.RowKit

theorem bx_setCells {B : Nat} {a : World} (b : Nat) : ∀ (vs : List Value) (o : Nat) (w : World), Below B a w → B ≤ b → Below B a (w.setCells b o vs)
  | [], _, _, h, _ => h
  | v :: r, o, w, h, hb => bx_setCells b r (o + 1) (w.setCell ⟨b, o, none⟩ v) (h.setCell hb _) hb
/-- A whole struct is stored into a block of the call's own. -/
theorem bx_store {P : Program} {ops : Array Oper} {rest : List Oper} {op : Oper} {a : Act} {w : World} {Q : Exit → Act → World → Prop} (hgd : op.guard = none) (ty : TypeId) (x y : Operand) (ho : op.op = .store ty x y)
    (b : Nat) (cells : Array Value) (hx : a.eval x = .pointer (some ⟨b, 0, none⟩)) (hy : a.eval y = .agg cells) (ht : w.there b 0 cells.size) (hi : (P.info? ty).map (·.size) = some cells.size) (h1 : cells.all (·.oneCell') = true)
    {B : Nat} {w0 : World} (hB : Below B w0 w) (hb : B ≤ b) (h : ∀ W4 : World, W4.rangeAt b 0 cells.toList → Below B w0 W4 → wpList P ops Q rest (a.put op.dst undef) W4) : wpList P ops Q (op :: rest) a w :=
  wpList_store_mid hgd ty x y ho b 0 cells hx hy ht hi h1 (h _ (World.rangeAt_setCells_same w b 0 cells.toList (by simpa using ht)) (bx_setCells b cells.toList 0 w hB hb))
/-- .. and all that lies behind it stays. -/
theorem bx_keep {P : Program} {ops : Array Oper} {rest : List Oper} {op : Oper} {a : Act} {w : World} {Q : Exit → Act → World → Prop} (hgd : op.guard = none) (ty : TypeId) (x y : Operand) (ho : op.op = .store ty x y)
    (b : Nat) (cells : Array Value) (hx : a.eval x = .pointer (some ⟨b, 0, none⟩)) (hy : a.eval y = .agg cells) (ht : w.there b 0 cells.size) (hi : (P.info? ty).map (·.size) = some cells.size) (h1 : cells.all (·.oneCell') = true)
    {B : Nat} {w0 : World} (hB : Below B w0 w) (hb : B ≤ b) (h : ∀ W4 : World, W4.rangeAt b 0 cells.toList → Below B w0 W4 → (∀ g o, b < g → W4.cell? ⟨g, o, none⟩ = w.cell? ⟨g, o, none⟩) → wpList P ops Q rest (a.put op.dst undef) W4) : wpList P ops Q (op :: rest) a w :=
  wpList_store_mid hgd ty x y ho b 0 cells hx hy ht hi h1 (h _ (World.rangeAt_setCells_same w b 0 cells.toList (by simpa using ht)) (bx_setCells b cells.toList 0 w hB hb)
    (fun g o hg => World.cell?_setCells_out b cells.toList 0 w ⟨g, o, none⟩ (fun e _ => absurd e (Nat.ne_of_gt hg))))
theorem bx_on {W W' : World} {B b n : Nat} (h : W.there b 0 n) (q : Below B W W') (hb : b < B) : W'.there b 0 n := fun j hj => by
  obtain ⟨h1, h2⟩ := h j hj
  rw [q.cell (p := ⟨b, 0 + j, none⟩) hb, q.frozen (p := ⟨b, 0 + j, none⟩) hb]
  exact ⟨h1, h2⟩
theorem bx_new8 (W : World) (v0 v1 v2 v3 v4 v5 v6 v7 : Value) (t : TypeId) : (W.alloc (.cells #[v0, v1, v2, v3, v4, v5, v6, v7] t)).there W.heap.size 0 8 := fun j hj => by
  rcases (by omega : j = 0 ∨ j = 1 ∨ j = 2 ∨ j = 3 ∨ j = 4 ∨ j = 5 ∨ j = 6 ∨ j = 7) with rfl | rfl | rfl | rfl | rfl | rfl | rfl | rfl <;> simp
end Go.Proofs.YtdiijpjfkgnjkadGreatDoor
