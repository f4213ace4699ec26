/-
  What is proved here: what a walk carries from call to call of a date in its block, and small words on worlds.
-/
import Derived.Test.YtbpcggiibiamlabDoorDayOf
namespace Go.Proofs.YtbpcggiibiamlabDoor
open Go.RowKit Cal

theorem bcell {W w1 : World} (hb : Below W.heap.size W w1) : (∀ b o, b < W.heap.size → w1.cell? ⟨b, o, none⟩ = W.cell? ⟨b, o, none⟩) ∧ (∀ b o, b < W.heap.size → w1.frozen? ⟨b, o, none⟩ = W.frozen? ⟨b, o, none⟩) :=
  ⟨fun b o h => hb.cell (p := ⟨b, o, none⟩) h, fun b o h => hb.frozen (p := ⟨b, o, none⟩) h⟩
/-- A date lies in a block. -/
def Dat (W : World) (b : Nat) (y m d : Int) : Prop := W.cell? ⟨b, 0, none⟩ = some (.int .i64 y) ∧ W.cell? ⟨b, 1, none⟩ = some (.int .i64 m) ∧ W.cell? ⟨b, 2, none⟩ = some (.int .i64 d)
theorem Dat.lt {W : World} {b : Nat} {y m d : Int} (h : Dat W b y m d) : b < W.heap.size := by
  have k := h.1
  rcases Nat.lt_or_ge b W.heap.size with q | q
  · exact q
  · simp [World.cell?, Array.getElem?_eq_none q] at k
theorem Dat.on {W W' : World} {b : Nat} {y m d : Int} (h : Dat W b y m d) (k : Below W.heap.size W W') : Dat W' b y m d :=
  ⟨(k.cell (p := ⟨b, 0, none⟩) h.lt).trans h.1, (k.cell (p := ⟨b, 1, none⟩) h.lt).trans h.2.1, (k.cell (p := ⟨b, 2, none⟩) h.lt).trans h.2.2⟩
theorem Dat.alloc {W : World} {b : Nat} {y m d : Int} (h : Dat W b y m d) (o : Obj) : Dat (W.alloc o) b y m d := h.on ((Below.refl _ _).alloc (Nat.le_refl _) _)
theorem Dat.new (W : World) (y m d : Int) (t : TypeId) : Dat (W.alloc (.cells #[.int .i64 y, .int .i64 m, .int .i64 d] t)) W.heap.size y m d := ⟨by simp, by simp, by simp⟩

theorem below_same {P : Program} {f : FuncId} {args : Array Value} {w : World} {v : Value} (h : Calls P f args w fun e w' => e = .returned v ∧ w' = w) : Calls P f args w fun e w' => e = .returned v ∧ Below w.heap.size w w' :=
  h.mono fun _ _ ⟨he, hw⟩ => ⟨he, by rw [hw]; exact Below.refl _ _⟩
end Go.Proofs.YtbpcggiibiamlabDoor
