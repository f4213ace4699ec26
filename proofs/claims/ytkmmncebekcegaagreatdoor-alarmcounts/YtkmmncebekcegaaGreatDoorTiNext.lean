/-
  What is proved here: what times.Next answers (a contract over the translation).
-/
import Derived.Test.YtkmmncebekcegaaGreatDoorTiBet
namespace Go.Proofs.YtkmmncebekcegaaGreatDoor
open Go.RowKit Cal Txt

/-- What Next tells. -/
def tnL (a : Int) (l : List (Int × Int)) (e : Evt) (x : Int) : List Tm := tmL a l e (x + 1) (x + 500001)
def tnF (a : Int) (l : List (Int × Int)) (e : Evt) (x : Int) : Int := if ¬ ezF a l e = 0 then ezF a l e else if ist x = false then 1 else if (tnL a l e x).length = 0 then 5 else 0
def tnT (a : Int) (l : List (Int × Int)) (e : Evt) (x : Int) : Tm := if tnF a l e x = 0 then (tnL a l e x).getD 0 (0, 0, 0) else (0, 0, 0)
theorem ist_ok {x : Int} (h : ist x = true) : okS (x + 1) (x + 500001) := by
  have := of_decide_eq_true h
  unfold okS
  omega
/-- A block of three zeros for a result, behind what a callee did. -/
def Zr3 (W : World) (b : Nat) : Prop := (W.cell? ⟨b, 0, none⟩ = some (.int .i64 0) ∧ W.cell? ⟨b, 1, none⟩ = some (.int .i64 0) ∧ W.cell? ⟨b, 2, none⟩ = some (.int .i64 0)) ∧ (W.frozen? ⟨b, 0, none⟩ = false ∧ W.frozen? ⟨b, 1, none⟩ = false ∧ W.frozen? ⟨b, 2, none⟩ = false)
theorem Zr3.on {W W' : World} {b : Nat} (h : Zr3 W b) (q : Below W.heap.size W W') : Zr3 W' b := by
  obtain ⟨c, f⟩ := bcell q
  have l := ecell_in h.1.1
  exact ⟨⟨(c _ _ l).trans h.1.1, (c _ _ l).trans h.1.2.1, (c _ _ l).trans h.1.2.2⟩, (f _ _ l).trans h.2.1, (f _ _ l).trans h.2.2.1, (f _ _ l).trans h.2.2.2⟩
end Go.Proofs.YtkmmncebekcegaaGreatDoor
