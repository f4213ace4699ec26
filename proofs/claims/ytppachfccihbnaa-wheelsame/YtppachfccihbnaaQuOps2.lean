/-
  What is proved here: what package queue's remove, Drop and Push answer, and what they keep (contracts over the translation).
-/
import Derived.Test.YtppachfccihbnaaQuOps
import Derived.Test.YtppachfccihbnaaClk
namespace Go.Proofs.Ytppachfccihbnaa.Qu
open Go.RowKit

theorem qs_store {w w2 : World} {b : Nat} {v v' : Value} {M M' : List Rq} (h : Qs w b v M) (hg : w.grownBy w2 v.ownBlock) (ho : Ow w2 (b + 1) v' M') (hv : v'.ownBlock = v.ownBlock ∨ v'.ownBlock = some w.heap.size) :
    Qs (w2.setCell ⟨b, 0, none⟩ v') b v' M' ∧ Kp b v v' w (w2.setCell ⟨b, 0, none⟩ v') := by
  have hb : w2.heap[b]? = some (.cells #[v] 55 (0, 0)) := (hg.block b h.lt h.ne).trans h.box
  refine ⟨⟨?_, ownsRow_setCell_below ho (by show b < b + 1; omega) v'⟩, ?_⟩
  · rw [setCell_eq_setRow w2 b 0 #[v] 55 (0, 0) v' hb, setRow_heap w2 b _ _ _ _ hb]
    rfl
  · refine ⟨hg.os, hg.tape, hg.output, by simpa [World.setCell] using hg.size, fun k hk h1 h2 => ?_, fun k hk => ?_⟩
    · rw [Below.heap_setCell w2 _ _ k h1]
      exact hg.block k hk h2
    · rcases hv with q | q
      · exact Or.inl (q.symm.trans hk)
      · rw [q] at hk
        injection hk with hk
        exact Or.inr (by omega)
theorem qs_cell2 {w w2 : World} {b : Nat} {v : Value} {M : List Rq} (h : Qs w b v M) (hg : w.grownBy w2 v.ownBlock) : w2.cell? ⟨b, 0, none⟩ = some v ∧ w2.frozen? ⟨b, 0, none⟩ = false := by
  have hb : w2.heap[b]? = some (.cells #[v] 55 (0, 0)) := (hg.block b h.lt h.ne).trans h.box
  exact ⟨by simp [World.cell?, hb], by simp [World.frozen?, hb]⟩
/-- What is behind a change. -/
def ChA (b : Nat) (v : Value) (w : World) (M : List Rq) (w' : World) : Prop := ∃ v', Qs w' b v' M ∧ Kp b v v' w w'
theorem remove_any (w : World) (b : Nat) (v : Value) (M : List Rq) (p : Nat) (h : Qs w b v M) (hp : p < M.length) (hl : M.length ≤ 1000000) :
    Calls Try.prog 23 #[.pointer (some ⟨b, 0, none⟩), .int .i64 p] w fun e w' => e = .returned (.tuple #[]) ∧ ChA b v w (del M p) w' := by
  have KD : Hid (Calls Try.prog 35 #[v, .int .i64 p, .int .i64 ((p : Int) + 1)] w fun e w2 => ∃ a n c, e = .returned (.slice a n c) ∧ w2.cell? ⟨b, 0, none⟩ = some v ∧ w2.frozen? ⟨b, 0, none⟩ = false ∧ Hid (ChA b v w (del M p) (w2.setCell ⟨b, 0, none⟩ (.slice a n c)))) :=
    Lib.hid ((delete_any M p (b + 1) v w h.own hp).mono (fun e w2 ⟨v', he, h1, h2, h3⟩ => by
      obtain ⟨a, c, rfl, _⟩ := h1.rd
      obtain ⟨q1, q2⟩ := qs_cell2 h h3
      exact ⟨a, _, c, he, q1, q2, Lib.hid ⟨_, qs_store h h3 h1 (Or.inl h2)⟩⟩))
  have c := h.cell
  have bl := h.lt
  have q0 : IntKind.i64.wrap ((p : Int) + 1) = (p : Int) + 1 := by rw [IntKind.wrap_i64]; omega
  clear h hp hl
  go_enter Try.func23, Try.ntmps23
  go_wp2_with (go_at_call 35; refine KD.out.mono ?_; rintro e w2 ⟨a, n, cp, rfl, c2, f2, FI⟩)
  go_end0
  exact ⟨rfl, FI.out⟩
end Go.Proofs.Ytppachfccihbnaa.Qu
