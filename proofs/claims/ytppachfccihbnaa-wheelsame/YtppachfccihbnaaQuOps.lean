/-
  What is proved here: what package queue's New, Len, find, remove and Drop answer, and what they keep (contracts over the translation).
-/
import Derived.Test.YtppachfccihbnaaQuPut
namespace Go.Proofs.Ytppachfccihbnaa.Qu
open Go.RowKit

/-- A queue lies in a block, its rings in a row of its own. -/
structure Qs (w : World) (b : Nat) (v : Value) (M : List Rq) : Prop where
  box : w.heap[b]? = some (.cells #[v] 55 (0, 0))
  own : Ow w (b + 1) v M
theorem Qs.lt {w : World} {b : Nat} {v : Value} {M : List Rq} (h : Qs w b v M) : b < w.heap.size := by
  rcases Nat.lt_or_ge b w.heap.size with q | q
  · exact q
  · have := h.box
    rw [Array.getElem?_eq_none q] at this
    cases this
theorem Qs.cell {w : World} {b : Nat} {v : Value} {M : List Rq} (h : Qs w b v M) : w.cell? ⟨b, 0, none⟩ = some v := by simp [World.cell?, h.box]
theorem Qs.frozen {w : World} {b : Nat} {v : Value} {M : List Rq} (h : Qs w b v M) : w.frozen? ⟨b, 0, none⟩ = false := by simp [World.frozen?, h.box]
theorem Qs.ne {w : World} {b : Nat} {v : Value} {M : List Rq} (h : Qs w b v M) : some b ≠ v.ownBlock := fun e => by
  have := (h.own.lt b e.symm).1
  omega
theorem Qs.on {w w' : World} {b : Nat} {v : Value} {M : List Rq} (h : Qs w b v M) (q : Below w.heap.size w w') : Qs w' b v M :=
  ⟨(q.block b h.lt).trans h.box, own_on h.own (fun k hk => q.block k (h.own.lt k hk).2)⟩
/-- What a call keeps: all but the queue's own. -/
structure Kp (b : Nat) (v v' : Value) (w w' : World) : Prop where
  os : w'.os = w.os
  tape : w'.tape = w.tape
  output : w'.output = w.output
  size : w.heap.size ≤ w'.heap.size
  block : ∀ k, k < w.heap.size → k ≠ b → some k ≠ v.ownBlock → w'.heap[k]? = w.heap[k]?
  own : ∀ k, v'.ownBlock = some k → v.ownBlock = some k ∨ w.heap.size ≤ k
theorem Kp.refl (b : Nat) (v : Value) (w : World) : Kp b v v w w := ⟨rfl, rfl, rfl, Nat.le_refl _, fun _ _ _ _ => rfl, fun _ h => Or.inl h⟩
theorem Kp.trans {b : Nat} {u v x : Value} {a c d : World} (h : Kp b u v a c) (k : Kp b v x c d) : Kp b u x a d :=
  ⟨k.os.trans h.os, k.tape.trans h.tape, k.output.trans h.output, Nat.le_trans h.size k.size, fun i hi hb hu => (k.block i (Nat.lt_of_lt_of_le hi h.size) hb (fun e => by
    rcases h.own i e.symm with q | q
    · exact hu q.symm
    · omega)).trans (h.block i hi hb hu), fun i hi => by
    rcases k.own i hi with q | q
    · exact h.own i q
    · exact Or.inr (Nat.le_trans h.size q)⟩
theorem Kp.of_below {b : Nat} {v : Value} {w w' : World} (h : Below w.heap.size w w') : Kp b v v w w' := ⟨h.os, h.tape, h.output, h.size, fun k hk _ _ => h.block k hk, fun _ h => Or.inl h⟩
theorem Kp.below {b B : Nat} {v v' : Value} {w w' : World} {M : List Rq} (h : Kp b v v' w w') (q : Qs w b v M) (hB : B ≤ b) : Below B w w' :=
  ⟨h.os, h.tape, h.output, h.size, fun k hk => h.block k (by have := q.lt; omega) (by omega) (fun e => by have := (q.own.lt k e.symm).1; omega)⟩
theorem new_any (w : World) : Calls Try.prog 7 #[] w fun e w' => e = .returned (.pointer (some ⟨w.heap.size, 0, none⟩)) ∧ w' = w.alloc (.cells #[.slice none 0 0] 55) := by
  go_enter Try.func7, Try.ntmps7
  go_wp2
  go_ret
  exact ⟨rfl, rfl⟩
theorem qs_new (w : World) : Qs (w.alloc (.cells #[.slice none 0 0] 55)) w.heap.size (.slice none 0 0) [] :=
  ⟨heap_alloc_new w _, World.ownsRow_nil _ _ _ _⟩
theorem len_any (w : World) (b : Nat) (v : Value) (M : List Rq) (h : Qs w b v M) : Calls Try.prog 12 #[.pointer (some ⟨b, 0, none⟩)] w fun e w' => e = .returned (.int .i64 M.length) ∧ w' = w := by
  have c := h.cell
  obtain ⟨a, cap, rfl, _⟩ := h.own.rd
  clear h
  go_enter Try.func12, Try.ntmps12
  go_wp2
  go_ret
  exact ⟨rfl, rfl⟩
set_option maxHeartbeats 4000000 in
theorem find_any (w : World) (b : Nat) (v : Value) (M : List Rq) (r : Rq) (h : Qs w b v M) (hM : Rs M) (hl : M.length ≤ 1000000) : Calls Try.prog 20 #[.pointer (some ⟨b, 0, none⟩), agQ r] w (FndA M r w) := by
  obtain ⟨W0, hW0⟩ : ∃ W0, W0 = w.alloc (.cells #[.int .i64 r.1, .string r.2.1, .int .i64 r.2.2.1, .int .i64 r.2.2.2.1, .int .i64 r.2.2.2.2] 31) := ⟨_, rfl⟩
  have b0 : Below w.heap.size w W0 := by rw [hW0]; exact (Below.refl _ _).alloc (Nat.le_refl _) _
  have x0 : QBx W0 w.heap.size r := by rw [hW0]; exact QBx.new w r _
  have HS : Hid (∀ X, Below W0.heap.size W0 X → (fun X => X.cell? ⟨b, 0, none⟩ = some v ∧ X.cell? ⟨w.heap.size, 0, none⟩ = some (.int .i64 r.1) ∧ X.cell? ⟨w.heap.size, 1, none⟩ = some (.string r.2.1) ∧ X.cell? ⟨w.heap.size, 2, none⟩ = some (.int .i64 r.2.2.1) ∧ X.cell? ⟨w.heap.size, 3, none⟩ = some (.int .i64 r.2.2.2.1) ∧ X.cell? ⟨w.heap.size, 4, none⟩ = some (.int .i64 r.2.2.2.2)) X) := Lib.hid (fun X q => by
    have h0 := (h.on b0).on q
    exact ⟨h0.cell, x0.on q⟩)
  have KB : Hid (∀ X, Below W0.heap.size W0 X → Calls Try.prog 32 #[v, agQ r, .func (.func 19) #[] #[]] X fun e w' => ∃ p : Nat, Fnd M r p ∧ e = .returned (.tuple #[.int .i64 p, .bool (hasQ M r)]) ∧ Below w.heap.size w w' ∧ Below W0.heap.size W0 w') := Lib.hid (fun X q =>
    (bsearch_any M r v X ((h.on b0).on q).own.rd hM hl).mono (fun e w' ⟨p, h1, h2, h3⟩ => ⟨p, h1, h2, by
      have q2 : Below W0.heap.size W0 w' := q.trans (h3.mono q.size)
      exact ⟨b0.trans (q2.mono b0.size), q2⟩⟩))
  have bl : b < w.heap.size := h.lt
  have FI : Hid (∀ p : Nat, Fnd M r p → ∀ W, Below w.heap.size w W → FndA M r w (.returned (.tuple #[.int .i64 p, .bool (hasQ M r)])) W) := Lib.hid (fun p h1 W h2 => ⟨p, h1, rfl, h2⟩)
  generalize FndA M r w = PP at FI ⊢
  generalize hasQ M r = B at FI KB
  have HW := Lib.hid hW0
  obtain ⟨c0, x1, x2, x3, x4, x5⟩ := HS.out W0 (Below.refl _ _)
  have bl0 : b < W0.heap.size := cell_in c0
  have bl1 : w.heap.size < W0.heap.size := cell_in x1
  clear h hM hW0 b0 x0 hl
  go_enter Try.func20, Try.ntmps20
  go_upto_region 1 with fail
  rw [← HW.out]
  go_region_held3 (fun X => X.cell? ⟨b, 0, none⟩ = some v ∧ X.cell? ⟨w.heap.size, 0, none⟩ = some (.int .i64 r.1) ∧ X.cell? ⟨w.heap.size, 1, none⟩ = some (.string r.2.1) ∧ X.cell? ⟨w.heap.size, 2, none⟩ = some (.int .i64 r.2.2.1) ∧ X.cell? ⟨w.heap.size, 3, none⟩ = some (.int .i64 r.2.2.2.1) ∧ X.cell? ⟨w.heap.size, 4, none⟩ = some (.int .i64 r.2.2.2.2))
    (first | exact HS.out _ (Below.drew (Below.refl _ W0)) | exact HS.out _ hb6)
    (first | (go_at_call 32; refine (KB.out _ (Below.drew (Below.refl _ W0))).mono ?_; rintro e w2 ⟨p, hf, rfl, hb5, hb6⟩))
  have F1 := Lib.hid (FI.out p hf w2 hb5)
  clear hf hb5 hb6 c0 x1 x2 x3 x4 x5 HS KB
  go_wp2
  exact F1.out
end Go.Proofs.Ytppachfccihbnaa.Qu
