/-
  What is proved here: the queue and the list that is held against it, call by call (contracts over the translation).
-/
import Derived.Test.YtkdmdkjkabfiaaaDoorQuRef2
import Derived.Test.YtkdmdkjkabfiaaaDoorQuSoP
import Derived.Test.YtkdmdkjkabfiaaaDoorInts
import Derived.Test.YtkdmdkjkabfiaaaDoorQuBox
namespace Go.Proofs.YtkdmdkjkabfiaaaDoor.Qu
open Go.RowKit

/-- A slice reads as rows of numbers. -/
def Sts (w : World) (v : Value) (S : List (List Int)) : Prop := ∃ a cap, v = .slice a S.length cap ∧ (S = [] ∨ ∃ b off, a = some ⟨b, off, none⟩ ∧ ∀ i, i < S.length → ∃ u, w.cell? ⟨b, off + i, none⟩ = some u ∧ Ints w u (S.getD i []))
theorem Sts.on {w w' : World} {v : Value} {S : List (List Int)} (h : Sts w v S) (q : Below w.heap.size w w') : Sts w' v S := by
  obtain ⟨a, cap, e, hc⟩ := h
  refine ⟨a, cap, e, ?_⟩
  rcases hc with hc | ⟨b, off, ea, hc⟩
  · exact Or.inl hc
  · refine Or.inr ⟨b, off, ea, fun i hi => ?_⟩
    obtain ⟨u, hu, hs⟩ := hc i hi
    exact ⟨u, (q.cell (p := ⟨b, off + i, none⟩) (cell_in hu)).trans hu, hs.on q⟩
/-- The queue, and the list that is held against it, apart from it. -/
structure Pl (w0 w : World) (b : Nat) (v : Value) (m : Value) (M : List Rq) : Prop where
  q : Qs w b v M
  r : Rw w m M
  rs : Rs M
  below : Below w0.heap.size w0 w
  ap : ∀ k, m.ownBlock = some k → k ≠ b ∧ v.ownBlock ≠ some k ∧ k < w.heap.size
theorem Pl.on {w0 w w' : World} {b : Nat} {v m : Value} {M : List Rq} (h : Pl w0 w b v m M) (q : Below w.heap.size w w') : Pl w0 w' b v m M :=
  ⟨h.q.on q, h.r.on q, h.rs, h.below.trans (q.mono h.below.size), fun k hk => by
    obtain ⟨h1, h2, h3⟩ := h.ap k hk
    exact ⟨h1, h2, Nat.lt_of_lt_of_le h3 q.size⟩⟩
theorem Rw.form {w : World} {v : Value} {M : List Rq} (h : Rw w v M) : ∃ a cap, v = .slice a M.length cap := by
  obtain ⟨⟨a, cap, e, _⟩, _⟩ := h
  exact ⟨a, cap, e⟩
theorem Rw.blk {w w' : World} {v : Value} {M : List Rq} (h : Rw w v M) (q : ∀ k, v.ownBlock = some k → w'.heap[k]? = w.heap[k]?) : Rw w' v M := by
  obtain ⟨⟨a, cap, e, hc⟩, h2⟩ := h
  refine ⟨⟨a, cap, e, ?_⟩, h2⟩
  rcases hc with hc | ⟨b, off, ea, hc⟩
  · exact Or.inl hc
  · refine Or.inr ⟨b, off, ea, fun j u hu => ?_⟩
    have k0 := hc j u hu
    have e1 : w'.heap[b]? = w.heap[b]? := q b (by rw [e, ea]; rfl)
    exact (World.cell?_of_block (a := ⟨b, off + j, none⟩) e1).trans k0
/-- A store into a block of one's own leaves it. -/
theorem Pl.blk {w0 w w' : World} {b g : Nat} {v m : Value} {M : List Rq} (h : Pl w0 w b v m M) (hs : w'.heap.size = w.heap.size) (ho : w'.os = w.os ∧ w'.tape = w.tape ∧ w'.output = w.output) (q : ∀ k, k ≠ g → w'.heap[k]? = w.heap[k]?) (g1 : g ≠ b) (g2 : v.ownBlock ≠ some g) (g3 : m.ownBlock ≠ some g) (g4 : w0.heap.size ≤ g) : Pl w0 w' b v m M :=
  ⟨⟨(q b (Ne.symm g1)).trans h.q.box, own_on h.q.own (fun k hk => q k (fun e => g2 (by rw [← e]; exact hk)))⟩, h.r.blk (fun k hk => q k (fun e => g3 (by rw [← e]; exact hk))), h.rs,
    ⟨ho.1.trans h.below.os, ho.2.1.trans h.below.tape, ho.2.2.trans h.below.output, by rw [hs]; exact h.below.size, fun k hk => (q k (by omega)).trans (h.below.block k hk)⟩, fun k hk => by
    obtain ⟨h1, h2, h3⟩ := h.ap k hk
    exact ⟨h1, h2, by rw [hs]; exact h3⟩⟩
/-- A change of the queue, and of the list. -/
theorem Pl.step {w0 w w' : World} {b : Nat} {v v' m m' : Value} {M N : List Rq} (h : Pl w0 w b v m M) (hb : w0.heap.size ≤ b) (hr : Rw w m' N) (ho : ∀ k, m'.ownBlock = some k → k ≠ b ∧ v.ownBlock ≠ some k ∧ k < w.heap.size) (hN : Rs N) (hq : Qs w' b v' N) (hk : Kp b v v' w w') : Pl w0 w' b v' m' N :=
  ⟨hq, hr.blk (fun k hm => hk.block k (ho k hm).2.2 (ho k hm).1 (fun e => (ho k hm).2.1 e.symm)), hN, h.below.trans (hk.below h.q hb), fun k hm => ⟨(ho k hm).1, hk.apart (ho k hm).2.2 (ho k hm).2.1, Nat.lt_of_lt_of_le (ho k hm).2.2 hk.size⟩⟩
/-- Two numbers lie in a block that may be written. -/
def Vv (w : World) (g : Nat) (x0 x1 : Int) : Prop := w.heap[g]? = some (.cells #[.int .i64 x0, .int .i64 x1] 38 (0, 0))
theorem Vv.cells {w : World} {g : Nat} {x0 x1 : Int} (h : Vv w g x0 x1) : w.cell? ⟨g, 0, none⟩ = some (.int .i64 x0) ∧ w.cell? ⟨g, 1, none⟩ = some (.int .i64 x1) ∧ w.frozen? ⟨g, 0, none⟩ = false ∧ w.frozen? ⟨g, 1, none⟩ = false := by
  unfold Vv at h
  exact ⟨by simp [World.cell?, h], by simp [World.cell?, h], by simp [World.frozen?, h], by simp [World.frozen?, h]⟩
theorem Vv.lt {w : World} {g : Nat} {x0 x1 : Int} (h : Vv w g x0 x1) : g < w.heap.size := cell_in h.cells.1
theorem Vv.on {w w' : World} {g : Nat} {x0 x1 : Int} (h : Vv w g x0 x1) (q : Below w.heap.size w w') : Vv w' g x0 x1 := (q.block g h.lt).trans h
theorem Vv.set0 {w : World} {g : Nat} {x0 x1 : Int} (h : Vv w g x0 x1) (y : Int) : Vv (w.setCell ⟨g, 0, none⟩ (.int .i64 y)) g y x1 := by
  unfold Vv
  rw [setCell_eq_setRow w g 0 _ _ _ _ h, setRow_heap w g _ _ _ _ h]
  rfl
theorem Vv.set1 {w : World} {g : Nat} {x0 x1 : Int} (h : Vv w g x0 x1) (y : Int) : Vv (w.setCell ⟨g, 1, none⟩ (.int .i64 y)) g x0 y := by
  unfold Vv
  rw [setCell_eq_setRow w g 1 _ _ _ _ h, setRow_heap w g _ _ _ _ h]
  rfl
theorem Pl.cell {w0 w : World} {b g o : Nat} {v m u : Value} {M : List Rq} (h : Pl w0 w b v m M) (g1 : g ≠ b) (g2 : v.ownBlock ≠ some g) (g3 : m.ownBlock ≠ some g) (g4 : w0.heap.size ≤ g) : Pl w0 (w.setCell ⟨g, o, none⟩ u) b v m M :=
  h.blk (g := g) (by simp [World.setCell]) ⟨rfl, rfl, rfl⟩ (fun k hk => Below.heap_setCell w _ _ k hk) g1 g2 g3 g4
theorem Pl.row {w0 w : World} {b g : Nat} {v m : Value} {M : List Rq} {c : Array Value} (h : Pl w0 w b v m M) (g1 : g ≠ b) (g2 : v.ownBlock ≠ some g) (g3 : m.ownBlock ≠ some g) (g4 : w0.heap.size ≤ g) : Pl w0 (w.setRow g c) b v m M :=
  h.blk (g := g) (by simp [World.setRow]) ⟨rfl, rfl, rfl⟩ (fun k hk => setRow_other w g k c hk) g1 g2 g3 g4
theorem pl_has {w0 w : World} {b : Nat} {v m : Value} {M : List Rq} (r : Rq) (h : Pl w0 w b v m M) (hl : M.length ≤ 1000) : Calls Tryd.prog 8 #[m, agQ r] w fun e w' => e = .returned (.bool (hasQ M r)) ∧ Below w.heap.size w w' := has_any M r m w (RowK.rd h.r.1) (by omega)
theorem pl_push_no {w0 w : World} {b : Nat} {v m : Value} {M : List Rq} (r : Rq) (h : Pl w0 w b v m M) (hb : w0.heap.size ≤ b) (hl : M.length ≤ 1000) (hp : ¬ pf M r = 0) : Calls Tryd.prog 6 #[.pointer (some ⟨b, 0, none⟩), agQ r] w fun e w' => e = .returned (.iface 49 (.int .i64 (pf M r))) ∧ ∃ v', Hid (Pl w0 w' b v' m M) :=
  (push_no w b v M r h.q h.rs (by omega) hp).mono (fun e w' ⟨he, v', q1, q2⟩ => ⟨he, v', Lib.hid (h.step hb h.r h.ap h.rs q1 q2)⟩)
theorem pl_push_yes {w0 w : World} {b : Nat} {v m m2 : Value} {M : List Rq} (r : Rq) (h : Pl w0 w b v m M) (hb : w0.heap.size ≤ b) (hl : M.length ≤ 1000) (hp : pf M r = 0) (hr : Rw w m2 (put M r)) (ho : ∀ k, m2.ownBlock = some k → k ≠ b ∧ v.ownBlock ≠ some k ∧ k < w.heap.size) : Calls Tryd.prog 6 #[.pointer (some ⟨b, 0, none⟩), agQ r] w fun e w' => e = .returned .nilIface ∧ ∃ v', Hid (Pl w0 w' b v' m2 (put M r)) :=
  (push_yes w b v M r h.q h.rs (by omega) hp).mono (fun e w' ⟨he, v', q1, q2⟩ => ⟨he, v', Lib.hid (h.step hb hr ho (put_rs h.rs) q1 q2)⟩)
theorem pl_add {w0 w : World} {b : Nat} {v m : Value} {M : List Rq} (r : Rq) (h : Pl w0 w b v m M) (hl : M.length ≤ 1000) (hr : r ∉ M) : Calls Tryd.prog 13 #[m, agQ r] w fun e w' => ∃ a n c, e = .returned (.slice a n c) ∧ Below w.heap.size w w' ∧ Hid (Rw w' (.slice a n c) (put M r) ∧ ∀ k, (Value.slice a n c).ownBlock = some k → k ≠ b ∧ v.ownBlock ≠ some k ∧ k < w'.heap.size) :=
  (refAdd_any M r m w h.r h.rs (by omega)).mono (fun e w' ⟨u, P, he, h1, h2, h3, h4⟩ => by
    have eP : P = put M r := rs_ext h2.1 (put_rs h.rs) (fun z => by rw [h2.2.1, put_mem hr])
    subst eP
    obtain ⟨a, c, rfl⟩ := h1.form
    refine ⟨a, _, c, he, h3, Lib.hid ⟨h1, fun k hk => ?_⟩⟩
    have hlt : k < w'.heap.size := by
      obtain ⟨⟨a', c', e', hc⟩, hf⟩ := h1
      rcases hc with hc | ⟨b', off', ea, hc⟩
      · have := (put_mem (z := r) hr).2 (Or.inr rfl)
        rw [hc] at this
        cases this
      · injection e' with e1 _ _
        rw [e1, ea] at hk
        injection hk with hk
        have hlen : 0 < (put M r).length := List.length_pos_of_mem ((put_mem (z := r) hr).2 (Or.inr rfl))
        have h5 : 0 < ((put M r).flatMap encQ).length := by rw [flatQ_len]; omega
        have := cell_in (hc 0 _ (List.getElem?_eq_getElem h5))
        rw [← hk]
        exact this
    rcases h4 k hk with q | q
    · obtain ⟨q1, q2, _⟩ := h.ap k q
      exact ⟨q1, q2, hlt⟩
    · exact ⟨by have := h.q.lt; omega, fun e => by have := (h.q.own.lt k e).2; omega, hlt⟩)
theorem pl_err {w0 w : World} {b : Nat} {v m : Value} {M : List Rq} (f : Int) (h : Pl w0 w b v m M) (hg : ErrTy w0) : Calls Tryd.prog 10 #[.iface 49 (.int .i64 f), .int .i64 f] w fun e w' => e = .returned (.bool true) ∧ Hid (Below w.heap.size w w') :=
  (error_errno f f w (hg.below h.below)).mono (fun e w' ⟨he, hb⟩ => ⟨by rw [he]; simp, Lib.hid hb⟩)
theorem pl_err0 (w : World) : Calls Tryd.prog 10 #[.nilIface, .int .i64 0] w fun e w' => e = .returned (.bool true) ∧ Hid (Below w.heap.size w w') :=
  (error_nil 0 w).mono (fun e w' ⟨he, hw⟩ => ⟨he, Lib.hid (by rw [hw]; exact Below.refl _ _)⟩)
theorem pl_pop_yes {w0 w : World} {b : Nat} {v m m2 : Value} {x : Rq} {M : List Rq} (h : Pl w0 w b v m (x :: M)) (hb : w0.heap.size ≤ b) (hl : (x :: M).length ≤ 1000) (hr : Rw w m2 M) (ho : ∀ k, m2.ownBlock = some k → m.ownBlock = some k) : Calls Tryd.prog 7 #[.pointer (some ⟨b, 0, none⟩)] w fun e w' => e = .returned (.tuple #[agQ x, .nilIface]) ∧ ∃ v', Hid (Pl w0 w' b v' m2 M ∧ Kp b v v' w w') :=
  (pop_yes w b v x M h.q (by omega)).mono (fun e w' ⟨he, v', q1, q2⟩ => ⟨he, v', Lib.hid ⟨h.step hb hr (fun k hk => h.ap k (ho k hk)) (List.pairwise_cons.1 h.rs).2 q1 q2, q2⟩⟩)
theorem pl_pop_no {w0 w : World} {b : Nat} {v m : Value} (h : Pl w0 w b v m []) (hb : w0.heap.size ≤ b) : Calls Tryd.prog 7 #[.pointer (some ⟨b, 0, none⟩)] w fun e w' => e = .returned (.tuple #[agQ zq, .iface 49 (.int .i64 5)]) ∧ ∃ v', Hid (Pl w0 w' b v' m [] ∧ Kp b v v' w w') :=
  (pop_no w b v h.q).mono (fun _ _ ⟨he, v', q1, q2⟩ => ⟨he, v', Lib.hid ⟨h.step hb h.r h.ap h.rs q1 q2, q2⟩⟩)
theorem pl_off {w0 w : World} {b : Nat} {v m : Value} {M : List Rq} (r : Rq) (h : Pl w0 w b v m M) (hl : M.length ≤ 1000) : Calls Tryd.prog 14 #[m, agQ r] w fun e w' => ∃ a n c, e = .returned (.tuple #[.slice a n c, .bool (hasQ M r)]) ∧ Below w.heap.size w w' ∧ Hid (Rw w' (.slice a n c) (drp M r) ∧ ∀ k, (Value.slice a n c).ownBlock = some k → k ≠ b ∧ v.ownBlock ≠ some k ∧ k < w'.heap.size) :=
  (off_any M r m w (RowK.rd h.r.1) (by omega)).mono (fun e w' ⟨u, he, ho, hb⟩ => by
    have h1 := own_rw ho
    obtain ⟨a, c, rfl⟩ := h1.form
    refine ⟨a, _, c, he, hb, Lib.hid ⟨h1, fun k hk => ?_⟩⟩
    obtain ⟨q1, q2⟩ := ho.lt k hk
    exact ⟨by have := h.q.lt; omega, fun e => by have := (h.q.own.lt k e).2; omega, q2⟩)
theorem pl_drop {w0 w : World} {b : Nat} {v m m2 : Value} {M : List Rq} (r : Rq) (h : Pl w0 w b v m M) (hb : w0.heap.size ≤ b) (hl : M.length ≤ 1000) (hr : Rw w m2 (drp M r)) (ho : ∀ k, m2.ownBlock = some k → k ≠ b ∧ v.ownBlock ≠ some k ∧ k < w.heap.size) : Calls Tryd.prog 15 #[.pointer (some ⟨b, 0, none⟩), agQ r] w fun e w' => e = .returned (fault (df M r)) ∧ ∃ v', Hid (Pl w0 w' b v' m2 (drp M r)) :=
  (drop_any w b v M r h.q h.rs (by omega)).mono (fun _ _ ⟨he, v', M', q1, q2, q3⟩ => by
    subst q3
    exact ⟨he, v', Lib.hid (h.step hb hr ho (drp_rs h.rs) q1 q2)⟩)
theorem Rw.tail {w : World} {x : Rq} {M : List Rq} {bb off cap : Nat} (h : Rw w (.slice (some ⟨bb, off, none⟩) (x :: M).length cap) (x :: M)) : Rw w (.slice (if cap = 1 then some ⟨bb, off, none⟩ else some ⟨bb, off + 5, none⟩) M.length (cap - 1)) M := by
  have hcap : M.length + 1 ≤ cap := by
    rcases h.2 with ⟨e, _⟩ | ⟨b', o', c', e, hc⟩
    · injection e with e1; cases e1
    · injection e with _ _ e3
      simpa [e3] using hc
  by_cases h1 : cap = 1
  · have hM : M = [] := List.eq_nil_of_length_eq_zero (by omega)
    subst hM
    rw [if_pos h1]
    exact ⟨⟨_, _, rfl, Or.inl rfl⟩, Or.inr ⟨bb, off, _, rfl, by simp⟩⟩
  · rw [if_neg h1]
    have q := rowDrop (c := 5) (fun _ => rfl) h.1 1 (by simp) (cap - 1)
    simp only [List.length_cons, Nat.add_sub_cancel, Nat.one_mul, List.drop_succ_cons, List.drop_zero] at q
    exact ⟨q, Or.inr ⟨bb, off + 5, cap - 1, rfl, by omega⟩⟩
end Go.Proofs.YtkdmdkjkabfiaaaDoor.Qu
