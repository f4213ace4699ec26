/-
  What is proved here: words on an event in a block of a call's own, and what stores into it leave.
-/
import Derived.Test.YthdohcjingfpoaaGreatDoorBO
import Derived.Deep.MidRow
namespace Go.Proofs.YthdohcjingfpoaaGreatDoor
open Go.RowKit Cal Txt

/-- An event in a block that may be written. -/
def EOwn (W : World) (b : Nat) (e : Evt) (s : Evs) : Prop := EBox W b e s ∧ ∀ o, W.frozen? ⟨b, o, none⟩ = false
theorem EOwn.new (W : World) (e : Evt) (s : Evs) (t : TypeId) : EOwn (W.alloc (.cells (ecells e s) t)) W.heap.size e s := ⟨EBox.new W e s t, fun o => by simp⟩
theorem EOwn.on {W W' : World} {b : Nat} {e : Evt} {s : Evs} (h : EOwn W b e s) (q : Below W.heap.size W W') : EOwn W' b e s :=
  ⟨h.1.on q, fun o => (q.frozen (p := ⟨b, o, none⟩) h.1.lt).trans (h.2 o)⟩
abbrev noRl : Rl := ⟨0, 0, 0, 0, [], [], [], []⟩
theorem EOwn.rep {W : World} {b : Nat} {e : Evt} {s : Evs} (h : EOwn W b e s) (r : Bool) : EOwn (W.setCell ⟨b, 4, none⟩ (.bool r)) b { e with rep := r } s := by
  obtain ⟨⟨⟨a0, a1, a2, a3, a4⟩, ⟨b0, b1, b2, b3, b4, b5, b6, b7⟩, c0, c1, c2, c3⟩, hf⟩ := h
  have O : ∀ (k : Nat) (v : Value), ¬ 4 = k → W.cell? ⟨b, k, none⟩ = some v → (W.setCell ⟨b, 4, none⟩ (.bool r)).cell? ⟨b, k, none⟩ = some v := fun k v q z => (World.cell?_setCell_other _ _ _ _ (fun e => q (by simpa using congrArg Addr.off e))).trans z
  exact ⟨⟨⟨O _ _ (by decide) a0, O _ _ (by decide) a1, O _ _ (by decide) a2, O _ _ (by decide) a3, World.cell?_setCell_same _ _ _ a4⟩, ⟨O _ _ (by decide) b0, O _ _ (by decide) b1, O _ _ (by decide) b2, O _ _ (by decide) b3, O _ _ (by decide) b4, O _ _ (by decide) b5, O _ _ (by decide) b6, O _ _ (by decide) b7⟩, O _ _ (by decide) c0, O _ _ (by decide) c1, O _ _ (by decide) c2, O _ _ (by decide) c3⟩, fun o => by rw [World.frozen?_setCell]; exact hf o⟩
theorem EOwn.more {W : World} {b : Nat} {e : Evt} {s : Evs} (h : EOwn W b e s) (l : List Int) (u : Value) : EOwn (W.setCell ⟨b, 13, none⟩ u) b { e with more := l } { s with vo := u } := by
  obtain ⟨⟨⟨a0, a1, a2, a3, a4⟩, ⟨b0, b1, b2, b3, b4, b5, b6, b7⟩, c0, c1, c2, c3⟩, hf⟩ := h
  have O : ∀ (k : Nat) (v : Value), ¬ 13 = k → W.cell? ⟨b, k, none⟩ = some v → (W.setCell ⟨b, 13, none⟩ u).cell? ⟨b, k, none⟩ = some v := fun k v q z => (World.cell?_setCell_other _ _ _ _ (fun e => q (by simpa using congrArg Addr.off e))).trans z
  exact ⟨⟨⟨O _ _ (by decide) a0, O _ _ (by decide) a1, O _ _ (by decide) a2, O _ _ (by decide) a3, O _ _ (by decide) a4⟩, ⟨O _ _ (by decide) b0, O _ _ (by decide) b1, O _ _ (by decide) b2, O _ _ (by decide) b3, O _ _ (by decide) b4, O _ _ (by decide) b5, O _ _ (by decide) b6, O _ _ (by decide) b7⟩, World.cell?_setCell_same _ _ _ c0, O _ _ (by decide) c1, O _ _ (by decide) c2, O _ _ (by decide) c3⟩, fun o => by rw [World.frozen?_setCell]; exact hf o⟩
abbrev noVs : List Value := [.int .i64 0, .int .i64 0, .int .i64 0, .int .i64 0, .slice none 0 0, .slice none 0 0, .slice none 0 0, .slice none 0 0]
theorem EOwn.there8 {W : World} {b : Nat} {e : Evt} {s : Evs} (h : EOwn W b e s) : W.there b 5 8 := fun j hj => by
  obtain ⟨⟨_, ⟨b0, b1, b2, b3, b4, b5, b6, b7⟩, _⟩, hf⟩ := h
  refine ⟨?_, hf _⟩
  rcases (by omega : j = 0 ∨ j = 1 ∨ j = 2 ∨ j = 3 ∨ j = 4 ∨ j = 5 ∨ j = 6 ∨ j = 7) with rfl | rfl | rfl | rfl | rfl | rfl | rfl | rfl
  · rw [b0]; rfl
  · rw [b1]; rfl
  · rw [b2]; rfl
  · rw [b3]; rfl
  · rw [b4]; rfl
  · rw [b5]; rfl
  · rw [b6]; rfl
  · rw [b7]; rfl
theorem EOwn.norule {W : World} {b : Nat} {e : Evt} {s : Evs} (h : EOwn W b e s) : EOwn (W.setCells b 5 noVs) b { e with rule := noRl } { s with vm := .slice none 0 0, vd := .slice none 0 0, vw := .slice none 0 0, vp := .slice none 0 0 } := by
  have I := World.cell?_setCells_in b noVs 5 W (fun j hj => (h.there8 j (by simpa using hj)).1)
  obtain ⟨⟨⟨a0, a1, a2, a3, a4⟩, _, c0, c1, c2, c3⟩, hf⟩ := h
  have O : ∀ (k : Nat) (v : Value), (k < 5 ∨ 13 ≤ k) → W.cell? ⟨b, k, none⟩ = some v → (W.setCells b 5 noVs).cell? ⟨b, k, none⟩ = some v := fun k v q z => (World.cell?_setCells_out b noVs 5 W ⟨b, k, none⟩ (fun _ _ => q)).trans z
  exact ⟨⟨⟨O _ _ (by decide) a0, O _ _ (by decide) a1, O _ _ (by decide) a2, O _ _ (by decide) a3, O _ _ (by decide) a4⟩, ⟨I 0 (by decide), I 1 (by decide), I 2 (by decide), I 3 (by decide), I 4 (by decide), I 5 (by decide), I 6 (by decide), I 7 (by decide)⟩, O _ _ (by decide) c0, O _ _ (by decide) c1, O _ _ (by decide) c2, O _ _ (by decide) c3⟩, fun o => by rw [World.frozen?_setCells]; exact hf o⟩
/-- The event that is asked first. -/
abbrev ev1 (n : List UInt8) (st : Int) : Evt := ⟨⟨n.toArray⟩, ByteArray.empty, st, 0, false, noRl, [], [], [], []⟩
abbrev nil8 : Evs := ⟨.slice none 0 0, .slice none 0 0, .slice none 0 0, .slice none 0 0, .slice none 0 0, .slice none 0 0, .slice none 0 0, .slice none 0 0⟩
theorem nil_int (w : World) : Ints w (.slice none 0 0) [] := ⟨none, 0, rfl, Or.inl rfl⟩
theorem nil_nth (w : World) : Nths w (.slice none 0 0) [] := ⟨none, 0, rfl, Or.inl rfl⟩
theorem nil_alm (w : World) : Alms w (.slice none 0 0) [] := ⟨none, 0, rfl, Or.inl rfl⟩
theorem EBox.range {W : World} {b : Nat} {e : Evt} {s : Evs} (h : EBox W b e s) : W.rangeAt b 0 (ecells e s).toList := fun j v hv => by
  obtain ⟨⟨a0, a1, a2, a3, a4⟩, ⟨b0, b1, b2, b3, b4, b5, b6, b7⟩, c0, c1, c2, c3⟩ := h
  have hj : j < 17 := (List.getElem?_eq_some_iff.1 hv).1
  rcases (by omega : j = 0 ∨ j = 1 ∨ j = 2 ∨ j = 3 ∨ j = 4 ∨ j = 5 ∨ j = 6 ∨ j = 7 ∨ j = 8 ∨ j = 9 ∨ j = 10 ∨ j = 11 ∨ j = 12 ∨ j = 13 ∨ j = 14 ∨ j = 15 ∨ j = 16) with rfl | rfl | rfl | rfl | rfl | rfl | rfl | rfl | rfl | rfl | rfl | rfl | rfl | rfl | rfl | rfl | rfl
  · exact a0.trans hv
  · exact a1.trans hv
  · exact a2.trans hv
  · exact a3.trans hv
  · exact a4.trans hv
  · exact b0.trans hv
  · exact b1.trans hv
  · exact b2.trans hv
  · exact b3.trans hv
  · exact b4.trans hv
  · exact b5.trans hv
  · exact b6.trans hv
  · exact b7.trans hv
  · exact c0.trans hv
  · exact c1.trans hv
  · exact c2.trans hv
  · exact c3.trans hv
theorem EBox.of_range {W : World} {b : Nat} {e : Evt} {s : Evs} (h : W.rangeAt b 0 (ecells e s).toList) : EBox W b e s :=
  ⟨⟨h 0 _ rfl, h 1 _ rfl, h 2 _ rfl, h 3 _ rfl, h 4 _ rfl⟩, ⟨h 5 _ rfl, h 6 _ rfl, h 7 _ rfl, h 8 _ rfl, h 9 _ rfl, h 10 _ rfl, h 11 _ rfl, h 12 _ rfl⟩, h 13 _ rfl, h 14 _ rfl, h 15 _ rfl, h 16 _ rfl⟩
theorem there_newC (W : World) (C : Array Value) (t : TypeId) : (W.alloc (.cells C t)).there W.heap.size 0 C.size := fun j hj => by
  have e := heap_alloc_new W (.cells C t)
  refine ⟨?_, ?_⟩
  · simp only [World.cell?, e]
    simp [hj]
  · simp only [World.frozen?, e]
    simp
/-- An event is loaded. -/
theorem ev_load {ops : Array Oper} {rest : List Oper} {op : Oper} {a : Act} {w : World} {Q : Exit → Act → World → Prop} (hgd : op.guard = none) (x : Operand) (ho : op.op = .load 40 x)
    (b : Nat) (e : Evt) (s : Evs) (hx : a.eval x = .pointer (some ⟨b, 0, none⟩)) (hE : EBox w b e s) (h : wpList Tryz.prog ops Q rest (a.put op.dst (.agg (ecells e s))) w) : wpList Tryz.prog ops Q (op :: rest) a w :=
  wpList_load_mid hgd 40 x ho b 0 hx (ecells e s).toList _ hE.range Tryz.underlying40 rfl (by kernel_rfl) h
/-- An event is laid in a new block. -/
theorem ev_store {ops : Array Oper} {rest : List Oper} {op : Oper} {a : Act} {W : World} {Q : Exit → Act → World → Prop} (hgd : op.guard = none) (x y : Operand) (ho : op.op = .store 40 x y)
    (b : Nat) (C : Array Value) (t : TypeId) (hC : C.size = 17) (hb : W.heap.size = b) (e : Evt) (s : Evs) (hs : (ecells e s).all (·.oneCell') = true) (hx : a.eval x = .pointer (some ⟨b, 0, none⟩)) (hy : a.eval y = .agg (ecells e s))
    (h : ∀ W', EOwn W' b e s → Below W.heap.size W W' → wpList Tryz.prog ops Q rest (a.put op.dst undef) W') : wpList Tryz.prog ops Q (op :: rest) a (W.alloc (.cells C t)) := by
  subst hb
  have ht : (W.alloc (.cells C t)).there W.heap.size 0 (ecells e s).size := by have := there_newC W C t; rw [hC] at this; exact this
  refine wpList_store_mid hgd 40 x y ho W.heap.size 0 (ecells e s) hx hy ht (by kernel_rfl) hs (h _ ⟨EBox.of_range (World.rangeAt_setCells_same _ _ _ _ ht), fun o => ?_⟩ ?_)
  · rw [World.frozen?_setCells]
    simp only [World.frozen?, heap_alloc_new W (.cells C t)]
    simp
  · exact ((Below.refl _ _).alloc (Nat.le_refl _) _).trans (blw_cells (Nat.le_refl _) _ _ _)
end Go.Proofs.YthdohcjingfpoaaGreatDoor
