/-
  What is proved here: rows of changes that may be written; what stays as it was beside one block.
-/
import Derived.Test.YtnnpnalfkcngmaeGreatDoorEvMov
import Derived.Test.YtnnpnalfkcngmaeGreatDoorOwnN
namespace Go.Proofs.YtnnpnalfkcngmaeGreatDoor
open Go.RowKit Cal Txt

/-- All blocks but one are as they were. -/
structure Apt (b : Nat) (w W : World) : Prop where
  os : W.os = w.os
  tape : W.tape = w.tape
  output : W.output = w.output
  size : w.heap.size ≤ W.heap.size
  block : ∀ k, k < w.heap.size → k ≠ b → W.heap[k]? = w.heap[k]?
theorem Apt.refl (b : Nat) (w : World) : Apt b w w := ⟨rfl, rfl, rfl, Nat.le_refl _, fun _ _ _ => rfl⟩
theorem Apt.trans {b : Nat} {w W V : World} (h : Apt b w W) (k : Apt b W V) : Apt b w V :=
  ⟨k.os.trans h.os, k.tape.trans h.tape, k.output.trans h.output, Nat.le_trans h.size k.size, fun i hi hn => (k.block i (Nat.lt_of_lt_of_le hi h.size) hn).trans (h.block i hi hn)⟩
theorem apt_below {w W : World} (b : Nat) (q : Below w.heap.size w W) : Apt b w W := ⟨q.os, q.tape, q.output, q.size, fun k hk _ => q.block k hk⟩
theorem Apt.below {b n0 : Nat} {w W : World} (h : Apt b w W) (hb : n0 ≤ b) (hn : n0 ≤ w.heap.size) : Below n0 w W := ⟨h.os, h.tape, h.output, h.size, fun k hk => h.block k (by omega) (by omega)⟩
theorem Apt.cell {b : Nat} {w W : World} (h : Apt b w W) {p : Addr} (hp : p.block < w.heap.size) (hn : p.block ≠ b) : W.cell? p = w.cell? p := by simp [World.cell?, h.block p.block hp hn]
theorem apt_set (b o : Nat) (v : Value) (w : World) : Apt b w (w.setCell ⟨b, o, none⟩ v) :=
  ⟨rfl, rfl, rfl, by simp, fun k _ hn => Below.heap_setCell w ⟨b, o, none⟩ v k hn⟩
theorem apt_cells (b : Nat) : ∀ (vs : List Value) (o : Nat) (w : World), Apt b w (w.setCells b o vs)
  | [], _, w => Apt.refl b w
  | v :: r, o, w => (apt_set b o v w).trans (apt_cells b r (o + 1) _)
/-- Cells hold changes, and may be written. -/
def Hol2 (w : World) (b off : Nat) (l : List (Int × Int)) : Prop := ∀ j, j < l.length → (w.cell? ⟨b, off + j * 2, none⟩ = some (.int .i64 (l.getD j (0, 0)).1) ∧ w.cell? ⟨b, off + j * 2 + 1, none⟩ = some (.int .i64 (l.getD j (0, 0)).2)) ∧ w.frozen? ⟨b, off + j * 2, none⟩ = false ∧ w.frozen? ⟨b, off + j * 2 + 1, none⟩ = false
theorem Hol2.lt {w : World} {b off : Nat} {l : List (Int × Int)} (h : Hol2 w b off l) (h0 : 0 < l.length) : b < w.heap.size := ecell_in (h 0 h0).1.1
theorem Hol2.on {w W : World} {b off : Nat} {l : List (Int × Int)} (h : Hol2 w b off l) (q : Below w.heap.size w W) : Hol2 W b off l := fun j hj => by
  obtain ⟨⟨c1, c2⟩, f1, f2⟩ := h j hj
  have hb : b < w.heap.size := ecell_in c1
  obtain ⟨c, f⟩ := bcell q
  exact ⟨⟨(c _ _ hb).trans c1, (c _ _ hb).trans c2⟩, (f _ _ hb).trans f1, (f _ _ hb).trans f2⟩
theorem Hol2.nths {w : World} {b off cap : Nat} {l : List (Int × Int)} (h : Hol2 w b off l) : Nths w (.slice (some ⟨b, off, none⟩) l.length cap) l := ⟨_, _, rfl, Or.inr ⟨b, off, rfl, fun i hi => (h i hi).1⟩⟩
theorem Hol2.take {w : World} {b off : Nat} {l : List (Int × Int)} (h : Hol2 w b off l) (i : Nat) : Hol2 w b off (l.take i) := fun j hj => by
  rw [List.length_take] at hj
  have := h j (by omega)
  rwa [List.getD_eq_getElem?_getD, List.getElem?_take, if_pos (by omega), ← List.getD_eq_getElem?_getD]
theorem Hol2.there {w : World} {b off : Nat} {l : List (Int × Int)} (h : Hol2 w b off l) {i : Nat} (hi : i < l.length) : w.there b (off + i * 2) 2 := fun j hj => by
  obtain ⟨⟨c1, c2⟩, f1, f2⟩ := h i hi
  rcases (by omega : j = 0 ∨ j = 1) with rfl | rfl
  · exact ⟨by rw [Nat.add_zero, c1]; rfl, by rw [Nat.add_zero]; exact f1⟩
  · exact ⟨by rw [c2]; rfl, f2⟩
theorem Hol2.store {w : World} {b off : Nat} {l : List (Int × Int)} (h : Hol2 w b off l) {i : Nat} (hi : i < l.length) (x : Int × Int) : Hol2 (w.setCells b (off + i * 2) [.int .i64 x.1, .int .i64 x.2]) b off (l.set i x) := fun j hj => by
  rw [List.length_set] at hj
  have hr := World.rangeAt_setCells_same w b (off + i * 2) [.int .i64 x.1, .int .i64 x.2] (h.there hi)
  rw [World.frozen?_setCells, World.frozen?_setCells]
  refine ⟨?_, (h j hj).2⟩
  by_cases e : j = i
  · subst e
    have e2 : (l.set j x).getD j (0, 0) = x := by rw [List.getD_eq_getElem?_getD, List.getElem?_set_self hj]; rfl
    rw [e2]
    exact ⟨hr 0 _ rfl, hr 1 _ rfl⟩
  · have e2 : (l.set i x).getD j (0, 0) = l.getD j (0, 0) := by rw [List.getD_eq_getElem?_getD, List.getElem?_set_ne (by omega), ← List.getD_eq_getElem?_getD]
    rw [e2, World.cell?_setCells_out _ _ _ _ _ (fun _ _ => by simp; omega), World.cell?_setCells_out _ _ _ _ _ (fun _ _ => by simp; omega)]
    exact (h j hj).1
theorem Hol2.cut {w : World} {b off : Nat} {l : List (Int × Int)} (h : Hol2 w b off l) (i : Nat) (vs : List Value) : Hol2 (w.setCells b (off + i * 2) vs) b off (l.take i) := fun j hj => by
  have hj2 := hj
  rw [List.length_take] at hj2
  rw [World.frozen?_setCells, World.frozen?_setCells, World.cell?_setCells_out _ _ _ _ _ (fun _ _ => Or.inl (by show off + j * 2 < off + i * 2; omega)), World.cell?_setCells_out _ _ _ _ _ (fun _ _ => Or.inl (by show off + j * 2 + 1 < off + i * 2; omega))]
  exact (h.take i) j hj
/-- clear, at changes. -/
theorem run_clear2 (w : World) (ty : TypeId) (b o n c : Nat) (hn : 0 < n) (hc : ∀ j, j < n * 2 → (w.cell? ⟨b, o + j, none⟩).isSome = true) (hf : ∀ j, j < n * 2 → w.frozen? ⟨b, o + j, none⟩ = false) :
    (Builtin.clear_ #[26] ty #[.slice (some ⟨b, o, none⟩) n c]).run Tryz.prog w = .ok (.tuple #[]) (w.setCells b o (List.replicate (n * 2) (.int .i64 0))) := by
  have hv : ∀ w, (zeroValue 54).run Tryz.prog w = .ok (.agg #[.int .i64 0, .int .i64 0]) w := fun _ => by kernel_rfl
  have hzc : (Builtin.zeroCells (Value.agg #[.int .i64 0, .int .i64 0]).cells n).toList = List.replicate (n * 2) (.int .i64 0) := by
    show (Builtin.zeroCells #[.int .i64 0, .int .i64 0] n).toList = _
    simp only [Builtin.zeroCells, Array.toList_map]
    apply List.ext_getElem
    · simp
    · intro i h1 h2
      simp
      rcases (by omega : i % 2 = 0 ∨ i % 2 = 1) with q | q <;> simp [q]
  have hst := run_storeCells_cells (P := Tryz.prog) b o (List.replicate (n * 2) (.int .i64 0)) 0 w (by simpa using hc) (by simpa using hf) (by intro v hv'; rw [List.eq_of_mem_replicate hv']; rfl)
  simp only [Nat.add_zero] at hst
  obtain ⟨m, rfl⟩ : ∃ m, n = m + 1 := ⟨n - 1, by omega⟩
  simp [Builtin.clear_, run_underlying Tryz.underlying26, hv, hzc, hst]
theorem Hol2.cellsAt {w : World} {b off : Nat} {l : List (Int × Int)} (h : Hol2 w b off l) (i : Nat) (j : Nat) (hj : j < (l.length - i) * 2) : (w.cell? ⟨b, off + i * 2 + j, none⟩).isSome = true ∧ w.frozen? ⟨b, off + i * 2 + j, none⟩ = false := by
  obtain ⟨⟨c1, c2⟩, f1, f2⟩ := h (i + j / 2) (by omega)
  rcases (by omega : j % 2 = 0 ∨ j % 2 = 1) with q | q
  · rw [show off + i * 2 + j = off + (i + j / 2) * 2 by omega]
    exact ⟨by rw [c1]; rfl, f1⟩
  · rw [show off + i * 2 + j = off + (i + j / 2) * 2 + 1 by omega]
    exact ⟨by rw [c2]; rfl, f2⟩
/-- How far the deleting has come. -/
def DInv2 (l : List (Int × Int)) (p : Int × Int → Bool) (j i : Nat) (d : List (Int × Int)) : Prop :=
  d.length = l.length ∧ i < j ∧ j ≤ l.length ∧ d.take i = (l.take j).filter (fun x => !p x) ∧ ∀ t, j ≤ t → d.getD t (0, 0) = l.getD t (0, 0)
theorem DInv2.begin {l : List (Int × Int)} {p : Int × Int → Bool} {k : Nat} (hk : k < l.length) (ha : (l.take k).any p = false) (hp : p (l.getD k (0, 0)) = true) : DInv2 l p (k + 1) k l := by
  refine ⟨rfl, by omega, by omega, ?_, fun t _ => rfl⟩
  rw [List.take_succ_eq_append_getElem hk, List.filter_append]
  rw [List.getD_eq_getElem?_getD, List.getElem?_eq_getElem hk] at hp
  have hp' : p l[k] = true := hp
  rw [List.filter_eq_self.2 (fun x hx => by have := List.any_eq_false.1 ha x hx; simpa using this)]
  simp [hp']
theorem DInv2.skip {l : List (Int × Int)} {p : Int × Int → Bool} {j i : Nat} {d : List (Int × Int)} (h : DInv2 l p j i d) (hj : j < l.length) (hp : p (l.getD j (0, 0)) = true) : DInv2 l p (j + 1) i d := by
  obtain ⟨a, b, c, e, f⟩ := h
  refine ⟨a, by omega, by omega, ?_, fun t ht => f t (by omega)⟩
  rw [List.getD_eq_getElem?_getD, List.getElem?_eq_getElem hj] at hp
  have hp' : p l[j] = true := hp
  rw [List.take_succ_eq_append_getElem hj, List.filter_append, ← e]
  simp [hp']
theorem DInv2.keep {l : List (Int × Int)} {p : Int × Int → Bool} {j i : Nat} {d : List (Int × Int)} (h : DInv2 l p j i d) (hj : j < l.length) (hp : p (l.getD j (0, 0)) = false) : DInv2 l p (j + 1) (i + 1) (d.set i (l.getD j (0, 0))) := by
  obtain ⟨a, b, c, e, f⟩ := h
  refine ⟨by simpa using a, by omega, by omega, ?_, fun t ht => ?_⟩
  · rw [List.take_succ_eq_append_getElem (l := l) hj, List.filter_append, ← e]
    rw [List.getD_eq_getElem?_getD, List.getElem?_eq_getElem hj] at hp ⊢
    have hp' : p l[j] = false := hp
    rw [List.take_succ_eq_append_getElem (by rw [List.length_set]; omega), List.take_set_of_le (Nat.le_refl _)]
    simp [hp']
  · rw [List.getD_eq_getElem?_getD, List.getElem?_set_ne (by omega), ← List.getD_eq_getElem?_getD]
    exact f t (by omega)
theorem DInv2.done {l : List (Int × Int)} {p : Int × Int → Bool} {i : Nat} {d : List (Int × Int)} (h : DInv2 l p l.length i d) : d.take i = l.filter (fun x => !p x) := by
  have := h.2.2.2.1
  rwa [List.take_length] at this
theorem any_tk2 (p : Int × Int → Bool) (l : List (Int × Int)) (k : Nat) (h : k < l.length) (ha : (l.take k).any p = false) (hp : p (l.getD k (0, 0)) = false) : (l.take (k + 1)).any p = false := by
  rw [List.take_succ_eq_append_getElem h, List.any_append, ha, List.any_cons, List.any_nil]
  rw [List.getD_eq_getElem?_getD, List.getElem?_eq_getElem h] at hp
  simpa using hp
end Go.Proofs.YtnnpnalfkcngmaeGreatDoor
