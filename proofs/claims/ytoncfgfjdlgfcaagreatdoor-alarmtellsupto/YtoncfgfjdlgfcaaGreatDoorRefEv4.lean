/-
  What is proved here: what the document's Event answers (a contract over the translation).
-/
import Derived.Test.YtoncfgfjdlgfcaaGreatDoorBX
import Derived.Test.YtoncfgfjdlgfcaaGreatDoorBV
import Derived.Test.YtoncfgfjdlgfcaaGreatDoorRF
namespace Go.Proofs.YtoncfgfjdlgfcaaGreatDoor
open Go.RowKit Cal Txt

theorem fst_getD (l : List (Int × Int)) (i : Nat) : (l.map (·.1)).getD i 0 = (l.getD i (0, 0)).1 := by
  rw [List.getD_eq_getElem?_getD, List.getD_eq_getElem?_getD, List.getElem?_map]
  cases l[i]? <;> rfl
theorem criB_eq (l : List (Int × Int)) : criB l = risB (l.map (·.1)) := by
  unfold criB risB
  rw [List.length_map]
  congr 1
  funext i
  rw [fst_getD, fst_getD]
theorem fst_snoc {l : List (Int × Int)} {k : Nat} (h : k < l.length) : (l.take (k + 1)).map (·.1) = (l.take k).map (·.1) ++ [(l.getD k (0, 0)).1] := by
  rw [List.take_succ_eq_append_getElem h, List.map_append, List.getD_eq_getElem?_getD, List.getElem?_eq_getElem h]
  rfl
/-- Which times are changed, as far as k. -/
def ats (k : Nat) (l : List (Int × Int)) : List Int := (l.take k).map (·.1)
theorem ats_snoc {l : List (Int × Int)} {k : Nat} (h : k < l.length) : ats (k + 1) l = ats k l ++ [(l.getD k (0, 0)).1] := fst_snoc h
theorem ats_end (l : List (Int × Int)) : ats l.length l = l.map (·.1) := by unfold ats; rw [List.take_length]
theorem wnm {B : Nat} {a w : World} (_ : Below B a w) : ∃ x, x = w := ⟨w, rfl⟩
/-- A rule's cells. -/
abbrev rcl (e : Evt) (s : Evs) : Array Value := #[.int .i64 e.rule.freq, .int .i64 e.rule.every, .int .i64 e.rule.count, .int .i64 e.rule.till, s.vm, s.vd, s.vw, s.vp]
theorem EBox.rrange {W : World} {b : Nat} {e : Evt} {s : Evs} (h : EBox W b e s) : W.rangeAt b 5 (rcl e s).toList := fun j v hv => by
  have hj : j < 8 := (List.getElem?_eq_some_iff.1 hv).1
  have q := h.range (5 + j) v (by
    rcases (by omega : j = 0 ∨ j = 1 ∨ j = 2 ∨ j = 3 ∨ j = 4 ∨ j = 5 ∨ j = 6 ∨ j = 7) with rfl | rfl | rfl | rfl | rfl | rfl | rfl | rfl <;> exact hv)
  rwa [Nat.zero_add] at q
/-- The rule of an event is loaded. -/
theorem ru_load {ops : Array Oper} {rest : List Oper} {op : Oper} {a : Act} {w : World} {Q : Exit → Act → World → Prop} (hgd : op.guard = none) (x : Operand) (ho : op.op = .load 29 x)
    (b o : Nat) (e : Evt) (s : Evs) (hx : a.eval x = .pointer (some ⟨b, o, none⟩)) (hE : w.rangeAt b o (rcl e s).toList) (h : wpList Tryz.prog ops Q rest (a.put op.dst (rval e s)) w) : wpList Tryz.prog ops Q (op :: rest) a w :=
  wpList_load_mid hgd 29 x ho b o hx (rcl e s).toList _ hE Tryz.underlying29 rfl (by kernel_rfl) h
/-- A rule's cells lie in a block. -/
def RCl (W : World) (b : Nat) (e : Evt) (s : Evs) : Prop := W.rangeAt b 0 (rcl e s).toList
theorem RCl.on {W W' : World} {b : Nat} {e : Evt} {s : Evs} (h : RCl W b e s) (q : Below W.heap.size W W') : RCl W' b e s := fun j v hv => by
  have h0 := h 0 _ rfl
  have l : b < W.heap.size := ecell_in h0
  exact (q.cell (p := ⟨b, 0 + j, none⟩) l).trans (h j v hv)
/-- A rule is laid in a new block. -/
theorem ru_store {ops : Array Oper} {rest : List Oper} {op : Oper} {a : Act} {W : World} {Q : Exit → Act → World → Prop} (hgd : op.guard = none) (x y : Operand) (ho : op.op = .store 29 x y) (hd : op.dst = none)
    (b : Nat) (C : Array Value) (t : TypeId) (hC : C.size = 8) (hb : W.heap.size = b) (e : Evt) (s : Evs) (hs : (rcl e s).all (·.oneCell') = true) (hx : a.eval x = .pointer (some ⟨b, 0, none⟩)) (hy : a.eval y = rval e s)
    (h : ∀ W', RCl W' b e s → Below W.heap.size W W' → b < W'.heap.size → wpList Tryz.prog ops Q rest a W') : wpList Tryz.prog ops Q (op :: rest) a (W.alloc (.cells C t)) := by
  subst hb
  have ht : (W.alloc (.cells C t)).there W.heap.size 0 (rcl e s).size := by have := there_newC W C t; rw [hC] at this; exact this
  have hr : RCl ((W.alloc (.cells C t)).setCells W.heap.size 0 (rcl e s).toList) W.heap.size e s := World.rangeAt_setCells_same _ _ _ _ ht
  refine wpList_store_mid hgd 29 x y ho W.heap.size 0 (rcl e s) hx hy ht (by kernel_rfl) hs ?_
  rw [hd]
  refine h _ hr ?_ (ecell_in (hr 0 _ rfl))
  exact ((Below.refl _ _).alloc (Nat.le_refl _) _).trans (blw_cells (Nat.le_refl _) _ _ _)
theorem one_slice {w : World} {v : Value} {l : List Int} (h : Ints w v l) : v.oneCell' = true := by
  obtain ⟨a, c, rfl, _⟩ := h; rfl
theorem one_nths {w : World} {v : Value} {l : List (Int × Int)} (h : Nths w v l) : v.oneCell' = true := by
  obtain ⟨a, c, rfl, _⟩ := h; rfl
theorem rcl_one {w : World} {e : Evt} {s : Evs} (h : EvB w e s) : (rcl e s).all (·.oneCell') = true := by
  simp [rcl, one_slice h.1, one_slice h.2.1, one_nths h.2.2.1, one_slice h.2.2.2.1]
  simp [Value.oneCell']
end Go.Proofs.YtoncfgfjdlgfcaaGreatDoor
