/-
  What is proved here: chimelaw3.MonthTells returns true for every two numbers, days, lines, row and column, and turns nothing that was there; the table of months and the type of errors are asked as premises. And what lists that are handed in give a walk.
-/
import Derived.Test.YtikpfeaidgeebaaDoorMoTellsL
import Derived.Test.YtikpfeaidgeebaaDoorMoTellsO
import Derived.Test.YtikpfeaidgeebaaDoorMoTellsR
import Derived.Test.YtikpfeaidgeebaaDoorMoTellsG
import Derived.Test.YtikpfeaidgeebaaDoorLay
import Derived.SliceStrings
import Derived.ChangeSlices
namespace Go.Proofs.YtikpfeaidgeebaaDoor.Mo
open Go.ChangeShapes Go.WideShapes Go.ChangeAt Go.RowKit Cal Txt

theorem mtells (y m : Int) (vd vl : Value) (ds : List Int) (l : List ByteArray) (r c : Int) (w : World) (hT : Tab w) (hE : ErrTy w) (hd : Ints w vd ds) (hn : ds.length ≤ 9223372036854775807) (hv : Txs w vl l) :
    Calls Tryd.prog 3 #[.int .i64 y, .int .i64 m, vd, vl, .int .i64 r, .int .i64 c] w fun e w' => e = .returned (.bool true) ∧ Below w.heap.size w w' := by
  by_cases h : isM y m
  · by_cases n1 : 100 < ds.length
    · exact mtells_long y m vd vl ds l r c w hT hE h hd hn hv n1
    rcases ha : ds.all (inM (fst y m) (lst y m)) with _ | _
    · exact mtells_out y m vd vl ds l r c w hT hE h hd hn hv n1 ha
    rcases hr : risB ds with _ | _
    · exact mtells_ris y m vd vl ds l r c w hT hE h hd hn hv n1 ha hr
    · exact mtells_good y m vd vl ds l r c w hT hE h hd hn hv n1 ha hr
  · exact mtells_no y m vd vl ds l r c w hE h hd hn hv
theorem mcellsStr : Tryd.prog.cellsOf 9 = 1 := by kernel_rfl
theorem madd_none {a : Addr} (h : a.spot = none) (i : Nat) : a.add i = ⟨a.block, a.off + i, none⟩ := by
  obtain ⟨b, o, s⟩ := a
  dsimp only at h
  subst h
  unfold Addr.add
  split <;> simp_all
theorem mspot_none {W : World} {a : Addr} {v : Value} (h : W.cell? (a.add 0) = some v) : a.spot = none := by
  have e : a.add 0 = a := by
    obtain ⟨b, o, s⟩ := a
    unfold Addr.add
    simp
  rw [e] at h
  unfold World.cell? at h
  split at h
  · rcases hs : a.spot with _ | s
    · rfl
    · rw [hs] at h
      simp at h
  · cases h
section
variable {H : Type} {enc : TypeId × Value → H} {W : World}
set_option maxRecDepth 100000 in
/-- A list of texts that is handed in. -/
theorem mtexts_open {r0 : Reach} {b0 : Nat} {v : Value} {d : DataW H} {p : List MemPlace} (hv : Value.okWide Tryd.prog W r0 b0 23 v) (h : DataW.Trod enc Tryd.prog W 0 (fun _ => true) true 23 v d p) : ∃ l, Txs W v l := by
  obtain ⟨a0, len0, cap0, rfl⟩ := okWide_slice Tryd.underlying23 hv
  obtain ⟨fuel, hf⟩ := h
  rcases open_strings Tryd.underlying23 Tryd.underlying9 mcellsStr hf with ⟨hc, _⟩ | ⟨a, len, cap, ss, hc, _, hle, _, hz, _, hcell, _⟩
  · have hc' : [Value.slice a0 len0 cap0] = [.slice none 0 0] := hc
    simp only [List.cons.injEq, Value.slice.injEq, and_true] at hc'
    obtain ⟨rfl, rfl, rfl⟩ := hc'
    exact ⟨[], none, 0, rfl, Or.inl rfl⟩
  · have hc' : [Value.slice a0 len0 cap0] = [.slice (some a) len cap] := hc
    simp only [List.cons.injEq, Value.slice.injEq, and_true] at hc'
    obtain ⟨rfl, rfl, rfl⟩ := hc'
    rw [if_pos rfl] at hz
    have hl : (ss.take len0).length = len0 := by rw [List.length_take]; omega
    refine ⟨ss.take len0, some a, cap0, by rw [hl], ?_⟩
    rcases Nat.eq_zero_or_pos len0 with h0 | h0
    · exact Or.inl (List.eq_nil_of_length_eq_zero (by omega))
    · have hs := mspot_none (hcell 0 (by omega))
      refine Or.inr ⟨a.block, a.off, by obtain ⟨b, o, s⟩ := a; dsimp only at hs; subst hs; rfl, fun i hi => ?_⟩
      rw [hl] at hi
      have := hcell i (by omega)
      rw [madd_none hs] at this
      rw [this, List.getD_eq_getElem?_getD, List.getD_eq_getElem?_getD, List.getElem?_take, if_pos hi]
set_option maxRecDepth 100000 in
/-- A list of numbers that is handed in. -/
theorem mints_open {r0 : Reach} {b0 : Nat} {v : Value} {d : DataW H} {p : List MemPlace} (hv : Value.okWide Tryd.prog W r0 b0 22 v) (h : DataW.Trod enc Tryd.prog W 0 (fun _ => true) true 22 v d p) : ∃ l, Ints W v l ∧ l.length ≤ 9223372036854775807 := by
  obtain ⟨a0, len0, cap0, rfl⟩ := okWide_slice Tryd.underlying22 hv
  obtain ⟨fuel, hf⟩ := h
  rcases open_ints Tryd.underlying22 Tryd.underlying3 cellsInt hf with ⟨hc, _⟩ | ⟨a, len, cap, zs, hc, _, hle, hm, hz, _, hcell, _⟩
  · have hc' : [Value.slice a0 len0 cap0] = [.slice none 0 0] := hc
    simp only [List.cons.injEq, Value.slice.injEq, and_true] at hc'
    obtain ⟨rfl, rfl, rfl⟩ := hc'
    exact ⟨[], ⟨none, 0, rfl, Or.inl rfl⟩, by simp⟩
  · have hc' : [Value.slice a0 len0 cap0] = [.slice (some a) len cap] := hc
    simp only [List.cons.injEq, Value.slice.injEq, and_true] at hc'
    obtain ⟨rfl, rfl, rfl⟩ := hc'
    rw [if_pos rfl] at hz
    have hl : (zs.take len0).length = len0 := by rw [List.length_take]; omega
    refine ⟨zs.take len0, ⟨some a, cap0, by rw [hl], ?_⟩, by rw [hl]; unfold maxLen at hm; omega⟩
    rcases Nat.eq_zero_or_pos len0 with h0 | h0
    · exact Or.inl (List.eq_nil_of_length_eq_zero (by omega))
    · have hs := mspot_none (hcell 0 (by omega))
      refine Or.inr ⟨a.block, a.off, by obtain ⟨b, o, s⟩ := a; dsimp only at hs; subst hs; rfl, fun i hi => ?_⟩
      rw [hl] at hi
      have := hcell i (by omega)
      rw [madd_none hs] at this
      rw [this, List.getD_eq_getElem?_getD, List.getD_eq_getElem?_getD, List.getElem?_take, if_pos hi]
end
end Go.Proofs.YtikpfeaidgeebaaDoor.Mo
