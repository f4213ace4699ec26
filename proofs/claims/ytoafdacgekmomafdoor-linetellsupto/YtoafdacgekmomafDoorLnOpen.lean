/-
  What is proved here: what a list of texts that is handed in gives a walk; what the laid bytes that are marked give it.
-/
import Derived.Test.YtoafdacgekmomafDoorLayG
import Derived.Test.YtoafdacgekmomafDoorLnUnf
import Derived.ChangeMaps5
import Derived.Carry
import Derived.LaidLaws
import Derived.SliceStrings
import Derived.Lib.LaidU8
namespace Go.Proofs.YtoafdacgekmomafDoor
open Go.ChangeShapes Go.WideShapes Go.ChangeAt Go.RowKit Cal Ln

theorem cellsStr : Tryd.prog.cellsOf 9 = 1 := by kernel_rfl
theorem lnadd_none {a : Addr} (h : a.spot = none) (i : Nat) : a.add i = ⟨a.block, a.off + i, none⟩ := by
  obtain ⟨b, o, s⟩ := a
  dsimp only at h
  subst h
  unfold Addr.add
  split <;> simp_all
theorem lnspot_none {W : World} {a : Addr} {v : Value} (h : W.cell? (a.add 0) = some v) : a.spot = none := by
  have e : a.add 0 = a := by
    obtain ⟨b, o, s⟩ := a
    unfold Addr.add
    simp
  rw [e] at h
  unfold World.cell? at h
  split at h
  · rcases hs : a.spot with _ | s
    · rfl
    · rw [hs] at h
      simp at h
  · cases h
section
variable {H : Type} {enc : TypeId × Value → H} {W : World}
theorem strs_bulk : ∀ l : List ByteArray, Rows.uptoBulkAll (H := H) (l.map fun s => .lit (.string s.data.toList)) = l.length + tot (pcl l)
  | [] => rfl
  | s :: l => by
    have e : pcl (s :: l) = s.data.toList :: pcl l := rfl
    rw [List.map_cons, e, tot_cons]
    show Rows.uptoBulk (.lit (.string s.data.toList)) + Rows.uptoBulkAll _ = _
    rw [strs_bulk l]
    simp only [Rows.uptoBulk, List.length_cons]
    omega
set_option maxRecDepth 100000 in
/-- A list of texts that is handed in. -/
theorem texts_open {r0 : Reach} {b0 : Nat} {v : Value} {d : DataW H} {p : List MemPlace} (hv : Value.okWide Tryd.prog W r0 b0 22 v) (h : DataW.Trod enc Tryd.prog W 0 (fun _ => true) true 22 v d p) : ∃ l, Txs W v l ∧ l.length + tot (pcl l) ≤ Rows.uptoBulk d := by
  obtain ⟨a0, len0, cap0, rfl⟩ := okWide_slice Tryd.underlying22 hv
  obtain ⟨fuel, hf⟩ := h
  rcases open_strings Tryd.underlying22 Tryd.underlying9 cellsStr hf with ⟨hc, _⟩ | ⟨a, len, cap, ss, hc, _, hle, _, hz, hx, hcell, _⟩
  · have hc' : [Value.slice a0 len0 cap0] = [.slice none 0 0] := hc
    simp only [List.cons.injEq, Value.slice.injEq, and_true] at hc'
    obtain ⟨rfl, rfl, rfl⟩ := hc'
    exact ⟨[], ⟨none, 0, rfl, Or.inl rfl⟩, by simp [tot, pcl]⟩
  · have hc' : [Value.slice a0 len0 cap0] = [.slice (some a) len cap] := hc
    simp only [List.cons.injEq, Value.slice.injEq, and_true] at hc'
    obtain ⟨rfl, rfl, rfl⟩ := hc'
    rw [if_pos rfl] at hz
    have hl : (ss.take len0).length = len0 := by rw [List.length_take]; omega
    refine ⟨ss.take len0, ⟨some a, cap0, by rw [hl], ?_⟩, ?_⟩
    · rcases Nat.eq_zero_or_pos len0 with h0 | h0
      · exact Or.inl (List.eq_nil_of_length_eq_zero (by omega))
      · have hs := lnspot_none (hcell 0 (by omega))
        refine Or.inr ⟨a.block, a.off, by obtain ⟨b, o, s⟩ := a; dsimp only at hs; subst hs; rfl, fun i hi => ?_⟩
        rw [hl] at hi
        have := hcell i (by omega)
        rw [lnadd_none hs] at this
        rw [this, List.getD_eq_getElem?_getD, List.getD_eq_getElem?_getD, List.getElem?_take, if_pos hi]
    · have hd := congrArg Prod.fst hx
      dsimp only at hd
      rw [hd]
      simp only [Rows.uptoBulk]
      have := strs_bulk (H := H) (ss.take len0)
      show _ ≤ Rows.uptoBulkAll ((ss.take len0).map fun s => .lit (.string s.data.toList)) + _ + 1
      omega
end
theorem gMrk : Tryd.prog.globalNamed "chimework/line.marked" = some 0 := by kernel_rfl
theorem gMrkType : (Tryd.prog.globals[0]?).map (·.type) = some 57 := by kernel_rfl
theorem cellsMrk : Tryd.prog.cellsOf 56 = 2 := by kernel_rfl
theorem cellsB8 : Tryd.prog.cellsOf 5 = 1 := by kernel_rfl
theorem at_two {cs : List Value} {i j : Nat} {v : Value} (hj : j < 2) (h : ((cs.drop (i * 2)).take 2)[j]? = some v) : cs[i * 2 + j]? = some v := by
  rw [List.getElem?_take, if_pos hj, List.getElem?_drop] at h; exact h
theorem mrk_of {W : World} (h : Reads Tryd.prog W "chimework/line.marked" Rows.laid_chimework_line_marked) : Mrk W := by
  obtain ⟨g', t', cs, fuel, p, hg', ht', hvar, hd⟩ := h
  obtain rfl := Option.some.inj (gMrk.symm.trans hg')
  obtain rfl := Option.some.inj (gMrkType.symm.trans ht')
  have key : ∀ (i : Nat) (_ : i < 4) (a b : Int), ([DataW.agg [.lit (.int .u8 92), .lit (.int .u8 92)], .agg [.lit (.int .u8 59), .lit (.int .u8 59)], .agg [.lit (.int .u8 44), .lit (.int .u8 44)], .agg [.lit (.int .u8 10), .lit (.int .u8 110)]] : List (DataW Unit))[i]? = some (.agg [.lit (.int .u8 a), .lit (.int .u8 b)]) →
      W.cell? ⟨0, i * 2 + 0, none⟩ = some (.int .u8 a) ∧ W.cell? ⟨0, i * 2 + 1, none⟩ = some (.int .u8 b) := by
    intro i hi a b hx
    obtain ⟨fuel', d, q, hdi, he⟩ := Lib.array_elem Tryd.underlying57 hd i hi
    obtain rfl := Option.some.inj (hx.symm.trans hdi)
    rw [cellsMrk] at he
    have f0 := field_int Tryd.underlying56 he 0 _ rfl Tryd.underlying5 cellsB8 rfl
    have f1 := field_int Tryd.underlying56 he 1 _ rfl Tryd.underlying5 cellsB8 rfl
    refine ⟨?_, ?_⟩
    · rw [World.var?_cell gMrk hvar, ← Array.getElem?_toList]; exact at_two (by decide) f0
    · rw [World.var?_cell gMrk hvar, ← Array.getElem?_toList]; exact at_two (by decide) f1
  exact ⟨(key 0 (by decide) _ _ rfl).1, (key 0 (by decide) _ _ rfl).2, (key 1 (by decide) _ _ rfl).1, (key 1 (by decide) _ _ rfl).2, (key 2 (by decide) _ _ rfl).1, (key 2 (by decide) _ _ rfl).2, (key 3 (by decide) _ _ rfl).1, (key 3 (by decide) _ _ rfl).2⟩
end Go.Proofs.YtoafdacgekmomafDoor
