/-
  What is proved here: what the listed tables, words and errors give a walk of package card's laws. wip/tools/mk_cbopen.py writes this text.
-/
import Derived.Test.YtpplfcfhjpfckaaGreatDoorRlBase
import Derived.Test.YtpplfcfhjpfckaaGreatDoorCbVal
import Derived.Test.YtpplfcfhjpfckaaGreatDoorRF
import Derived.Carry
import Derived.LaidLaws
namespace Go.Proofs.YtpplfcfhjpfckaaGreatDoor
open Go.ChangeShapes Go.WideShapes Go.ChangeAt Go.RowKit Cal Txt
namespace Cbo

theorem gUni : Tryz.prog.globalNamed "chimework/clock.units" = some 3 := by kernel_rfl
theorem gUniType : (Tryz.prog.globals[3]?).map (·.type) = some 154 := by kernel_rfl
theorem cellsUnit : Tryz.prog.cellsOf 153 = 3 := by kernel_rfl
theorem cellsU8 : Tryz.prog.cellsOf 5 = 1 := by kernel_rfl

theorem at_three {cs : List Value} {i j : Nat} {v : Value} (hj : j < 3) (h : ((cs.drop (i * 3)).take 3)[j]? = some v) : cs[i * 3 + j]? = some v := by
  rw [List.getElem?_take, if_pos hj, List.getElem?_drop] at h; exact h
theorem uni_of {W : World} (h : Reads Tryz.prog W "chimework/clock.units" Rows.laid_chimework_clock_units) : Uni W := by
  obtain ⟨g', t', cs, fuel, p, hg', ht', hvar, hd⟩ := h
  obtain rfl := Option.some.inj (gUni.symm.trans hg')
  obtain rfl := Option.some.inj (gUniType.symm.trans ht')
  have key : ∀ (i : Nat) (_ : i < 3) (a b c : Int), ([DataW.agg [.lit (.int .u8 100), .lit (.int .i64 1440), .lit (.int .i64 999999999)], .agg [.lit (.int .u8 104), .lit (.int .i64 60), .lit (.int .i64 23)], .agg [.lit (.int .u8 109), .lit (.int .i64 1), .lit (.int .i64 59)]] : List (DataW Unit))[i]? = some (.agg [.lit (.int .u8 a), .lit (.int .i64 b), .lit (.int .i64 c)]) →
      W.cell? ⟨3, i * 3 + 0, none⟩ = some (.int .u8 a) ∧ W.cell? ⟨3, i * 3 + 1, none⟩ = some (.int .i64 b) ∧ W.cell? ⟨3, i * 3 + 2, none⟩ = some (.int .i64 c) := by
    intro i hi a b c hx
    obtain ⟨fuel', d, q, hdi, he⟩ := Lib.array_elem Tryz.underlying154 hd i hi
    obtain rfl := Option.some.inj (hx.symm.trans hdi)
    rw [cellsUnit] at he
    have f0 := field_int Tryz.underlying153 he 0 _ rfl Tryz.underlying5 cellsU8 rfl
    have f1 := field_int Tryz.underlying153 he 1 _ rfl Tryz.underlying3 cellsInt rfl
    have f2 := field_int Tryz.underlying153 he 2 _ rfl Tryz.underlying3 cellsInt rfl
    refine ⟨?_, ?_, ?_⟩
    · rw [World.var?_cell gUni hvar, ← Array.getElem?_toList]; exact at_three (by decide) f0
    · rw [World.var?_cell gUni hvar, ← Array.getElem?_toList]; exact at_three (by decide) f1
    · rw [World.var?_cell gUni hvar, ← Array.getElem?_toList]; exact at_three (by decide) f2
  exact ⟨key 0 (by decide) _ _ _ rfl, key 1 (by decide) _ _ _ rfl, key 2 (by decide) _ _ _ rfl⟩
theorem gES : Tryz.prog.globalNamed "strconv.ErrSyntax" = some 9 := by kernel_rfl
theorem gEST : (Tryz.prog.globals[9]?).map (·.type) = some 31 := by kernel_rfl
theorem gER : Tryz.prog.globalNamed "strconv.ErrRange" = some 10 := by kernel_rfl
theorem gERT : (Tryz.prog.globals[10]?).map (·.type) = some 31 := by kernel_rfl
theorem sent_of {W : World} {name : String} {g : Nat} {nm : String} {d : DataW Unit} (hg : Tryz.prog.globalNamed name = some g) (hty : (Tryz.prog.globals[g]?).map (·.type) = some 31) (h : Reads Tryz.prog W name (.iface nm d)) : ∃ te pe, W.cell? ⟨g, 0, none⟩ = some (.iface te pe) := by
  obtain ⟨g', t', cs, fuel, p, hg', ht', hvar, hd⟩ := h
  obtain rfl := Option.some.inj (hg.symm.trans hg')
  obtain rfl := Option.some.inj (hty.symm.trans ht')
  obtain ⟨_, u, v, hc, _⟩ := iface_of_trod Tryz.underlying31 hd
  refine ⟨u, v, ?_⟩
  rw [World.var?_cell hg hvar, ← Array.getElem?_toList, hc]
  rfl
theorem ers_of {W : World} (h1 : Reads Tryz.prog W "strconv.ErrSyntax" Rows.laid_strconv_ErrSyntax) (h2 : Reads Tryz.prog W "strconv.ErrRange" Rows.laid_strconv_ErrRange) : ErS W := ⟨sent_of gES gEST h1, sent_of gER gERT h2⟩
theorem gMrk : Tryz.prog.globalNamed "chimework/line.marked" = some 2 := by kernel_rfl
theorem gMrkType : (Tryz.prog.globals[2]?).map (·.type) = some 147 := by kernel_rfl
theorem cellsMrk : Tryz.prog.cellsOf 146 = 2 := by kernel_rfl
theorem cellsB8 : Tryz.prog.cellsOf 5 = 1 := by kernel_rfl
theorem at_two {cs : List Value} {i j : Nat} {v : Value} (hj : j < 2) (h : ((cs.drop (i * 2)).take 2)[j]? = some v) : cs[i * 2 + j]? = some v := by
  rw [List.getElem?_take, if_pos hj, List.getElem?_drop] at h; exact h
theorem mrk_of {W : World} (h : Reads Tryz.prog W "chimework/line.marked" Rows.laid_chimework_line_marked) : Mrk W := by
  obtain ⟨g', t', cs, fuel, p, hg', ht', hvar, hd⟩ := h
  obtain rfl := Option.some.inj (gMrk.symm.trans hg')
  obtain rfl := Option.some.inj (gMrkType.symm.trans ht')
  have key : ∀ (i : Nat) (_ : i < 4) (a b : Int), ([DataW.agg [.lit (.int .u8 92), .lit (.int .u8 92)], .agg [.lit (.int .u8 59), .lit (.int .u8 59)], .agg [.lit (.int .u8 44), .lit (.int .u8 44)], .agg [.lit (.int .u8 10), .lit (.int .u8 110)]] : List (DataW Unit))[i]? = some (.agg [.lit (.int .u8 a), .lit (.int .u8 b)]) →
      W.cell? ⟨2, i * 2 + 0, none⟩ = some (.int .u8 a) ∧ W.cell? ⟨2, i * 2 + 1, none⟩ = some (.int .u8 b) := by
    intro i hi a b hx
    obtain ⟨fuel', d, q, hdi, he⟩ := Lib.array_elem Tryz.underlying147 hd i hi
    obtain rfl := Option.some.inj (hx.symm.trans hdi)
    rw [cellsMrk] at he
    have f0 := field_int Tryz.underlying146 he 0 _ rfl Tryz.underlying5 cellsB8 rfl
    have f1 := field_int Tryz.underlying146 he 1 _ rfl Tryz.underlying5 cellsB8 rfl
    refine ⟨?_, ?_⟩
    · rw [World.var?_cell gMrk hvar, ← Array.getElem?_toList]; exact at_two (by decide) f0
    · rw [World.var?_cell gMrk hvar, ← Array.getElem?_toList]; exact at_two (by decide) f1
  exact ⟨(key 0 (by decide) _ _ rfl).1, (key 0 (by decide) _ _ rfl).2, (key 1 (by decide) _ _ rfl).1, (key 1 (by decide) _ _ rfl).2, (key 2 (by decide) _ _ rfl).1, (key 2 (by decide) _ _ rfl).2, (key 3 (by decide) _ _ rfl).1, (key 3 (by decide) _ _ rfl).2⟩
/-- A text among a struct's fields; a truth. -/
theorem field_str {H : Type} {enc : TypeId × Value → H} {P : Program} {w : World} {base : Nat} {sp : Nat → Bool} {held : Bool} {fuel : Nat} {t : TypeId} {fs : Array Field} {cs : List Value} {ds : List (DataW H)} {p : List MemPlace}
    (ht : P.underlying t = some (.struct fs)) (h : DataW.trod enc P w base sp held fuel t cs = some (.agg ds, p)) (i : Nat) (f : Field) (hf : fs[i]? = some f) {z : List UInt8}
    (hu : P.underlying f.type = some .string) (hc : P.cellsOf f.type = 1) (hd : ds[i]? = some (.lit (.string z))) : cs[f.offset]? = some (.string (tb z)) := by
  obtain ⟨xs, n, rfl, hx, hl, hxl, hall⟩ := DataW.trod_struct ht h
  have hxs : xs.map (·.1) = ds := by
    have := congrArg Prod.fst hx
    simpa using this.symm
  have h1 := hall i f hf
  have hi : i < xs.length := by
    rw [hxl]; exact (Array.getElem?_eq_some_iff.1 hf).1
  obtain ⟨b, hb⟩ : ∃ b, xs[i]? = some b := ⟨xs[i], List.getElem?_eq_getElem hi⟩
  rw [hb, hc] at h1
  obtain ⟨z', hcz, rfl, _⟩ := DataW.trod_string hu h1
  have h2 : cs[f.offset]? = some (.string z') := by
    have := congrArg (·[0]?) hcz
    simpa [List.getElem?_take, List.getElem?_drop] using this
  have h3 : (xs.map (·.1))[i]? = some (DataW.lit (.string z'.data.toList) : DataW H) := by simp [hb]
  rw [hxs, hd] at h3
  simp only [Option.some.injEq, DataW.lit.injEq, Lit.string.injEq] at h3
  rw [h2, h3]
  obtain ⟨a⟩ := z'
  simp [tb]
theorem field_bool {H : Type} {enc : TypeId × Value → H} {P : Program} {w : World} {base : Nat} {sp : Nat → Bool} {held : Bool} {fuel : Nat} {t : TypeId} {fs : Array Field} {cs : List Value} {ds : List (DataW H)} {p : List MemPlace}
    (ht : P.underlying t = some (.struct fs)) (h : DataW.trod enc P w base sp held fuel t cs = some (.agg ds, p)) (i : Nat) (f : Field) (hf : fs[i]? = some f) {z : Bool}
    (hu : P.underlying f.type = some .bool) (hc : P.cellsOf f.type = 1) (hd : ds[i]? = some (.lit (.bool z))) : cs[f.offset]? = some (.bool z) := by
  obtain ⟨xs, n, rfl, hx, hl, hxl, hall⟩ := DataW.trod_struct ht h
  have hxs : xs.map (·.1) = ds := by
    have := congrArg Prod.fst hx
    simpa using this.symm
  have h1 := hall i f hf
  have hi : i < xs.length := by
    rw [hxl]; exact (Array.getElem?_eq_some_iff.1 hf).1
  obtain ⟨b, hb⟩ : ∃ b, xs[i]? = some b := ⟨xs[i], List.getElem?_eq_getElem hi⟩
  rw [hb, hc] at h1
  obtain ⟨z', hcz, rfl⟩ := DataW.trod_bool hu h1
  have h2 : cs[f.offset]? = some (.bool z') := by
    have := congrArg (·[0]?) hcz
    simpa [List.getElem?_take, List.getElem?_drop] using this
  have h3 : (xs.map (·.1))[i]? = some (DataW.lit (.bool z') : DataW H) := by simp [hb]
  rw [hxs, hd] at h3
  simp only [Option.some.injEq, DataW.lit.injEq, Lit.bool.injEq] at h3
  rw [h2, h3]
theorem gKnd : Tryz.prog.globalNamed "chimework/card.kinds" = some 0 := by kernel_rfl
theorem gKndT : (Tryz.prog.globals[0]?).map (·.type) = some 78 := by kernel_rfl
theorem cellsKnd : Tryz.prog.cellsOf 77 = 3 := by kernel_rfl
theorem cellsStr1 : Tryz.prog.cellsOf 9 = 1 := by kernel_rfl
theorem cellsBool1 : Tryz.prog.cellsOf 4 = 1 := by kernel_rfl
theorem knd_of {W : World} (h : Reads Tryz.prog W "chimework/card.kinds" Rows.laid_chimework_card_kinds) : KnW W := by
  obtain ⟨g', t', cs, fuel, p, hg', ht', hvar, hd⟩ := h
  obtain rfl := Option.some.inj (gKnd.symm.trans hg')
  obtain rfl := Option.some.inj (gKndT.symm.trans ht')
  have key : ∀ (i : Nat) (_ : i < 9) (a : List UInt8) (b c : Bool), ([.agg [.lit (.string [78, 65, 77, 69]), .lit (.bool true), .lit (.bool false)], .agg [.lit (.string [84, 69, 88, 84]), .lit (.bool false), .lit (.bool false)], .agg [.lit (.string [83, 84, 65, 82, 84]), .lit (.bool true), .lit (.bool false)], .agg [.lit (.string [76, 69, 78, 71, 84, 72]), .lit (.bool true), .lit (.bool false)], .agg [.lit (.string [82, 85, 76, 69]), .lit (.bool false), .lit (.bool false)], .agg [.lit (.string [77, 79, 82, 69]), .lit (.bool false), .lit (.bool true)], .agg [.lit (.string [78, 79, 84]), .lit (.bool false), .lit (.bool true)], .agg [.lit (.string [77, 79, 86, 69]), .lit (.bool false), .lit (.bool true)], .agg [.lit (.string [65, 76, 65, 82, 77]), .lit (.bool false), .lit (.bool true)]] : List (DataW Unit))[i]? = some (.agg [.lit (.string a), .lit (.bool b), .lit (.bool c)]) →
      W.cell? ⟨0, i * 3 + 0, none⟩ = some (.string (tb a)) ∧ W.cell? ⟨0, i * 3 + 1, none⟩ = some (.bool b) ∧ W.cell? ⟨0, i * 3 + 2, none⟩ = some (.bool c) := by
    intro i hi a b c hx
    obtain ⟨fuel', d, q, hdi, he⟩ := Lib.array_elem Tryz.underlying78 hd i hi
    obtain rfl := Option.some.inj (hx.symm.trans hdi)
    rw [cellsKnd] at he
    have f0 := field_str Tryz.underlying77 he 0 _ rfl Tryz.underlying9 cellsStr1 rfl
    have f1 := field_bool Tryz.underlying77 he 1 _ rfl Tryz.underlying4 cellsBool1 rfl
    have f2 := field_bool Tryz.underlying77 he 2 _ rfl Tryz.underlying4 cellsBool1 rfl
    refine ⟨?_, ?_, ?_⟩
    · rw [World.var?_cell gKnd hvar, ← Array.getElem?_toList]; exact at_three (by decide) f0
    · rw [World.var?_cell gKnd hvar, ← Array.getElem?_toList]; exact at_three (by decide) f1
    · rw [World.var?_cell gKnd hvar, ← Array.getElem?_toList]; exact at_three (by decide) f2
  obtain ⟨a0, b0, c0⟩ := key 0 (by decide) _ _ _ rfl
  obtain ⟨a1, b1, c1⟩ := key 1 (by decide) _ _ _ rfl
  obtain ⟨a2, b2, c2⟩ := key 2 (by decide) _ _ _ rfl
  obtain ⟨a3, b3, c3⟩ := key 3 (by decide) _ _ _ rfl
  obtain ⟨a4, b4, c4⟩ := key 4 (by decide) _ _ _ rfl
  obtain ⟨a5, b5, c5⟩ := key 5 (by decide) _ _ _ rfl
  obtain ⟨a6, b6, c6⟩ := key 6 (by decide) _ _ _ rfl
  obtain ⟨a7, b7, c7⟩ := key 7 (by decide) _ _ _ rfl
  obtain ⟨a8, b8, c8⟩ := key 8 (by decide) _ _ _ rfl
  intro j v hv
  have hj : j < 27 := (List.getElem?_eq_some_iff.1 hv).1
  rw [Nat.zero_add]
  rcases (by omega : j = 0 ∨ j = 1 ∨ j = 2 ∨ j = 3 ∨ j = 4 ∨ j = 5 ∨ j = 6 ∨ j = 7 ∨ j = 8 ∨ j = 9 ∨ j = 10 ∨ j = 11 ∨ j = 12 ∨ j = 13 ∨ j = 14 ∨ j = 15 ∨ j = 16 ∨ j = 17 ∨ j = 18 ∨ j = 19 ∨ j = 20 ∨ j = 21 ∨ j = 22 ∨ j = 23 ∨ j = 24 ∨ j = 25 ∨ j = 26) with rfl | rfl | rfl | rfl | rfl | rfl | rfl | rfl | rfl | rfl | rfl | rfl | rfl | rfl | rfl | rfl | rfl | rfl | rfl | rfl | rfl | rfl | rfl | rfl | rfl | rfl | rfl
  · exact a0.trans hv
  · exact b0.trans hv
  · exact c0.trans hv
  · exact a1.trans hv
  · exact b1.trans hv
  · exact c1.trans hv
  · exact a2.trans hv
  · exact b2.trans hv
  · exact c2.trans hv
  · exact a3.trans hv
  · exact b3.trans hv
  · exact c3.trans hv
  · exact a4.trans hv
  · exact b4.trans hv
  · exact c4.trans hv
  · exact a5.trans hv
  · exact b5.trans hv
  · exact c5.trans hv
  · exact a6.trans hv
  · exact b6.trans hv
  · exact c6.trans hv
  · exact a7.trans hv
  · exact b7.trans hv
  · exact c7.trans hv
  · exact a8.trans hv
  · exact b8.trans hv
  · exact c8.trans hv
end Cbo
end Go.Proofs.YtpplfcfhjpfckaaGreatDoor
