/-
  What is proved here: what a rule that is handed in gives a walk.
-/
import Derived.Test.YtoafdacgekmomabGreatDoorRlBase
import Derived.Test.YtoafdacgekmomabGreatDoorRpWords
import Derived.Carry
import Derived.LaidLaws
namespace Go.Proofs.YtoafdacgekmomabGreatDoor
open Go.ChangeShapes Go.WideShapes Go.ChangeAt Go.RowKit Cal Txt

theorem array8 {a : Array Value} (h : a.size = 8) : ∃ a0 a1 a2 a3 a4 a5 a6 a7, a = #[a0, a1, a2, a3, a4, a5, a6, a7] := by
  obtain ⟨l⟩ := a
  match l, h with
  | [a0, a1, a2, a3, a4, a5, a6, a7], _ => exact ⟨_, _, _, _, _, _, _, _, rfl⟩
theorem add_none {a : Addr} (h : a.spot = none) (i : Nat) : a.add i = ⟨a.block, a.off + i, none⟩ := by
  obtain ⟨b, o, s⟩ := a
  dsimp only at h
  subst h
  unfold Addr.add
  split <;> simp_all
theorem spot_none {W : World} {a : Addr} {v : Value} (h : W.cell? (a.add 0) = some v) : a.spot = none := by
  have e : a.add 0 = a := by
    obtain ⟨b, o, s⟩ := a
    unfold Addr.add
    simp
  rw [e] at h
  unfold World.cell? at h
  split at h
  · rcases hs : a.spot with _ | s
    · rfl
    · rw [hs] at h
      simp at h
  · cases h
theorem cellsNth2 : Tryz.prog.cellsOf 41 = 2 := by kernel_rfl
theorem cellsRule : Tryz.prog.cellsOf 25 = 8 := by kernel_rfl
theorem gES : Tryz.prog.globalNamed "strconv.ErrSyntax" = some 9 := by kernel_rfl
theorem gEST : (Tryz.prog.globals[9]?).map (·.type) = some 29 := by kernel_rfl
theorem gER : Tryz.prog.globalNamed "strconv.ErrRange" = some 10 := by kernel_rfl
theorem gERT : (Tryz.prog.globals[10]?).map (·.type) = some 29 := by kernel_rfl
theorem sent_of {W : World} {name : String} {g : Nat} {nm : String} {d : DataW Unit} (hg : Tryz.prog.globalNamed name = some g) (hty : (Tryz.prog.globals[g]?).map (·.type) = some 29) (h : Reads Tryz.prog W name (.iface nm d)) : ∃ te pe, W.cell? ⟨g, 0, none⟩ = some (.iface te pe) := by
  obtain ⟨g', t', cs, fuel, p, hg', ht', hvar, hd⟩ := h
  obtain rfl := Option.some.inj (hg.symm.trans hg')
  obtain rfl := Option.some.inj (hty.symm.trans ht')
  obtain ⟨_, u, v, hc, _⟩ := iface_of_trod Tryz.underlying29 hd
  refine ⟨u, v, ?_⟩
  rw [World.var?_cell hg hvar, ← Array.getElem?_toList, hc]
  rfl
theorem ers_of {W : World} (h1 : Reads Tryz.prog W "strconv.ErrSyntax" Rows.laid_strconv_ErrSyntax) (h2 : Reads Tryz.prog W "strconv.ErrRange" Rows.laid_strconv_ErrRange) : ErS W := ⟨sent_of gES gEST h1, sent_of gER gERT h2⟩
section
variable {H : Type} {enc : TypeId × Value → H} {W : World}
set_option maxRecDepth 100000 in
theorem ints_of {n : Nat} {c : Value} {x : DataW H × List MemPlace} (h : DataW.trod enc Tryz.prog W 0 (fun _ => true) true n 22 [c] = some x) : ∃ l, Ints W c l := by
  rcases open_ints Tryz.underlying22 Tryz.underlying3 cellsInt h with ⟨hc, _⟩ | ⟨a, len, cap, zs, hc, _, hle, _, hz, _, hcell, _⟩
  · obtain rfl : c = .slice none 0 0 := by simpa using hc
    exact ⟨[], none, 0, rfl, Or.inl rfl⟩
  · obtain rfl : c = .slice (some a) len cap := by simpa using hc
    rw [if_pos rfl] at hz
    have hl : (zs.take len).length = len := by rw [List.length_take]; omega
    refine ⟨zs.take len, some a, cap, by rw [hl], ?_⟩
    rcases Nat.eq_zero_or_pos len with h0 | h0
    · exact Or.inl (List.eq_nil_of_length_eq_zero (by omega))
    · have hs := spot_none (hcell 0 (by omega))
      refine Or.inr ⟨a.block, a.off, by obtain ⟨b, o, s⟩ := a; dsimp only at hs; subst hs; rfl, fun i hi => ?_⟩
      rw [hl] at hi
      have := hcell i (by omega)
      rw [add_none hs] at this
      rw [this, List.getD_eq_getElem?_getD, List.getD_eq_getElem?_getD, List.getElem?_take, if_pos hi]
set_option maxRecDepth 100000 in
theorem nth_of {n : Nat} {cs : List Value} {x : DataW H × List MemPlace} (h : DataW.trod enc Tryz.prog W 0 (fun _ => true) true n 41 cs = some x) : ∃ y : Int × Int, cs = [.int .i64 y.1, .int .i64 y.2] := by
  obtain ⟨xs, m, rfl, _, hl, hxl, hall⟩ := DataW.trod_struct Tryz.underlying41 h
  rw [cellsNth2] at hl
  obtain ⟨c0, c1, rfl⟩ : ∃ c0 c1, cs = [c0, c1] := by
    match cs, hl with
    | [a, b], _ => exact ⟨a, b, rfl⟩
  have h0 := hall 0 _ rfl
  have h1 := hall 1 _ rfl
  have hxl' : xs.length = 2 := hxl
  rw [List.getElem?_eq_getElem (by omega)] at h0 h1
  obtain ⟨a, e0, _⟩ := DataW.trod_int Tryz.underlying3 h0
  obtain ⟨b, e1, _⟩ := DataW.trod_int Tryz.underlying3 h1
  refine ⟨(a, b), ?_⟩
  have e0' : [c0] = [Value.int .i64 a] := e0
  have e1' : [c1] = [Value.int .i64 b] := e1
  simp at e0' e1'
  rw [e0', e1']
set_option maxRecDepth 100000 in
theorem nths_of {n : Nat} {c : Value} {x : DataW H × List MemPlace} (h : DataW.trod enc Tryz.prog W 0 (fun _ => true) true n 23 [c] = some x) : ∃ l, Nths W c l := by
  rcases DataW.trod_slice Tryz.underlying23 h with ⟨hc, _⟩ | ⟨a, len, cap, elems, rest, m, _, hc, _, _, _, _, hlen, hel, _⟩
  · obtain rfl : c = .slice none 0 0 := by simpa using hc
    exact ⟨[], none, 0, rfl, Or.inl rfl⟩
  · obtain rfl : c = .slice (some a) len cap := by simpa using hc
    have each : ∀ i, i < len → ∃ y : Int × Int, W.cell? (a.add (i * 2)) = some (.int .i64 y.1) ∧ W.cell? ((a.add (i * 2)).add 1) = some (.int .i64 y.2) := fun i hi => by
      have := hel i hi
      rw [cellsNth2, List.getElem?_eq_getElem (by omega), Option.bind_eq_some_iff] at this
      obtain ⟨cs, hcs, ht⟩ := this
      obtain ⟨y, rfl⟩ := nth_of ht
      have hc := (World.cells?_some hcs).2.2
      refine ⟨y, ?_, ?_⟩
      · have := hc 0 (by decide)
        have e : (a.add (i * 2)).add 0 = a.add (i * 2) := by
          obtain ⟨b, o, s⟩ := a
          unfold Addr.add
          cases s <;> simp
        rw [e] at this
        simpa using this
      · simpa using hc 1 (by decide)
    have choose : ∃ l : List (Int × Int), l.length = len ∧ ∀ i, i < len → W.cell? (a.add (i * 2)) = some (.int .i64 (l.getD i (0, 0)).1) ∧ W.cell? ((a.add (i * 2)).add 1) = some (.int .i64 (l.getD i (0, 0)).2) := by
      have : ∀ k, k ≤ len → ∃ l : List (Int × Int), l.length = k ∧ ∀ i, i < k → W.cell? (a.add (i * 2)) = some (.int .i64 (l.getD i (0, 0)).1) ∧ W.cell? ((a.add (i * 2)).add 1) = some (.int .i64 (l.getD i (0, 0)).2) := by
        intro k
        induction k with
        | zero => intro _; exact ⟨[], rfl, fun i hi => by omega⟩
        | succ k ih =>
          intro hk
          obtain ⟨l, hl, hc⟩ := ih (by omega)
          obtain ⟨y, y1, y2⟩ := each k (by omega)
          refine ⟨l ++ [y], by simp [hl], fun i hi => ?_⟩
          rcases Nat.lt_or_ge i k with g | g
          · have := hc i g
            rw [List.getD_eq_getElem?_getD, List.getElem?_append_left (by omega), ← List.getD_eq_getElem?_getD]
            exact this
          · obtain rfl : i = k := by omega
            rw [List.getD_eq_getElem?_getD, List.getElem?_append_right (by omega), hl, Nat.sub_self]
            exact ⟨y1, y2⟩
      exact this len (Nat.le_refl _)
    obtain ⟨l, hl, hcell⟩ := choose
    refine ⟨l, some a, cap, by rw [hl], ?_⟩
    rcases Nat.eq_zero_or_pos len with h0 | h0
    · exact Or.inl (List.eq_nil_of_length_eq_zero (by omega))
    · have hs := spot_none (by have := (hcell 0 h0).1; rwa [Nat.zero_mul] at this)
      refine Or.inr ⟨a.block, a.off, by obtain ⟨b, o, s⟩ := a; dsimp only at hs; subst hs; rfl, fun i hi => ?_⟩
      have := hcell i (by omega)
      rw [add_none hs, add_none (a := ⟨a.block, a.off + i * 2, none⟩) rfl] at this
      exact this
set_option maxRecDepth 100000 in
/-- A rule that is handed in. -/
theorem rule_open {r0 : Reach} {b0 : Nat} {v : Value} {d : DataW H} {p : List MemPlace} (hv : Value.okWide Tryz.prog W r0 b0 25 v) (h : DataW.Trod enc Tryz.prog W 0 (fun _ => true) true 25 v d p) : ∃ r, RuleIn W v r := by
  obtain ⟨cs, rfl, hsz⟩ := okWide_struct Tryz.underlying25 hv
  obtain ⟨c0, c1, c2, c3, c4, c5, c6, c7, rfl⟩ := array8 (hsz.trans cellsRule)
  obtain ⟨fuel, hf⟩ := h
  obtain ⟨xs, m, rfl, _, _, hxl, hall⟩ := DataW.trod_struct Tryz.underlying25 hf
  have hxl' : xs.length = 8 := hxl
  have h0 := hall 0 _ rfl
  have h1 := hall 1 _ rfl
  have h2 := hall 2 _ rfl
  have h3 := hall 3 _ rfl
  have h4 := hall 4 _ rfl
  have h5 := hall 5 _ rfl
  have h6 := hall 6 _ rfl
  have h7 := hall 7 _ rfl
  rw [List.getElem?_eq_getElem (by omega)] at h0 h1 h2 h3 h4 h5 h6 h7
  obtain ⟨f, e0, _⟩ := DataW.trod_int Tryz.underlying3 h0
  obtain ⟨e, e1, _⟩ := DataW.trod_int Tryz.underlying3 h1
  obtain ⟨c, e2, _⟩ := DataW.trod_int Tryz.underlying3 h2
  obtain ⟨u, e3, _⟩ := DataW.trod_int Tryz.underlying3 h3
  have e0' : [c0] = [Value.int .i64 f] := e0
  have e1' : [c1] = [Value.int .i64 e] := e1
  have e2' : [c2] = [Value.int .i64 c] := e2
  have e3' : [c3] = [Value.int .i64 u] := e3
  simp at e0' e1' e2' e3'
  subst e0' e1' e2' e3'
  obtain ⟨lm, hm⟩ := ints_of (c := c4) h4
  obtain ⟨ld, hd⟩ := ints_of (c := c5) h5
  obtain ⟨lw, hw⟩ := nths_of (c := c6) h6
  obtain ⟨lp, hp⟩ := ints_of (c := c7) h7
  exact ⟨⟨f, e, c, u, lm, ld, lw, lp⟩, _, _, _, _, rfl, hm, hd, hw, hp⟩
end
end Go.Proofs.YtoafdacgekmomabGreatDoor
