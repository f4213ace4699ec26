/-
  What is proved here: what listed variables give a walk, wherever they stand on a row's list, and how a world that holds them is laid.
  What is proved here: what a card of this seat asks of the program besides its walk: what the laid table of months gives a walk, and a world that meets it.
  What is proved here: what the listed table of months gives a walk, wherever it stands on a row's list.
  What is proved here: what a rule that is handed in gives a walk.
  What is proved here: what an event that is handed in gives a walk. mk_evopen.py writes this text.
-/
import Derived.Test.YthdohcjingfpoaaGreatDoorCards
import Derived.Test.YthdohcjingfpoaaGreatDoorTie
import Derived.WalkKit
import Derived.ProofKit
import Derived.OpenShut
import Derived.Deep.DeepHandedRow
import Derived.Lib.LaidTab
import Derived.Lib.SmallJoins
import Derived.ChangeMaps5
import Derived.Test.YthdohcjingfpoaaGreatDoorBA
import Derived.Test.YthdohcjingfpoaaGreatDoorRM
import Derived.Carry
import Derived.LaidLaws
import Derived.Test.YthdohcjingfpoaaGreatDoorRL
namespace Go.Proofs.YthdohcjingfpoaaGreatDoor
open Go.ChangeShapes Go.WideShapes Go.ChangeAt Go.RowKit

theorem own : ownKnob Tryz.prog.godebug = none := by kernel_rfl
theorem cellsInt : Tryz.prog.cellsOf 3 = 1 := by kernel_rfl
/-- What a listed variable reads as. -/
def Reads (P : Program) (W : World) (name : String) (d : DataW Unit) : Prop :=
  ∃ g t cs fuel p, P.globalNamed name = some g ∧ (P.globals[g]?).map (·.type) = some t ∧ W.var? P name = some cs ∧ DataW.trod (fun _ => ()) P W 0 (fun _ => true) false fuel t cs.toList = some (d, p)
theorem reads_list {P : Program} {W : World} {name : String} {d : DataW Unit} (l : List (String × DataW Unit)) : ∀ ps, DataW.LaidVars P W l ps → (name, d) ∈ l → Reads P W name d := by
  induction l with
  | nil => intro _ _ hm; cases hm
  | cons x l ih =>
    intro ps h hm
    obtain ⟨g, t, cs, fuel, p, q, a, b, c, e, r, _⟩ := h
    rcases List.mem_cons.1 hm with rfl | k
    · exact ⟨g, t, cs, fuel, p, a, b, c, e⟩
    · exact ih q r k
theorem reads_of {P : Program} {W : World} {name : String} {d : DataW Unit} {l : List (String × DataW Unit)} (h : laidMet P l W) (hm : (name, d) ∈ l) : Reads P W name d := by
  obtain ⟨ps, hv, _⟩ := h
  exact reads_list l ps hv hm
/-- A table that is listed wherever on the list. -/
theorem tabIs_of_reads {P : Program} {W : World} {name : String} {k : IntKind} {zs : List Int} {g : Nat} {t e : TypeId} {n : Nat}
    (hg : P.globalNamed name = some g) (hty : (P.globals[g]?).map (·.type) = some t) (ht : P.underlying t = some (.array n e)) (he : P.underlying e = some (.int k)) (hce : P.cellsOf e = 1) (hct : P.cellsOf t = n)
    (h : Reads P W name (Lib.tabData k zs)) : Lib.TabIs P W name k zs := by
  obtain ⟨g', t', cs, fuel, p, hg', ht', hvar, hd⟩ := h
  obtain rfl := Option.some.inj (hg.symm.trans hg')
  obtain rfl := Option.some.inj (hty.symm.trans ht')
  unfold Lib.TabIs
  rw [hvar, ← Lib.cells_of_tab ht he hce hct hd]
/-- An integer among a struct's fields. -/
theorem field_int {H : Type} {enc : TypeId × Value → H} {P : Program} {w : World} {base : Nat} {sp : Nat → Bool} {held : Bool} {fuel : Nat} {t : TypeId} {fs : Array Field} {cs : List Value} {ds : List (DataW H)} {p : List MemPlace}
    (ht : P.underlying t = some (.struct fs)) (h : DataW.trod enc P w base sp held fuel t cs = some (.agg ds, p)) (i : Nat) (f : Field) (hf : fs[i]? = some f) {k : IntKind} {z : Int}
    (hu : P.underlying f.type = some (.int k)) (hc : P.cellsOf f.type = 1) (hd : ds[i]? = some (.lit (.int k z))) : cs[f.offset]? = some (.int k z) := by
  obtain ⟨xs, n, rfl, hx, hl, hxl, hall⟩ := DataW.trod_struct ht h
  have hxs : xs.map (·.1) = ds := by
    have := congrArg Prod.fst hx
    simpa using this.symm
  have h1 := hall i f hf
  have hi : i < xs.length := by
    rw [hxl]; exact (Array.getElem?_eq_some_iff.1 hf).1
  obtain ⟨b, hb⟩ : ∃ b, xs[i]? = some b := ⟨xs[i], List.getElem?_eq_getElem hi⟩
  rw [hb, hc] at h1
  obtain ⟨z', hcz, rfl, _⟩ := DataW.trod_int hu h1
  have h2 : cs[f.offset]? = some (.int k z') := by
    have := congrArg (·[0]?) hcz
    simpa [List.getElem?_take, List.getElem?_drop] using this
  have h3 : (xs.map (·.1))[i]? = some (DataW.lit (.int k z') : DataW H) := by simp [hb]
  rw [hxs, hd] at h3
  simp only [Option.some.injEq, DataW.lit.injEq, Lit.int.injEq, true_and] at h3
  rw [h2, h3]
/-! A world that holds what the listed data say. -/
def lits : DataW Unit → List (DataW Unit)
  | .agg ds => ds
  | _ => []
def litCell : DataW Unit → Value
  | .lit (.int k z) => .int k z
  | .lit (.string s) => .string ⟨s.toArray⟩
  | _ => .bool false
def layInts (d : DataW Unit) : Obj → Obj
  | .cells _ t frozen => .cells ((lits d).map litCell).toArray t frozen
  | o => o
def layRows (d : DataW Unit) : Obj → Obj
  | .cells _ t frozen => .cells ((lits d).flatMap fun r => (lits r).map litCell).toArray t frozen
  | o => o
end Go.Proofs.YthdohcjingfpoaaGreatDoor
namespace Go.Proofs.YthdohcjingfpoaaGreatDoor
open Go.ChangeShapes Go.WideShapes Go.ChangeAt Go.RowKit Cal

theorem gTab : Tryz.prog.globalNamed "chimework/day.monthDays" = some 1 := by kernel_rfl
theorem gTabType : (Tryz.prog.globals[1]?).map (·.type) = some 331 := by kernel_rfl
theorem cellsTab : Tryz.prog.cellsOf 331 = 12 := by kernel_rfl
theorem cellsDate : Tryz.prog.cellsOf 279 = 3 := by kernel_rfl
theorem tab_of {W : World} (h : Lib.TabIs Tryz.prog W "chimework/day.monthDays" .i64 [31, 28, 31, 30, 31, 30, 31, 31, 30, 31, 30, 31]) : Tab W := by
  intro i hi
  have hc := h.cell gTab i (by simpa using hi)
  rw [hc]
  have hcs : i = 0 ∨ i = 1 ∨ i = 2 ∨ i = 3 ∨ i = 4 ∨ i = 5 ∨ i = 6 ∨ i = 7 ∨ i = 8 ∨ i = 9 ∨ i = 10 ∨ i = 11 := by omega
  rcases hcs with rfl | rfl | rfl | rfl | rfl | rfl | rfl | rfl | rfl | rfl | rfl | rfl <;> rfl
end Go.Proofs.YthdohcjingfpoaaGreatDoor
namespace Go.Proofs.YthdohcjingfpoaaGreatDoor
open Go.ChangeShapes Go.WideShapes Go.ChangeAt Go.RowKit Cal

theorem tab_of_reads {W : World} (h : Reads Tryz.prog W "chimework/day.monthDays" Rows.laid_chimework_day_monthDays) : Tab W :=
  tab_of (tabIs_of_reads gTab gTabType Tryz.underlying331 Tryz.underlying3 cellsInt cellsTab h)
end Go.Proofs.YthdohcjingfpoaaGreatDoor
namespace Go.Proofs.YthdohcjingfpoaaGreatDoor
open Go.ChangeShapes Go.WideShapes Go.ChangeAt Go.RowKit Cal Txt

theorem array8 {a : Array Value} (h : a.size = 8) : ∃ a0 a1 a2 a3 a4 a5 a6 a7, a = #[a0, a1, a2, a3, a4, a5, a6, a7] := by
  obtain ⟨l⟩ := a
  match l, h with
  | [a0, a1, a2, a3, a4, a5, a6, a7], _ => exact ⟨_, _, _, _, _, _, _, _, rfl⟩
theorem add_none {a : Addr} (h : a.spot = none) (i : Nat) : a.add i = ⟨a.block, a.off + i, none⟩ := by
  obtain ⟨b, o, s⟩ := a
  dsimp only at h
  subst h
  unfold Addr.add
  split <;> simp_all
theorem spot_none {W : World} {a : Addr} {v : Value} (h : W.cell? (a.add 0) = some v) : a.spot = none := by
  have e : a.add 0 = a := by
    obtain ⟨b, o, s⟩ := a
    unfold Addr.add
    simp
  rw [e] at h
  unfold World.cell? at h
  split at h
  · rcases hs : a.spot with _ | s
    · rfl
    · rw [hs] at h
      simp at h
  · cases h
theorem cellsNth2 : Tryz.prog.cellsOf 158 = 2 := by kernel_rfl
theorem cellsRule : Tryz.prog.cellsOf 37 = 8 := by kernel_rfl
section
variable {H : Type} {enc : TypeId × Value → H} {W : World}
set_option maxRecDepth 100000 in
theorem ints_of {n : Nat} {c : Value} {x : DataW H × List MemPlace} (h : DataW.trod enc Tryz.prog W 0 (fun _ => true) true n 34 [c] = some x) : ∃ l, Ints W c l := by
  rcases open_ints Tryz.underlying34 Tryz.underlying3 cellsInt h with ⟨hc, _⟩ | ⟨a, len, cap, zs, hc, _, hle, _, hz, _, hcell, _⟩
  · obtain rfl : c = .slice none 0 0 := by simpa using hc
    exact ⟨[], none, 0, rfl, Or.inl rfl⟩
  · obtain rfl : c = .slice (some a) len cap := by simpa using hc
    rw [if_pos rfl] at hz
    have hl : (zs.take len).length = len := by rw [List.length_take]; omega
    refine ⟨zs.take len, some a, cap, by rw [hl], ?_⟩
    rcases Nat.eq_zero_or_pos len with h0 | h0
    · exact Or.inl (List.eq_nil_of_length_eq_zero (by omega))
    · have hs := spot_none (hcell 0 (by omega))
      refine Or.inr ⟨a.block, a.off, by obtain ⟨b, o, s⟩ := a; dsimp only at hs; subst hs; rfl, fun i hi => ?_⟩
      rw [hl] at hi
      have := hcell i (by omega)
      rw [add_none hs] at this
      rw [this, List.getD_eq_getElem?_getD, List.getD_eq_getElem?_getD, List.getElem?_take, if_pos hi]
set_option maxRecDepth 100000 in
theorem nth_of {n : Nat} {cs : List Value} {x : DataW H × List MemPlace} (h : DataW.trod enc Tryz.prog W 0 (fun _ => true) true n 158 cs = some x) : ∃ y : Int × Int, cs = [.int .i64 y.1, .int .i64 y.2] := by
  obtain ⟨xs, m, rfl, _, hl, hxl, hall⟩ := DataW.trod_struct Tryz.underlying158 h
  rw [cellsNth2] at hl
  obtain ⟨c0, c1, rfl⟩ : ∃ c0 c1, cs = [c0, c1] := by
    match cs, hl with
    | [a, b], _ => exact ⟨a, b, rfl⟩
  have h0 := hall 0 _ rfl
  have h1 := hall 1 _ rfl
  have hxl' : xs.length = 2 := hxl
  rw [List.getElem?_eq_getElem (by omega)] at h0 h1
  obtain ⟨a, e0, _⟩ := DataW.trod_int Tryz.underlying3 h0
  obtain ⟨b, e1, _⟩ := DataW.trod_int Tryz.underlying3 h1
  refine ⟨(a, b), ?_⟩
  have e0' : [c0] = [Value.int .i64 a] := e0
  have e1' : [c1] = [Value.int .i64 b] := e1
  simp at e0' e1'
  rw [e0', e1']
set_option maxRecDepth 100000 in
theorem nths_of {n : Nat} {c : Value} {x : DataW H × List MemPlace} (h : DataW.trod enc Tryz.prog W 0 (fun _ => true) true n 35 [c] = some x) : ∃ l, Nths W c l := by
  rcases DataW.trod_slice Tryz.underlying35 h with ⟨hc, _⟩ | ⟨a, len, cap, elems, rest, m, _, hc, _, _, _, _, hlen, hel, _⟩
  · obtain rfl : c = .slice none 0 0 := by simpa using hc
    exact ⟨[], none, 0, rfl, Or.inl rfl⟩
  · obtain rfl : c = .slice (some a) len cap := by simpa using hc
    have each : ∀ i, i < len → ∃ y : Int × Int, W.cell? (a.add (i * 2)) = some (.int .i64 y.1) ∧ W.cell? ((a.add (i * 2)).add 1) = some (.int .i64 y.2) := fun i hi => by
      have := hel i hi
      rw [cellsNth2, List.getElem?_eq_getElem (by omega), Option.bind_eq_some_iff] at this
      obtain ⟨cs, hcs, ht⟩ := this
      obtain ⟨y, rfl⟩ := nth_of ht
      have hc := (World.cells?_some hcs).2.2
      refine ⟨y, ?_, ?_⟩
      · have := hc 0 (by decide)
        have e : (a.add (i * 2)).add 0 = a.add (i * 2) := by
          obtain ⟨b, o, s⟩ := a
          unfold Addr.add
          cases s <;> simp
        rw [e] at this
        simpa using this
      · simpa using hc 1 (by decide)
    have choose : ∃ l : List (Int × Int), l.length = len ∧ ∀ i, i < len → W.cell? (a.add (i * 2)) = some (.int .i64 (l.getD i (0, 0)).1) ∧ W.cell? ((a.add (i * 2)).add 1) = some (.int .i64 (l.getD i (0, 0)).2) := by
      have : ∀ k, k ≤ len → ∃ l : List (Int × Int), l.length = k ∧ ∀ i, i < k → W.cell? (a.add (i * 2)) = some (.int .i64 (l.getD i (0, 0)).1) ∧ W.cell? ((a.add (i * 2)).add 1) = some (.int .i64 (l.getD i (0, 0)).2) := by
        intro k
        induction k with
        | zero => intro _; exact ⟨[], rfl, fun i hi => by omega⟩
        | succ k ih =>
          intro hk
          obtain ⟨l, hl, hc⟩ := ih (by omega)
          obtain ⟨y, y1, y2⟩ := each k (by omega)
          refine ⟨l ++ [y], by simp [hl], fun i hi => ?_⟩
          rcases Nat.lt_or_ge i k with g | g
          · have := hc i g
            rw [List.getD_eq_getElem?_getD, List.getElem?_append_left (by omega), ← List.getD_eq_getElem?_getD]
            exact this
          · obtain rfl : i = k := by omega
            rw [List.getD_eq_getElem?_getD, List.getElem?_append_right (by omega), hl, Nat.sub_self]
            exact ⟨y1, y2⟩
      exact this len (Nat.le_refl _)
    obtain ⟨l, hl, hcell⟩ := choose
    refine ⟨l, some a, cap, by rw [hl], ?_⟩
    rcases Nat.eq_zero_or_pos len with h0 | h0
    · exact Or.inl (List.eq_nil_of_length_eq_zero (by omega))
    · have hs := spot_none (by have := (hcell 0 h0).1; rwa [Nat.zero_mul] at this)
      refine Or.inr ⟨a.block, a.off, by obtain ⟨b, o, s⟩ := a; dsimp only at hs; subst hs; rfl, fun i hi => ?_⟩
      have := hcell i (by omega)
      rw [add_none hs, add_none (a := ⟨a.block, a.off + i * 2, none⟩) rfl] at this
      exact this
set_option maxRecDepth 100000 in
/-- A rule that is handed in. -/
theorem rule_open {r0 : Reach} {b0 : Nat} {v : Value} {d : DataW H} {p : List MemPlace} (hv : Value.okWide Tryz.prog W r0 b0 37 v) (h : DataW.Trod enc Tryz.prog W 0 (fun _ => true) true 37 v d p) : ∃ r, RuleIn W v r := by
  obtain ⟨cs, rfl, hsz⟩ := okWide_struct Tryz.underlying37 hv
  obtain ⟨c0, c1, c2, c3, c4, c5, c6, c7, rfl⟩ := array8 (hsz.trans cellsRule)
  obtain ⟨fuel, hf⟩ := h
  obtain ⟨xs, m, rfl, _, _, hxl, hall⟩ := DataW.trod_struct Tryz.underlying37 hf
  have hxl' : xs.length = 8 := hxl
  have h0 := hall 0 _ rfl
  have h1 := hall 1 _ rfl
  have h2 := hall 2 _ rfl
  have h3 := hall 3 _ rfl
  have h4 := hall 4 _ rfl
  have h5 := hall 5 _ rfl
  have h6 := hall 6 _ rfl
  have h7 := hall 7 _ rfl
  rw [List.getElem?_eq_getElem (by omega)] at h0 h1 h2 h3 h4 h5 h6 h7
  obtain ⟨f, e0, _⟩ := DataW.trod_int Tryz.underlying3 h0
  obtain ⟨e, e1, _⟩ := DataW.trod_int Tryz.underlying3 h1
  obtain ⟨c, e2, _⟩ := DataW.trod_int Tryz.underlying3 h2
  obtain ⟨u, e3, _⟩ := DataW.trod_int Tryz.underlying3 h3
  have e0' : [c0] = [Value.int .i64 f] := e0
  have e1' : [c1] = [Value.int .i64 e] := e1
  have e2' : [c2] = [Value.int .i64 c] := e2
  have e3' : [c3] = [Value.int .i64 u] := e3
  simp at e0' e1' e2' e3'
  subst e0' e1' e2' e3'
  obtain ⟨lm, hm⟩ := ints_of (c := c4) h4
  obtain ⟨ld, hd⟩ := ints_of (c := c5) h5
  obtain ⟨lw, hw⟩ := nths_of (c := c6) h6
  obtain ⟨lp, hp⟩ := ints_of (c := c7) h7
  exact ⟨⟨f, e, c, u, lm, ld, lw, lp⟩, _, _, _, _, rfl, hm, hd, hw, hp⟩
end
end Go.Proofs.YthdohcjingfpoaaGreatDoor
namespace Go.Proofs.YthdohcjingfpoaaGreatDoor
open Go.ChangeShapes Go.WideShapes Go.ChangeAt Go.RowKit Cal Txt

theorem cellsChg : Tryz.prog.cellsOf 135 = 2 := by kernel_rfl
theorem cellsAlm : Tryz.prog.cellsOf 32 = 4 := by kernel_rfl
theorem cellsEvt : Tryz.prog.cellsOf 40 = 17 := by kernel_rfl
section
variable {H : Type} {enc : TypeId × Value → H} {W : World}
set_option maxRecDepth 100000 in
theorem chg_of {n : Nat} {cs : List Value} {x : DataW H × List MemPlace} (h : DataW.trod enc Tryz.prog W 0 (fun _ => true) true n 135 cs = some x) : ∃ y : Int × Int, cs = [.int .i64 y.1, .int .i64 y.2] := by
  obtain ⟨xs, m, rfl, _, hl, hxl, hall⟩ := DataW.trod_struct Tryz.underlying135 h
  rw [cellsChg] at hl
  obtain ⟨c0, c1, rfl⟩ : ∃ c0 c1, cs = [c0, c1] := by
    match cs, hl with
    | [a, b], _ => exact ⟨a, b, rfl⟩
  have h0 := hall 0 _ rfl
  have h1 := hall 1 _ rfl
  have hxl' : xs.length = 2 := hxl
  rw [List.getElem?_eq_getElem (by omega)] at h0 h1
  obtain ⟨a, e0, _⟩ := DataW.trod_int Tryz.underlying3 h0
  obtain ⟨b, e1, _⟩ := DataW.trod_int Tryz.underlying3 h1
  refine ⟨(a, b), ?_⟩
  have e0' : [c0] = [Value.int .i64 a] := e0
  have e1' : [c1] = [Value.int .i64 b] := e1
  simp at e0' e1'
  rw [e0', e1']
set_option maxRecDepth 100000 in
theorem chgs_of {n : Nat} {c : Value} {x : DataW H × List MemPlace} (h : DataW.trod enc Tryz.prog W 0 (fun _ => true) true n 38 [c] = some x) : ∃ l, Nths W c l := by
  rcases DataW.trod_slice Tryz.underlying38 h with ⟨hc, _⟩ | ⟨a, len, cap, elems, rest, m, _, hc, _, _, _, _, hlen, hel, _⟩
  · obtain rfl : c = .slice none 0 0 := by simpa using hc
    exact ⟨[], none, 0, rfl, Or.inl rfl⟩
  · obtain rfl : c = .slice (some a) len cap := by simpa using hc
    have each : ∀ i, i < len → ∃ y : Int × Int, W.cell? (a.add (i * 2)) = some (.int .i64 y.1) ∧ W.cell? ((a.add (i * 2)).add 1) = some (.int .i64 y.2) := fun i hi => by
      have := hel i hi
      rw [cellsChg, List.getElem?_eq_getElem (by omega), Option.bind_eq_some_iff] at this
      obtain ⟨cs, hcs, ht⟩ := this
      obtain ⟨y, rfl⟩ := chg_of ht
      have hc := (World.cells?_some hcs).2.2
      refine ⟨y, ?_, ?_⟩
      · have := hc 0 (by decide)
        have e : (a.add (i * 2)).add 0 = a.add (i * 2) := by
          obtain ⟨b, o, s⟩ := a
          unfold Addr.add
          cases s <;> simp
        rw [e] at this
        simpa using this
      · simpa using hc 1 (by decide)
    have choose : ∃ l : List (Int × Int), l.length = len ∧ ∀ i, i < len → W.cell? (a.add (i * 2)) = some (.int .i64 (l.getD i (0, 0)).1) ∧ W.cell? ((a.add (i * 2)).add 1) = some (.int .i64 (l.getD i (0, 0)).2) := by
      have : ∀ k, k ≤ len → ∃ l : List (Int × Int), l.length = k ∧ ∀ i, i < k → W.cell? (a.add (i * 2)) = some (.int .i64 (l.getD i (0, 0)).1) ∧ W.cell? ((a.add (i * 2)).add 1) = some (.int .i64 (l.getD i (0, 0)).2) := by
        intro k
        induction k with
        | zero => intro _; exact ⟨[], rfl, fun i hi => by omega⟩
        | succ k ih =>
          intro hk
          obtain ⟨l, hl, hc⟩ := ih (by omega)
          obtain ⟨y, y1, y2⟩ := each k (by omega)
          refine ⟨l ++ [y], by simp [hl], fun i hi => ?_⟩
          rcases Nat.lt_or_ge i k with g | g
          · have := hc i g
            rw [List.getD_eq_getElem?_getD, List.getElem?_append_left (by omega), ← List.getD_eq_getElem?_getD]
            exact this
          · obtain rfl : i = k := by omega
            rw [List.getD_eq_getElem?_getD, List.getElem?_append_right (by omega), hl, Nat.sub_self]
            exact ⟨y1, y2⟩
      exact this len (Nat.le_refl _)
    obtain ⟨l, hl, hcell⟩ := choose
    refine ⟨l, some a, cap, by rw [hl], ?_⟩
    rcases Nat.eq_zero_or_pos len with h0 | h0
    · exact Or.inl (List.eq_nil_of_length_eq_zero (by omega))
    · have hs := spot_none (by have := (hcell 0 h0).1; rwa [Nat.zero_mul] at this)
      refine Or.inr ⟨a.block, a.off, by obtain ⟨b, o, s⟩ := a; dsimp only at hs; subst hs; rfl, fun i hi => ?_⟩
      have := hcell i (by omega)
      rw [add_none hs, add_none (a := ⟨a.block, a.off + i * 2, none⟩) rfl] at this
      exact this
set_option maxRecDepth 100000 in
theorem alm_of {n : Nat} {cs : List Value} {x : DataW H × List MemPlace} (h : DataW.trod enc Tryz.prog W 0 (fun _ => true) true n 32 cs = some x) : ∃ y : Int × Bool × Int × Int, cs = [.int .i64 y.1, .bool y.2.1, .int .i64 y.2.2.1, .int .i64 y.2.2.2] := by
  obtain ⟨xs, m, rfl, _, hl, hxl, hall⟩ := DataW.trod_struct Tryz.underlying32 h
  rw [cellsAlm] at hl
  obtain ⟨c0, c1, c2, c3, rfl⟩ : ∃ c0 c1 c2 c3, cs = [c0, c1, c2, c3] := by
    match cs, hl with
    | [a, b, c, d], _ => exact ⟨a, b, c, d, rfl⟩
  have h0 := hall 0 _ rfl
  have h1 := hall 1 _ rfl
  have h2 := hall 2 _ rfl
  have h3 := hall 3 _ rfl
  have hxl' : xs.length = 4 := hxl
  rw [List.getElem?_eq_getElem (by omega)] at h0 h1 h2 h3
  obtain ⟨a, e0, _⟩ := DataW.trod_int Tryz.underlying3 h0
  obtain ⟨b, e1, _⟩ := DataW.trod_bool Tryz.underlying4 h1
  obtain ⟨c, e2, _⟩ := DataW.trod_int Tryz.underlying3 h2
  obtain ⟨d, e3, _⟩ := DataW.trod_int Tryz.underlying3 h3
  refine ⟨(a, b, c, d), ?_⟩
  have e0' : [c0] = [Value.int .i64 a] := e0
  have e1' : [c1] = [Value.bool b] := e1
  have e2' : [c2] = [Value.int .i64 c] := e2
  have e3' : [c3] = [Value.int .i64 d] := e3
  simp at e0' e1' e2' e3'
  rw [e0', e1', e2', e3']
set_option maxRecDepth 100000 in
theorem alms_of {n : Nat} {c : Value} {x : DataW H × List MemPlace} (h : DataW.trod enc Tryz.prog W 0 (fun _ => true) true n 33 [c] = some x) : ∃ l, Alms W c l := by
  rcases DataW.trod_slice Tryz.underlying33 h with ⟨hc, _⟩ | ⟨a, len, cap, elems, rest, m, _, hc, _, _, _, _, hlen, hel, _⟩
  · obtain rfl : c = .slice none 0 0 := by simpa using hc
    exact ⟨[], none, 0, rfl, Or.inl rfl⟩
  · obtain rfl : c = .slice (some a) len cap := by simpa using hc
    have each : ∀ i, i < len → ∃ y : Int × Bool × Int × Int, W.cell? (a.add (i * 4)) = some (.int .i64 y.1) ∧ W.cell? ((a.add (i * 4)).add 1) = some (.bool y.2.1) ∧ W.cell? ((a.add (i * 4)).add 2) = some (.int .i64 y.2.2.1) ∧ W.cell? ((a.add (i * 4)).add 3) = some (.int .i64 y.2.2.2) := fun i hi => by
      have := hel i hi
      rw [cellsAlm, List.getElem?_eq_getElem (by omega), Option.bind_eq_some_iff] at this
      obtain ⟨cs, hcs, ht⟩ := this
      obtain ⟨y, rfl⟩ := alm_of ht
      have hc := (World.cells?_some hcs).2.2
      refine ⟨y, ?_, ?_, ?_, ?_⟩
      · have := hc 0 (by decide)
        have e : (a.add (i * 4)).add 0 = a.add (i * 4) := by
          obtain ⟨b, o, s⟩ := a
          unfold Addr.add
          cases s <;> simp
        rw [e] at this
        simpa using this
      · simpa using hc 1 (by decide)
      · simpa using hc 2 (by decide)
      · simpa using hc 3 (by decide)
    have choose : ∃ l : List (Int × Bool × Int × Int), l.length = len ∧ ∀ i, i < len → W.cell? (a.add (i * 4)) = some (.int .i64 (l.getD i (0, false, 0, 0)).1) ∧ W.cell? ((a.add (i * 4)).add 1) = some (.bool (l.getD i (0, false, 0, 0)).2.1) ∧ W.cell? ((a.add (i * 4)).add 2) = some (.int .i64 (l.getD i (0, false, 0, 0)).2.2.1) ∧ W.cell? ((a.add (i * 4)).add 3) = some (.int .i64 (l.getD i (0, false, 0, 0)).2.2.2) := by
      have : ∀ k, k ≤ len → ∃ l : List (Int × Bool × Int × Int), l.length = k ∧ ∀ i, i < k → W.cell? (a.add (i * 4)) = some (.int .i64 (l.getD i (0, false, 0, 0)).1) ∧ W.cell? ((a.add (i * 4)).add 1) = some (.bool (l.getD i (0, false, 0, 0)).2.1) ∧ W.cell? ((a.add (i * 4)).add 2) = some (.int .i64 (l.getD i (0, false, 0, 0)).2.2.1) ∧ W.cell? ((a.add (i * 4)).add 3) = some (.int .i64 (l.getD i (0, false, 0, 0)).2.2.2) := by
        intro k
        induction k with
        | zero => intro _; exact ⟨[], rfl, fun i hi => by omega⟩
        | succ k ih =>
          intro hk
          obtain ⟨l, hl, hc⟩ := ih (by omega)
          obtain ⟨y, y1, y2, y3, y4⟩ := each k (by omega)
          refine ⟨l ++ [y], by simp [hl], fun i hi => ?_⟩
          rcases Nat.lt_or_ge i k with g | g
          · have := hc i g
            rw [List.getD_eq_getElem?_getD, List.getElem?_append_left (by omega), ← List.getD_eq_getElem?_getD]
            exact this
          · obtain rfl : i = k := by omega
            rw [List.getD_eq_getElem?_getD, List.getElem?_append_right (by omega), hl, Nat.sub_self]
            exact ⟨y1, y2, y3, y4⟩
      exact this len (Nat.le_refl _)
    obtain ⟨l, hl, hcell⟩ := choose
    refine ⟨l, some a, cap, by rw [hl], ?_⟩
    rcases Nat.eq_zero_or_pos len with h0 | h0
    · exact Or.inl (List.eq_nil_of_length_eq_zero (by omega))
    · have hs := spot_none (by have := (hcell 0 h0).1; rwa [Nat.zero_mul] at this)
      refine Or.inr ⟨a.block, a.off, by obtain ⟨b, o, s⟩ := a; dsimp only at hs; subst hs; rfl, fun i hi => ?_⟩
      have := hcell i (by omega)
      rw [add_none hs, add_none (a := ⟨a.block, a.off + i * 4, none⟩) rfl, add_none (a := ⟨a.block, a.off + i * 4, none⟩) rfl, add_none (a := ⟨a.block, a.off + i * 4, none⟩) rfl] at this
      exact this
theorem array17 {a : Array Value} (h : a.size = 17) : ∃ a0 a1 a2 a3 a4 a5 a6 a7 a8 a9 b0 b1 b2 b3 b4 b5 b6, a = #[a0, a1, a2, a3, a4, a5, a6, a7, a8, a9, b0, b1, b2, b3, b4, b5, b6] := by
  obtain ⟨l⟩ := a
  match l, h with
  | [a0, a1, a2, a3, a4, a5, a6, a7, a8, a9, b0, b1, b2, b3, b4, b5, b6], _ => exact ⟨_, _, _, _, _, _, _, _, _, _, _, _, _, _, _, _, _, rfl⟩
set_option maxRecDepth 100000 in
/-- An event that is handed in. -/
theorem event_open {r0 : Reach} {b0 : Nat} {v : Value} {d : DataW H} {p : List MemPlace} (hv : Value.okWide Tryz.prog W r0 b0 40 v) (h : DataW.Trod enc Tryz.prog W 0 (fun _ => true) true 40 v d p) : ∃ e s, v = .agg (ecells e s) ∧ EvB W e s := by
  obtain ⟨cs, rfl, hsz⟩ := okWide_struct Tryz.underlying40 hv
  obtain ⟨c0, c1, c2, c3, c4, c5, c6, c7, c8, c9, d0, d1, d2, d3, d4, d5, d6, rfl⟩ := array17 (hsz.trans cellsEvt)
  obtain ⟨fuel, hf⟩ := h
  obtain ⟨xs, m, rfl, _, _, hxl, hall⟩ := DataW.trod_struct Tryz.underlying40 hf
  have hxl' : xs.length = 10 := hxl
  have h0 := hall 0 _ rfl
  have h1 := hall 1 _ rfl
  have h2 := hall 2 _ rfl
  have h3 := hall 3 _ rfl
  have h4 := hall 4 _ rfl
  have h5 := hall 5 _ rfl
  have h6 := hall 6 _ rfl
  have h7 := hall 7 _ rfl
  have h8 := hall 8 _ rfl
  have h9 := hall 9 _ rfl
  rw [List.getElem?_eq_getElem (by omega)] at h0 h1 h2 h3 h4 h5 h6 h7 h8 h9
  obtain ⟨nm, e0, _⟩ := DataW.trod_string Tryz.underlying9 h0
  have e0' : [c0] = [Value.string nm] := e0
  obtain ⟨tx, e1, _⟩ := DataW.trod_string Tryz.underlying9 h1
  have e1' : [c1] = [Value.string tx] := e1
  obtain ⟨st, e2, _⟩ := DataW.trod_int Tryz.underlying3 h2
  have e2' : [c2] = [Value.int .i64 st] := e2
  obtain ⟨ln, e3, _⟩ := DataW.trod_int Tryz.underlying3 h3
  have e3' : [c3] = [Value.int .i64 ln] := e3
  obtain ⟨rp, e4, _⟩ := DataW.trod_bool Tryz.underlying4 h4
  have e4' : [c4] = [Value.bool rp] := e4
  obtain ⟨ys, m2, rfl, _, _, hyl, hall2⟩ := DataW.trod_struct Tryz.underlying37 h5
  have hyl' : ys.length = 8 := hyl
  have k0 := hall2 0 _ rfl
  have k1 := hall2 1 _ rfl
  have k2 := hall2 2 _ rfl
  have k3 := hall2 3 _ rfl
  have k4 := hall2 4 _ rfl
  have k5 := hall2 5 _ rfl
  have k6 := hall2 6 _ rfl
  have k7 := hall2 7 _ rfl
  rw [List.getElem?_eq_getElem (by omega)] at k0 k1 k2 k3 k4 k5 k6 k7
  obtain ⟨f, g0, _⟩ := DataW.trod_int Tryz.underlying3 k0
  have g0' : [c5] = [Value.int .i64 f] := g0
  obtain ⟨ev, g1, _⟩ := DataW.trod_int Tryz.underlying3 k1
  have g1' : [c6] = [Value.int .i64 ev] := g1
  obtain ⟨ct, g2, _⟩ := DataW.trod_int Tryz.underlying3 k2
  have g2' : [c7] = [Value.int .i64 ct] := g2
  obtain ⟨u, g3, _⟩ := DataW.trod_int Tryz.underlying3 k3
  have g3' : [c8] = [Value.int .i64 u] := g3
  simp only [List.cons.injEq, and_true] at e0' e1' e2' e3' e4' g0' g1' g2' g3'
  subst e0' e1' e2' e3' e4' g0' g1' g2' g3'
  obtain ⟨l_c9, q_c9⟩ := ints_of (c := c9) k4
  obtain ⟨l_d0, q_d0⟩ := ints_of (c := d0) k5
  obtain ⟨l_d1, q_d1⟩ := nths_of (c := d1) k6
  obtain ⟨l_d2, q_d2⟩ := ints_of (c := d2) k7
  obtain ⟨l_d3, q_d3⟩ := ints_of (c := d3) h6
  obtain ⟨l_d4, q_d4⟩ := ints_of (c := d4) h7
  obtain ⟨l_d5, q_d5⟩ := chgs_of (c := d5) h8
  obtain ⟨l_d6, q_d6⟩ := alms_of (c := d6) h9
  exact ⟨⟨nm, tx, st, ln, rp, ⟨f, ev, ct, u, l_c9, l_d0, l_d1, l_d2⟩, l_d3, l_d4, l_d5, l_d6⟩, ⟨c9, d0, d1, d2, d3, d4, d5, d6⟩, rfl, q_c9, q_d0, q_d1, q_d2, q_d3, q_d4, q_d5, q_d6⟩
end
end Go.Proofs.YthdohcjingfpoaaGreatDoor
