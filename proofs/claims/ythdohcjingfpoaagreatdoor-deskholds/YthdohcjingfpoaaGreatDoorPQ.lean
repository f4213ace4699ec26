/-
  What is proved here: what a zone that is handed in gives a walk.
  What is proved here: words on lists of events that lie behind a slice, and an event that is loaded out of one.
  What is proved here: what a list of events that is handed in gives a walk.
-/
import Derived.Test.YthdohcjingfpoaaGreatDoorRE
import Derived.ChangeMaps5
import Derived.Carry
import Derived.LaidLaws
import Derived.ProofKit
import Derived.OpenShut
import Derived.Test.YthdohcjingfpoaaGreatDoorRL
import Derived.Deep.MidRow
import Derived.Test.YthdohcjingfpoaaGreatDoorBQ
import Derived.Test.YthdohcjingfpoaaGreatDoorBM
namespace Go.Proofs.YthdohcjingfpoaaGreatDoor
namespace Zo
open Go.ChangeShapes Go.WideShapes Go.ChangeAt Go.RowKit Cal Txt

theorem array2 {a : Array Value} (h : a.size = 2) : ∃ a0 a1, a = #[a0, a1] := by
  obtain ⟨l⟩ := a
  match l, h with
  | [a0, a1], _ => exact ⟨_, _, rfl⟩
theorem add_none {a : Addr} (h : a.spot = none) (i : Nat) : a.add i = ⟨a.block, a.off + i, none⟩ := by
  obtain ⟨b, o, s⟩ := a
  dsimp only at h
  subst h
  unfold Addr.add
  split <;> simp_all
theorem spot_none {W : World} {a : Addr} {v : Value} (h : W.cell? (a.add 0) = some v) : a.spot = none := by
  have e : a.add 0 = a := by
    obtain ⟨b, o, s⟩ := a
    unfold Addr.add
    simp
  rw [e] at h
  unfold World.cell? at h
  split at h
  · rcases hs : a.spot with _ | s
    · rfl
    · rw [hs] at h
      simp at h
  · cases h
theorem cellsShift : Tryz.prog.cellsOf 79 = 2 := by kernel_rfl
theorem cellsZone : Tryz.prog.cellsOf 24 = 2 := by kernel_rfl
section
variable {H : Type} {enc : TypeId × Value → H} {W : World}
set_option maxRecDepth 100000 in
theorem shift_of {n : Nat} {cs : List Value} {x : DataW H × List MemPlace} (h : DataW.trod enc Tryz.prog W 0 (fun _ => true) true n 79 cs = some x) : ∃ y : Int × Int, cs = [.int .i64 y.1, .int .i64 y.2] := by
  obtain ⟨xs, m, rfl, _, hl, hxl, hall⟩ := DataW.trod_struct Tryz.underlying79 h
  rw [cellsShift] at hl
  obtain ⟨c0, c1, rfl⟩ : ∃ c0 c1, cs = [c0, c1] := by
    match cs, hl with
    | [a, b], _ => exact ⟨a, b, rfl⟩
  have h0 := hall 0 _ rfl
  have h1 := hall 1 _ rfl
  have hxl' : xs.length = 2 := hxl
  rw [List.getElem?_eq_getElem (by omega)] at h0 h1
  obtain ⟨a, e0, _⟩ := DataW.trod_int Tryz.underlying3 h0
  obtain ⟨b, e1, _⟩ := DataW.trod_int Tryz.underlying3 h1
  refine ⟨(a, b), ?_⟩
  have e0' : [c0] = [Value.int .i64 a] := e0
  have e1' : [c1] = [Value.int .i64 b] := e1
  simp at e0' e1'
  rw [e0', e1']
set_option maxRecDepth 100000 in
theorem shifts_of {n : Nat} {c : Value} {x : DataW H × List MemPlace} (h : DataW.trod enc Tryz.prog W 0 (fun _ => true) true n 22 [c] = some x) : ∃ l, Nths W c l := by
  rcases DataW.trod_slice Tryz.underlying22 h with ⟨hc, _⟩ | ⟨a, len, cap, elems, rest, m, _, hc, _, _, _, _, hlen, hel, _⟩
  · obtain rfl : c = .slice none 0 0 := by simpa using hc
    exact ⟨[], none, 0, rfl, Or.inl rfl⟩
  · obtain rfl : c = .slice (some a) len cap := by simpa using hc
    have each : ∀ i, i < len → ∃ y : Int × Int, W.cell? (a.add (i * 2)) = some (.int .i64 y.1) ∧ W.cell? ((a.add (i * 2)).add 1) = some (.int .i64 y.2) := fun i hi => by
      have := hel i hi
      rw [cellsShift, List.getElem?_eq_getElem (by omega), Option.bind_eq_some_iff] at this
      obtain ⟨cs, hcs, ht⟩ := this
      obtain ⟨y, rfl⟩ := shift_of ht
      have hc := (World.cells?_some hcs).2.2
      refine ⟨y, ?_, ?_⟩
      · have := hc 0 (by decide)
        have e : (a.add (i * 2)).add 0 = a.add (i * 2) := by
          obtain ⟨b, o, s⟩ := a
          unfold Addr.add
          cases s <;> simp
        rw [e] at this
        simpa using this
      · simpa using hc 1 (by decide)
    have choose : ∃ l : List (Int × Int), l.length = len ∧ ∀ i, i < len → W.cell? (a.add (i * 2)) = some (.int .i64 (l.getD i (0, 0)).1) ∧ W.cell? ((a.add (i * 2)).add 1) = some (.int .i64 (l.getD i (0, 0)).2) := by
      have : ∀ k, k ≤ len → ∃ l : List (Int × Int), l.length = k ∧ ∀ i, i < k → W.cell? (a.add (i * 2)) = some (.int .i64 (l.getD i (0, 0)).1) ∧ W.cell? ((a.add (i * 2)).add 1) = some (.int .i64 (l.getD i (0, 0)).2) := by
        intro k
        induction k with
        | zero => intro _; exact ⟨[], rfl, fun i hi => by omega⟩
        | succ k ih =>
          intro hk
          obtain ⟨l, hl, hc⟩ := ih (by omega)
          obtain ⟨y, y1, y2⟩ := each k (by omega)
          refine ⟨l ++ [y], by simp [hl], fun i hi => ?_⟩
          rcases Nat.lt_or_ge i k with g | g
          · have := hc i g
            rw [List.getD_eq_getElem?_getD, List.getElem?_append_left (by omega), ← List.getD_eq_getElem?_getD]
            exact this
          · obtain rfl : i = k := by omega
            rw [List.getD_eq_getElem?_getD, List.getElem?_append_right (by omega), hl, Nat.sub_self]
            exact ⟨y1, y2⟩
      exact this len (Nat.le_refl _)
    obtain ⟨l, hl, hcell⟩ := choose
    refine ⟨l, some a, cap, by rw [hl], ?_⟩
    rcases Nat.eq_zero_or_pos len with h0 | h0
    · exact Or.inl (List.eq_nil_of_length_eq_zero (by omega))
    · have hs := spot_none (by have := (hcell 0 h0).1; rwa [Nat.zero_mul] at this)
      refine Or.inr ⟨a.block, a.off, by obtain ⟨b, o, s⟩ := a; dsimp only at hs; subst hs; rfl, fun i hi => ?_⟩
      have := hcell i (by omega)
      rw [add_none hs, add_none (a := ⟨a.block, a.off + i * 2, none⟩) rfl] at this
      exact this
set_option maxRecDepth 100000 in
/-- A zone that is handed in. -/
theorem zone_open {r0 : Reach} {b0 : Nat} {v : Value} {d : DataW H} {p : List MemPlace} (hv : Value.okWide Tryz.prog W r0 b0 24 v) (h : DataW.Trod enc Tryz.prog W 0 (fun _ => true) true 24 v d p) : ∃ a l, ZoneIn W v a l := by
  obtain ⟨cs, rfl, hsz⟩ := okWide_struct Tryz.underlying24 hv
  obtain ⟨c0, c1, rfl⟩ := array2 (hsz.trans cellsZone)
  obtain ⟨fuel, hf⟩ := h
  obtain ⟨xs, m, rfl, _, _, hxl, hall⟩ := DataW.trod_struct Tryz.underlying24 hf
  have hxl' : xs.length = 2 := hxl
  have h0 := hall 0 _ rfl
  have h1 := hall 1 _ rfl
  rw [List.getElem?_eq_getElem (by omega)] at h0 h1
  obtain ⟨a, e0, _⟩ := DataW.trod_int Tryz.underlying3 h0
  have e0' : [c0] = [Value.int .i64 a] := e0
  simp at e0'
  subst e0'
  obtain ⟨l, hl⟩ := shifts_of (c := c1) h1
  exact ⟨a, l, c1, rfl, hl⟩
end
end Zo
end Go.Proofs.YthdohcjingfpoaaGreatDoor
namespace Go.Proofs.YthdohcjingfpoaaGreatDoor
open Go.RowKit Cal Txt

/-- An event's cells, as those of a row. -/
def encE (x : Evt × Evs) : List Value := (ecells x.1 x.2).toList
theorem encE_len (x : Evt × Evs) : (encE x).length = 17 := rfl
/-- A slice reads as a list of events. -/
def Evl (w : World) (v : Value) (L : List (Evt × Evs)) : Prop := RowK encE w v L ∧ ∀ x ∈ L, EvB w x.1 x.2
theorem Evl.on {w w' : World} {v : Value} {L : List (Evt × Evs)} (h : Evl w v L) (q : Below w.heap.size w w') : Evl w' v L := ⟨h.1.on q, fun x hx => (h.2 x hx).on q⟩
theorem Evl.form {w : World} {v : Value} {L : List (Evt × Evs)} (h : Evl w v L) : ∃ a cap, v = .slice a L.length cap := h.1.form
theorem flatE_at : ∀ (L : List (Evt × Evs)) (i c : Nat) (hi : i < L.length), c < 17 → (L.flatMap encE)[i * 17 + c]? = (encE L[i])[c]?
  | [], i, c, h, _ => by simp at h
  | a :: r, 0, c, _, hc => by
    rw [List.flatMap_cons, Nat.zero_mul, Nat.zero_add, List.getElem?_append_left (by rw [encE_len]; exact hc)]
    rfl
  | a :: r, i + 1, c, h, hc => by
    have ih := flatE_at r i c (by simpa using h) hc
    rw [List.flatMap_cons, List.getElem?_append_right (by rw [encE_len]; omega), encE_len, show (i + 1) * 17 + c - 17 = i * 17 + c by omega, ih]
    rfl
/-- One of them. -/
theorem evl_at {w : World} {a : Option Addr} {n cap : Nat} {L : List (Evt × Evs)} (h : Evl w (.slice a n cap) L) {i : Nat} (hi : i < L.length) : ∃ b off, a = some ⟨b, off, none⟩ ∧ n = L.length ∧ b < w.heap.size ∧ w.rangeAt b (off + i * 17) (encE L[i]) ∧ EvB w L[i].1 L[i].2 := by
  obtain ⟨a', c', e, hc⟩ := h.1
  simp only [Value.slice.injEq] at e
  obtain ⟨rfl, rfl, rfl⟩ := e
  rcases hc with hc | ⟨b, off, rfl, hc⟩
  · rw [hc] at hi
    simp at hi
  · have hr : w.rangeAt b (off + i * 17) (encE L[i]) := fun j u hu => by
      have hj : j < 17 := (List.getElem?_eq_some_iff.1 hu).1
      have q := flatE_at L i j hi hj
      rw [hu] at q
      have := hc _ _ q
      rwa [← Nat.add_assoc] at this
    exact ⟨b, off, rfl, rfl, World.block_lt_of_cell? _ _ (hr 0 _ rfl), hr, h.2 _ (List.getElem_mem hi)⟩
/-- An event of a row is loaded. -/
theorem evr_load {ops : Array Oper} {rest : List Oper} {op : Oper} {a : Act} {w : World} {Q : Exit → Act → World → Prop} (hgd : op.guard = none) (x : Operand) (ho : op.op = .load 40 x)
    (b o : Nat) (e : Evt) (s : Evs) (hx : a.eval x = .pointer (some ⟨b, o, none⟩)) (hE : w.rangeAt b o (encE (e, s))) (h : wpList Tryz.prog ops Q rest (a.put op.dst (.agg (ecells e s))) w) : wpList Tryz.prog ops Q (op :: rest) a w :=
  wpList_load_mid hgd 40 x ho b o hx (ecells e s).toList _ hE Tryz.underlying40 rfl (by kernel_rfl) h
end Go.Proofs.YthdohcjingfpoaaGreatDoor
namespace Go.Proofs.YthdohcjingfpoaaGreatDoor
open Go.ChangeShapes Go.WideShapes Go.ChangeAt Go.RowKit Cal Txt

theorem addE_zero (a : Addr) : a.add 0 = a := by
  obtain ⟨b, o, s⟩ := a
  unfold Addr.add
  cases s <;> simp
section
variable {H : Type} {enc : TypeId × Value → H} {W : World}
set_option maxRecDepth 100000 in
theorem event_of {n : Nat} {cs : List Value} {x : DataW H × List MemPlace} (hf : DataW.trod enc Tryz.prog W 0 (fun _ => true) true n 40 cs = some x) : ∃ y : Evt × Evs, cs = encE y ∧ EvB W y.1 y.2 := by
  obtain ⟨xs, m, rfl, _, hl, hxl, hall⟩ := DataW.trod_struct Tryz.underlying40 hf
  rw [cellsEvt] at hl
  obtain ⟨c0, c1, c2, c3, c4, c5, c6, c7, c8, c9, d0, d1, d2, d3, d4, d5, d6, rfl⟩ : ∃ c0 c1 c2 c3 c4 c5 c6 c7 c8 c9 d0 d1 d2 d3 d4 d5 d6, cs = [c0, c1, c2, c3, c4, c5, c6, c7, c8, c9, d0, d1, d2, d3, d4, d5, d6] := by
    match cs, hl with
    | [a0, a1, a2, a3, a4, a5, a6, a7, a8, a9, b0, b1, b2, b3, b4, b5, b6], _ => exact ⟨_, _, _, _, _, _, _, _, _, _, _, _, _, _, _, _, _, rfl⟩
  have hxl' : xs.length = 10 := hxl
  have h0 := hall 0 _ rfl
  have h1 := hall 1 _ rfl
  have h2 := hall 2 _ rfl
  have h3 := hall 3 _ rfl
  have h4 := hall 4 _ rfl
  have h5 := hall 5 _ rfl
  have h6 := hall 6 _ rfl
  have h7 := hall 7 _ rfl
  have h8 := hall 8 _ rfl
  have h9 := hall 9 _ rfl
  rw [List.getElem?_eq_getElem (by omega)] at h0 h1 h2 h3 h4 h5 h6 h7 h8 h9
  obtain ⟨nm, e0, _⟩ := DataW.trod_string Tryz.underlying9 h0
  have e0' : [c0] = [Value.string nm] := e0
  obtain ⟨tx, e1, _⟩ := DataW.trod_string Tryz.underlying9 h1
  have e1' : [c1] = [Value.string tx] := e1
  obtain ⟨st, e2, _⟩ := DataW.trod_int Tryz.underlying3 h2
  have e2' : [c2] = [Value.int .i64 st] := e2
  obtain ⟨ln, e3, _⟩ := DataW.trod_int Tryz.underlying3 h3
  have e3' : [c3] = [Value.int .i64 ln] := e3
  obtain ⟨rp, e4, _⟩ := DataW.trod_bool Tryz.underlying4 h4
  have e4' : [c4] = [Value.bool rp] := e4
  obtain ⟨ys, m2, rfl, _, _, hyl, hall2⟩ := DataW.trod_struct Tryz.underlying37 h5
  have hyl' : ys.length = 8 := hyl
  have k0 := hall2 0 _ rfl
  have k1 := hall2 1 _ rfl
  have k2 := hall2 2 _ rfl
  have k3 := hall2 3 _ rfl
  have k4 := hall2 4 _ rfl
  have k5 := hall2 5 _ rfl
  have k6 := hall2 6 _ rfl
  have k7 := hall2 7 _ rfl
  rw [List.getElem?_eq_getElem (by omega)] at k0 k1 k2 k3 k4 k5 k6 k7
  obtain ⟨f, g0, _⟩ := DataW.trod_int Tryz.underlying3 k0
  have g0' : [c5] = [Value.int .i64 f] := g0
  obtain ⟨ev, g1, _⟩ := DataW.trod_int Tryz.underlying3 k1
  have g1' : [c6] = [Value.int .i64 ev] := g1
  obtain ⟨ct, g2, _⟩ := DataW.trod_int Tryz.underlying3 k2
  have g2' : [c7] = [Value.int .i64 ct] := g2
  obtain ⟨u, g3, _⟩ := DataW.trod_int Tryz.underlying3 k3
  have g3' : [c8] = [Value.int .i64 u] := g3
  simp only [List.cons.injEq, and_true] at e0' e1' e2' e3' e4' g0' g1' g2' g3'
  subst e0' e1' e2' e3' e4' g0' g1' g2' g3'
  obtain ⟨l_c9, q_c9⟩ := ints_of (c := c9) k4
  obtain ⟨l_d0, q_d0⟩ := ints_of (c := d0) k5
  obtain ⟨l_d1, q_d1⟩ := nths_of (c := d1) k6
  obtain ⟨l_d2, q_d2⟩ := ints_of (c := d2) k7
  obtain ⟨l_d3, q_d3⟩ := ints_of (c := d3) h6
  obtain ⟨l_d4, q_d4⟩ := ints_of (c := d4) h7
  obtain ⟨l_d5, q_d5⟩ := chgs_of (c := d5) h8
  obtain ⟨l_d6, q_d6⟩ := alms_of (c := d6) h9
  exact ⟨(⟨nm, tx, st, ln, rp, ⟨f, ev, ct, u, l_c9, l_d0, l_d1, l_d2⟩, l_d3, l_d4, l_d5, l_d6⟩, ⟨c9, d0, d1, d2, d3, d4, d5, d6⟩), rfl, q_c9, q_d0, q_d1, q_d2, q_d3, q_d4, q_d5, q_d6⟩
set_option maxRecDepth 100000 in
/-- A list of events that is handed in. -/
theorem events_open {r0 : Reach} {b0 : Nat} {v : Value} {d : DataW H} {p : List MemPlace} (hv : Value.okWide Tryz.prog W r0 b0 25 v) (h : DataW.Trod enc Tryz.prog W 0 (fun _ => true) true 25 v d p) : ∃ L, Evl W v L ∧ L.length ≤ 9223372036854775807 := by
  obtain ⟨a0, len0, cap0, rfl⟩ := okWide_slice Tryz.underlying25 hv
  obtain ⟨fuel, hf⟩ := h
  rcases DataW.trod_slice Tryz.underlying25 hf with ⟨hc, _⟩ | ⟨a, len, cap, elems, rest, m, _, hc, _, _, hlc, hcm, hlen, hel, _⟩
  · have hc' : [Value.slice a0 len0 cap0] = [.slice none 0 0] := hc
    simp only [List.cons.injEq, Value.slice.injEq, and_true] at hc'
    obtain ⟨rfl, rfl, rfl⟩ := hc'
    exact ⟨[], ⟨⟨none, 0, rfl, Or.inl rfl⟩, fun x hx => by simp at hx⟩, by simp⟩
  · have hc' : [Value.slice a0 len0 cap0] = [.slice (some a) len cap] := hc
    simp only [List.cons.injEq, Value.slice.injEq, and_true] at hc'
    obtain ⟨rfl, rfl, rfl⟩ := hc'
    have each : ∀ i, i < len0 → ∃ y : Evt × Evs, EvB W y.1 y.2 ∧ ∀ c, c < 17 → W.cell? ((a.add (i * 17)).add c) = (encE y)[c]? := fun i hi => by
      have := hel i hi
      rw [cellsEvt, List.getElem?_eq_getElem (by omega), Option.bind_eq_some_iff] at this
      obtain ⟨cs, hcs, ht⟩ := this
      obtain ⟨y, rfl, hE⟩ := event_of ht
      have hc := (World.cells?_some hcs).2.2
      exact ⟨y, hE, fun c h5 => hc c h5⟩
    have choose : ∃ L : List (Evt × Evs), L.length = len0 ∧ (∀ x ∈ L, EvB W x.1 x.2) ∧ ∀ i (hi : i < L.length), ∀ c, c < 17 → W.cell? ((a.add (i * 17)).add c) = (encE L[i])[c]? := by
      have : ∀ k, k ≤ len0 → ∃ L : List (Evt × Evs), L.length = k ∧ (∀ x ∈ L, EvB W x.1 x.2) ∧ ∀ i (hi : i < L.length), ∀ c, c < 17 → W.cell? ((a.add (i * 17)).add c) = (encE L[i])[c]? := by
        intro k
        induction k with
        | zero => intro _; exact ⟨[], rfl, fun x hx => (by simp at hx), fun i hi => (by simp at hi)⟩
        | succ k ih =>
          intro hk
          obtain ⟨L, hl, hE, hc⟩ := ih (by omega)
          obtain ⟨y, yE, y1⟩ := each k (by omega)
          refine ⟨L ++ [y], by simp [hl], fun x hx => ?_, fun i hi => ?_⟩
          · rcases List.mem_append.1 hx with q | q
            · exact hE x q
            · simp at q
              subst q
              exact yE
          · rcases Nat.lt_or_ge i k with g | g
            · have := hc i (by omega)
              rw [List.getElem_append_left (by omega)]
              exact this
            · obtain rfl : i = k := by simp at hi; omega
              rw [List.getElem_append_right (by omega)]
              simpa [hl] using y1
      exact this len0 (Nat.le_refl _)
    obtain ⟨L, hl, hE, hcell⟩ := choose
    refine ⟨L, ⟨⟨some a, cap0, by rw [hl], ?_⟩, hE⟩, by rw [hl]; unfold maxLen at hcm; omega⟩
    rcases Nat.eq_zero_or_pos len0 with h0 | h0
    · exact Or.inl (List.eq_nil_of_length_eq_zero (by omega))
    · have hs : a.spot = none := by
        have := hcell 0 (by omega) 0 (by omega)
        rw [Nat.zero_mul, addE_zero] at this
        exact spot_none (this.trans rfl)
      refine Or.inr ⟨a.block, a.off, by obtain ⟨b, o, s⟩ := a; dsimp only at hs; subst hs; rfl, fun j u hu => ?_⟩
      have hj : j < L.length * 17 := by have := (List.getElem?_eq_some_iff.1 hu).1; rwa [flat_len encE 17 encE_len] at this
      have q := flatE_at L (j / 17) (j % 17) (by omega) (by omega)
      rw [show j / 17 * 17 + j % 17 = j by omega, hu] at q
      have := hcell (j / 17) (by omega) (j % 17) (by omega)
      rw [add_none hs, add_none (a := ⟨a.block, a.off + j / 17 * 17, none⟩) rfl] at this
      rw [show a.off + j = a.off + j / 17 * 17 + j % 17 by omega, this]
      exact q.symm
end
end Go.Proofs.YthdohcjingfpoaaGreatDoor
