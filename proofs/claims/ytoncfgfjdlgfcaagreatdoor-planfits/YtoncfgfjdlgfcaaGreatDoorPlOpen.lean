/-
  What is proved here: what a list of events that is handed in gives a walk.
-/
import Derived.Test.YtoncfgfjdlgfcaaGreatDoorBM
import Derived.Test.YtoncfgfjdlgfcaaGreatDoorPP
namespace Go.Proofs.YtoncfgfjdlgfcaaGreatDoor
open Go.ChangeShapes Go.WideShapes Go.ChangeAt Go.RowKit Cal Txt

theorem addE_zero (a : Addr) : a.add 0 = a := by
  obtain ⟨b, o, s⟩ := a
  unfold Addr.add
  cases s <;> simp
section
variable {H : Type} {enc : TypeId × Value → H} {W : World}
set_option maxRecDepth 100000 in
theorem event_of {n : Nat} {cs : List Value} {x : DataW H × List MemPlace} (hf : DataW.trod enc Tryz.prog W 0 (fun _ => true) true n 33 cs = some x) : ∃ y : Evt × Evs, cs = encE y ∧ EvB W y.1 y.2 := by
  obtain ⟨xs, m, rfl, _, hl, hxl, hall⟩ := DataW.trod_struct Tryz.underlying33 hf
  rw [cellsEvt] at hl
  obtain ⟨c0, c1, c2, c3, c4, c5, c6, c7, c8, c9, d0, d1, d2, d3, d4, d5, d6, rfl⟩ : ∃ c0 c1 c2 c3 c4 c5 c6 c7 c8 c9 d0 d1 d2 d3 d4 d5 d6, cs = [c0, c1, c2, c3, c4, c5, c6, c7, c8, c9, d0, d1, d2, d3, d4, d5, d6] := by
    match cs, hl with
    | [a0, a1, a2, a3, a4, a5, a6, a7, a8, a9, b0, b1, b2, b3, b4, b5, b6], _ => exact ⟨_, _, _, _, _, _, _, _, _, _, _, _, _, _, _, _, _, rfl⟩
  have hxl' : xs.length = 10 := hxl
  have h0 := hall 0 _ rfl
  have h1 := hall 1 _ rfl
  have h2 := hall 2 _ rfl
  have h3 := hall 3 _ rfl
  have h4 := hall 4 _ rfl
  have h5 := hall 5 _ rfl
  have h6 := hall 6 _ rfl
  have h7 := hall 7 _ rfl
  have h8 := hall 8 _ rfl
  have h9 := hall 9 _ rfl
  rw [List.getElem?_eq_getElem (by omega)] at h0 h1 h2 h3 h4 h5 h6 h7 h8 h9
  obtain ⟨nm, e0, _⟩ := DataW.trod_string Tryz.underlying9 h0
  have e0' : [c0] = [Value.string nm] := e0
  obtain ⟨tx, e1, _⟩ := DataW.trod_string Tryz.underlying9 h1
  have e1' : [c1] = [Value.string tx] := e1
  obtain ⟨st, e2, _⟩ := DataW.trod_int Tryz.underlying3 h2
  have e2' : [c2] = [Value.int .i64 st] := e2
  obtain ⟨ln, e3, _⟩ := DataW.trod_int Tryz.underlying3 h3
  have e3' : [c3] = [Value.int .i64 ln] := e3
  obtain ⟨rp, e4, _⟩ := DataW.trod_bool Tryz.underlying4 h4
  have e4' : [c4] = [Value.bool rp] := e4
  obtain ⟨ys, m2, rfl, _, _, hyl, hall2⟩ := DataW.trod_struct Tryz.underlying29 h5
  have hyl' : ys.length = 8 := hyl
  have k0 := hall2 0 _ rfl
  have k1 := hall2 1 _ rfl
  have k2 := hall2 2 _ rfl
  have k3 := hall2 3 _ rfl
  have k4 := hall2 4 _ rfl
  have k5 := hall2 5 _ rfl
  have k6 := hall2 6 _ rfl
  have k7 := hall2 7 _ rfl
  rw [List.getElem?_eq_getElem (by omega)] at k0 k1 k2 k3 k4 k5 k6 k7
  obtain ⟨f, g0, _⟩ := DataW.trod_int Tryz.underlying3 k0
  have g0' : [c5] = [Value.int .i64 f] := g0
  obtain ⟨ev, g1, _⟩ := DataW.trod_int Tryz.underlying3 k1
  have g1' : [c6] = [Value.int .i64 ev] := g1
  obtain ⟨ct, g2, _⟩ := DataW.trod_int Tryz.underlying3 k2
  have g2' : [c7] = [Value.int .i64 ct] := g2
  obtain ⟨u, g3, _⟩ := DataW.trod_int Tryz.underlying3 k3
  have g3' : [c8] = [Value.int .i64 u] := g3
  simp only [List.cons.injEq, and_true] at e0' e1' e2' e3' e4' g0' g1' g2' g3'
  subst e0' e1' e2' e3' e4' g0' g1' g2' g3'
  obtain ⟨l_c9, q_c9⟩ := ints_of (c := c9) k4
  obtain ⟨l_d0, q_d0⟩ := ints_of (c := d0) k5
  obtain ⟨l_d1, q_d1⟩ := nths_of (c := d1) k6
  obtain ⟨l_d2, q_d2⟩ := ints_of (c := d2) k7
  obtain ⟨l_d3, q_d3⟩ := ints_of (c := d3) h6
  obtain ⟨l_d4, q_d4⟩ := ints_of (c := d4) h7
  obtain ⟨l_d5, q_d5⟩ := chgs_of (c := d5) h8
  obtain ⟨l_d6, q_d6⟩ := alms_of (c := d6) h9
  exact ⟨(⟨nm, tx, st, ln, rp, ⟨f, ev, ct, u, l_c9, l_d0, l_d1, l_d2⟩, l_d3, l_d4, l_d5, l_d6⟩, ⟨c9, d0, d1, d2, d3, d4, d5, d6⟩), rfl, q_c9, q_d0, q_d1, q_d2, q_d3, q_d4, q_d5, q_d6⟩
set_option maxRecDepth 100000 in
/-- A list of events that is handed in. -/
theorem events_open {r0 : Reach} {b0 : Nat} {v : Value} {d : DataW H} {p : List MemPlace} (hv : Value.okWide Tryz.prog W r0 b0 25 v) (h : DataW.Trod enc Tryz.prog W 0 (fun _ => true) true 25 v d p) : ∃ L, Evl W v L ∧ L.length ≤ 9223372036854775807 := by
  obtain ⟨a0, len0, cap0, rfl⟩ := okWide_slice Tryz.underlying25 hv
  obtain ⟨fuel, hf⟩ := h
  rcases DataW.trod_slice Tryz.underlying25 hf with ⟨hc, _⟩ | ⟨a, len, cap, elems, rest, m, _, hc, _, _, hlc, hcm, hlen, hel, _⟩
  · have hc' : [Value.slice a0 len0 cap0] = [.slice none 0 0] := hc
    simp only [List.cons.injEq, Value.slice.injEq, and_true] at hc'
    obtain ⟨rfl, rfl, rfl⟩ := hc'
    exact ⟨[], ⟨⟨none, 0, rfl, Or.inl rfl⟩, fun x hx => by simp at hx⟩, by simp⟩
  · have hc' : [Value.slice a0 len0 cap0] = [.slice (some a) len cap] := hc
    simp only [List.cons.injEq, Value.slice.injEq, and_true] at hc'
    obtain ⟨rfl, rfl, rfl⟩ := hc'
    have each : ∀ i, i < len0 → ∃ y : Evt × Evs, EvB W y.1 y.2 ∧ ∀ c, c < 17 → W.cell? ((a.add (i * 17)).add c) = (encE y)[c]? := fun i hi => by
      have := hel i hi
      rw [cellsEvt, List.getElem?_eq_getElem (by omega), Option.bind_eq_some_iff] at this
      obtain ⟨cs, hcs, ht⟩ := this
      obtain ⟨y, rfl, hE⟩ := event_of ht
      have hc := (World.cells?_some hcs).2.2
      exact ⟨y, hE, fun c h5 => hc c h5⟩
    have choose : ∃ L : List (Evt × Evs), L.length = len0 ∧ (∀ x ∈ L, EvB W x.1 x.2) ∧ ∀ i (hi : i < L.length), ∀ c, c < 17 → W.cell? ((a.add (i * 17)).add c) = (encE L[i])[c]? := by
      have : ∀ k, k ≤ len0 → ∃ L : List (Evt × Evs), L.length = k ∧ (∀ x ∈ L, EvB W x.1 x.2) ∧ ∀ i (hi : i < L.length), ∀ c, c < 17 → W.cell? ((a.add (i * 17)).add c) = (encE L[i])[c]? := by
        intro k
        induction k with
        | zero => intro _; exact ⟨[], rfl, fun x hx => (by simp at hx), fun i hi => (by simp at hi)⟩
        | succ k ih =>
          intro hk
          obtain ⟨L, hl, hE, hc⟩ := ih (by omega)
          obtain ⟨y, yE, y1⟩ := each k (by omega)
          refine ⟨L ++ [y], by simp [hl], fun x hx => ?_, fun i hi => ?_⟩
          · rcases List.mem_append.1 hx with q | q
            · exact hE x q
            · simp at q
              subst q
              exact yE
          · rcases Nat.lt_or_ge i k with g | g
            · have := hc i (by omega)
              rw [List.getElem_append_left (by omega)]
              exact this
            · obtain rfl : i = k := by simp at hi; omega
              rw [List.getElem_append_right (by omega)]
              simpa [hl] using y1
      exact this len0 (Nat.le_refl _)
    obtain ⟨L, hl, hE, hcell⟩ := choose
    refine ⟨L, ⟨⟨some a, cap0, by rw [hl], ?_⟩, hE⟩, by rw [hl]; unfold maxLen at hcm; omega⟩
    rcases Nat.eq_zero_or_pos len0 with h0 | h0
    · exact Or.inl (List.eq_nil_of_length_eq_zero (by omega))
    · have hs : a.spot = none := by
        have := hcell 0 (by omega) 0 (by omega)
        rw [Nat.zero_mul, addE_zero] at this
        exact spot_none (this.trans rfl)
      refine Or.inr ⟨a.block, a.off, by obtain ⟨b, o, s⟩ := a; dsimp only at hs; subst hs; rfl, fun j u hu => ?_⟩
      have hj : j < L.length * 17 := by have := (List.getElem?_eq_some_iff.1 hu).1; rwa [flat_len encE 17 encE_len] at this
      have q := flatE_at L (j / 17) (j % 17) (by omega) (by omega)
      rw [show j / 17 * 17 + j % 17 = j by omega, hu] at q
      have := hcell (j / 17) (by omega) (j % 17) (by omega)
      rw [add_none hs, add_none (a := ⟨a.block, a.off + j / 17 * 17, none⟩) rfl] at this
      rw [show a.off + j = a.off + j / 17 * 17 + j % 17 by omega, this]
      exact q.symm
end
end Go.Proofs.YtoncfgfjdlgfcaaGreatDoor
