/-
  What is proved here: what a list of rings that is handed in gives a walk.
-/
import Derived.Test.YtpnbnnndpbjgmaaDoorQuFnd
import Derived.ChangeMaps5
import Derived.Carry
import Derived.LaidLaws
import Derived.ProofKit
import Derived.OpenShut
namespace Go.Proofs.YtpnbnnndpbjgmaaDoor.Qu
open Go.ChangeShapes Go.WideShapes Go.ChangeAt Go.RowKit

theorem add_none {a : Addr} (h : a.spot = none) (i : Nat) : a.add i = ⟨a.block, a.off + i, none⟩ := by
  obtain ⟨b, o, s⟩ := a
  dsimp only at h
  subst h
  unfold Addr.add
  split <;> simp_all
theorem add_zero (a : Addr) : a.add 0 = a := by
  obtain ⟨b, o, s⟩ := a
  unfold Addr.add
  cases s <;> simp
theorem spot_none {W : World} {a : Addr} {v : Value} (h : W.cell? (a.add 0) = some v) : a.spot = none := by
  rw [add_zero] at h
  unfold World.cell? at h
  split at h
  · rcases hs : a.spot with _ | s
    · rfl
    · rw [hs] at h
      simp at h
  · cases h
theorem cellsRing : Tryd.prog.cellsOf 34 = 5 := by kernel_rfl
section
variable {H : Type} {enc : TypeId × Value → H} {W : World}
set_option maxRecDepth 100000 in
theorem ring_of {n : Nat} {cs : List Value} {x : DataW H × List MemPlace} (h : DataW.trod enc Tryd.prog W 0 (fun _ => true) true n 34 cs = some x) : ∃ y : Rq, cs = encQ y := by
  obtain ⟨xs, m, rfl, _, hl, hxl, hall⟩ := DataW.trod_struct Tryd.underlying34 h
  rw [cellsRing] at hl
  obtain ⟨c0, c1, c2, c3, c4, rfl⟩ : ∃ c0 c1 c2 c3 c4, cs = [c0, c1, c2, c3, c4] := by
    match cs, hl with
    | [a, b, c, d, e], _ => exact ⟨a, b, c, d, e, rfl⟩
  have h0 := hall 0 _ rfl
  have h1 := hall 1 _ rfl
  have h2 := hall 2 _ rfl
  have h3 := hall 3 _ rfl
  have h4 := hall 4 _ rfl
  have hxl' : xs.length = 5 := hxl
  rw [List.getElem?_eq_getElem (by omega)] at h0 h1 h2 h3 h4
  obtain ⟨a0, e0, _⟩ := DataW.trod_int Tryd.underlying3 h0
  obtain ⟨a1, e1, _⟩ := DataW.trod_string Tryd.underlying9 h1
  obtain ⟨a2, e2, _⟩ := DataW.trod_int Tryd.underlying3 h2
  obtain ⟨a3, e3, _⟩ := DataW.trod_int Tryd.underlying3 h3
  obtain ⟨a4, e4, _⟩ := DataW.trod_int Tryd.underlying3 h4
  have e0' : [c0] = [Value.int .i64 a0] := e0
  have e1' : [c1] = [Value.string a1] := e1
  have e2' : [c2] = [Value.int .i64 a2] := e2
  have e3' : [c3] = [Value.int .i64 a3] := e3
  have e4' : [c4] = [Value.int .i64 a4] := e4
  simp at e0' e1' e2' e3' e4'
  exact ⟨(a0, a1, a2, a3, a4), by rw [e0', e1', e2', e3', e4']; rfl⟩
set_option maxRecDepth 100000 in
/-- A list of rings that is handed in. -/
theorem rings_open {r0 : Reach} {b0 : Nat} {v : Value} {d : DataW H} {p : List MemPlace} (hv : Value.okWide Tryd.prog W r0 b0 23 v) (h : DataW.Trod enc Tryd.prog W 0 (fun _ => true) true 23 v d p) : ∃ l, Rd W v l ∧ l.length ≤ 9223372036854775807 := by
  obtain ⟨a0, len0, cap0, rfl⟩ := okWide_slice Tryd.underlying23 hv
  obtain ⟨fuel, hf⟩ := h
  rcases DataW.trod_slice Tryd.underlying23 hf with ⟨hc, _⟩ | ⟨a, len, cap, elems, rest, m, _, hc, _, _, hlc, hcm, hlen, hel, _⟩
  · have hc' : [Value.slice a0 len0 cap0] = [.slice none 0 0] := hc
    simp only [List.cons.injEq, Value.slice.injEq, and_true] at hc'
    obtain ⟨rfl, rfl, rfl⟩ := hc'
    exact ⟨[], ⟨none, 0, rfl, Or.inl rfl⟩, by simp⟩
  · have hc' : [Value.slice a0 len0 cap0] = [.slice (some a) len cap] := hc
    simp only [List.cons.injEq, Value.slice.injEq, and_true] at hc'
    obtain ⟨rfl, rfl, rfl⟩ := hc'
    have each : ∀ i, i < len0 → ∃ y : Rq, ∀ c, c < 5 → W.cell? ((a.add (i * 5)).add c) = (encQ y)[c]? := fun i hi => by
      have := hel i hi
      rw [cellsRing, List.getElem?_eq_getElem (by omega), Option.bind_eq_some_iff] at this
      obtain ⟨cs, hcs, ht⟩ := this
      obtain ⟨y, rfl⟩ := ring_of ht
      have hc := (World.cells?_some hcs).2.2
      exact ⟨y, fun c h5 => hc c h5⟩
    have choose : ∃ l : List Rq, l.length = len0 ∧ ∀ i, i < len0 → ∀ c, c < 5 → W.cell? ((a.add (i * 5)).add c) = (encQ (l.getD i zq))[c]? := by
      have : ∀ k, k ≤ len0 → ∃ l : List Rq, l.length = k ∧ ∀ i, i < k → ∀ c, c < 5 → W.cell? ((a.add (i * 5)).add c) = (encQ (l.getD i zq))[c]? := by
        intro k
        induction k with
        | zero => intro _; exact ⟨[], rfl, fun i hi => by omega⟩
        | succ k ih =>
          intro hk
          obtain ⟨l, hl, hc⟩ := ih (by omega)
          obtain ⟨y, y1⟩ := each k (by omega)
          refine ⟨l ++ [y], by simp [hl], fun i hi => ?_⟩
          rcases Nat.lt_or_ge i k with g | g
          · have := hc i g
            rw [List.getD_eq_getElem?_getD, List.getElem?_append_left (by omega), ← List.getD_eq_getElem?_getD]
            exact this
          · obtain rfl : i = k := by omega
            rw [List.getD_eq_getElem?_getD, List.getElem?_append_right (by omega), hl, Nat.sub_self]
            exact y1
      exact this len0 (Nat.le_refl _)
    obtain ⟨l, hl, hcell⟩ := choose
    refine ⟨l, ⟨some a, cap0, by rw [hl], ?_⟩, by rw [hl]; unfold maxLen at hcm; omega⟩
    rcases Nat.eq_zero_or_pos len0 with h0 | h0
    · exact Or.inl (List.eq_nil_of_length_eq_zero (by omega))
    · have hs : a.spot = none := by
        have := hcell 0 h0 0 (by omega)
        rw [Nat.zero_mul, add_zero] at this
        exact spot_none (this.trans rfl)
      refine Or.inr ⟨a.block, a.off, by obtain ⟨b, o, s⟩ := a; dsimp only at hs; subst hs; rfl, fun i hi c hc => ?_⟩
      have := hcell i (by omega) c hc
      rw [add_none hs, add_none (a := ⟨a.block, a.off + i * 5, none⟩) rfl] at this
      exact this
end
end Go.Proofs.YtpnbnnndpbjgmaaDoor.Qu
