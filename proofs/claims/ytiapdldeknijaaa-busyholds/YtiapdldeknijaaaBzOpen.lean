/-
  What is proved here: what a list of stretches that is handed in gives a walk.
-/
import Derived.Test.YtiapdldeknijaaaBzRow
import Derived.ChangeMaps5
import Derived.Carry
import Derived.LaidLaws
import Derived.ProofKit
import Derived.OpenShut
namespace Go.Proofs.Ytiapdldeknijaaa.Bz
open Go.ChangeShapes Go.WideShapes Go.ChangeAt Go.RowKit

theorem add_none {a : Addr} (h : a.spot = none) (i : Nat) : a.add i = ⟨a.block, a.off + i, none⟩ := by
  obtain ⟨b, o, s⟩ := a
  dsimp only at h
  subst h
  unfold Addr.add
  split <;> simp_all
theorem add_zero (a : Addr) : a.add 0 = a := by
  obtain ⟨b, o, s⟩ := a
  unfold Addr.add
  cases s <;> simp
theorem spot_none {W : World} {a : Addr} {v : Value} (h : W.cell? (a.add 0) = some v) : a.spot = none := by
  rw [add_zero] at h
  unfold World.cell? at h
  split at h
  · rcases hs : a.spot with _ | s
    · rfl
    · rw [hs] at h
      simp at h
  · cases h
theorem cellsBz : Try.prog.cellsOf 28 = 2 := by kernel_rfl
section
variable {H : Type} {enc : TypeId × Value → H} {W : World}
set_option maxRecDepth 100000 in
theorem bz_of {n : Nat} {cs : List Value} {x : DataW H × List MemPlace} (h : DataW.trod enc Try.prog W 0 (fun _ => true) true n 28 cs = some x) : ∃ y : Bz, cs = encB y := by
  obtain ⟨xs, m, rfl, _, hl, hxl, hall⟩ := DataW.trod_struct Try.underlying28 h
  rw [cellsBz] at hl
  obtain ⟨c0, c1, rfl⟩ : ∃ c0 c1, cs = [c0, c1] := by
    match cs, hl with
    | [a, b], _ => exact ⟨a, b, rfl⟩
  have h0 := hall 0 _ rfl
  have h1 := hall 1 _ rfl
  have hxl' : xs.length = 2 := hxl
  rw [List.getElem?_eq_getElem (by omega)] at h0 h1
  obtain ⟨a0, e0, _⟩ := DataW.trod_int Try.underlying3 h0
  obtain ⟨a1, e1, _⟩ := DataW.trod_int Try.underlying3 h1
  have e0' : [c0] = [Value.int .i64 a0] := e0
  have e1' : [c1] = [Value.int .i64 a1] := e1
  simp at e0' e1'
  exact ⟨(a0, a1), by rw [e0', e1']; rfl⟩
set_option maxRecDepth 100000 in
/-- A list of stretches that is handed in. -/
theorem bzs_open {r0 : Reach} {b0 : Nat} {v : Value} {d : DataW H} {p : List MemPlace} (hv : Value.okWide Try.prog W r0 b0 22 v) (h : DataW.Trod enc Try.prog W 0 (fun _ => true) true 22 v d p) : ∃ l, Rb W v l ∧ l.length ≤ 9223372036854775807 := by
  obtain ⟨a0, len0, cap0, rfl⟩ := okWide_slice Try.underlying22 hv
  obtain ⟨fuel, hf⟩ := h
  rcases DataW.trod_slice Try.underlying22 hf with ⟨hc, _⟩ | ⟨a, len, cap, elems, rest, m, _, hc, _, _, hlc, hcm, hlen, hel, _⟩
  · have hc' : [Value.slice a0 len0 cap0] = [.slice none 0 0] := hc
    simp only [List.cons.injEq, Value.slice.injEq, and_true] at hc'
    obtain ⟨rfl, rfl, rfl⟩ := hc'
    exact ⟨[], ⟨none, 0, rfl, Or.inl rfl⟩, by simp⟩
  · have hc' : [Value.slice a0 len0 cap0] = [.slice (some a) len cap] := hc
    simp only [List.cons.injEq, Value.slice.injEq, and_true] at hc'
    obtain ⟨rfl, rfl, rfl⟩ := hc'
    have each : ∀ i, i < len0 → ∃ y : Bz, ∀ c, c < 2 → W.cell? ((a.add (i * 2)).add c) = (encB y)[c]? := fun i hi => by
      have := hel i hi
      rw [cellsBz, List.getElem?_eq_getElem (by omega), Option.bind_eq_some_iff] at this
      obtain ⟨cs, hcs, ht⟩ := this
      obtain ⟨y, rfl⟩ := bz_of ht
      have hc := (World.cells?_some hcs).2.2
      exact ⟨y, fun c h5 => hc c h5⟩
    have choose : ∃ l : List Bz, l.length = len0 ∧ ∀ i, i < len0 → ∀ c, c < 2 → W.cell? ((a.add (i * 2)).add c) = (encB (l.getD i (0, 0)))[c]? := by
      have : ∀ k, k ≤ len0 → ∃ l : List Bz, l.length = k ∧ ∀ i, i < k → ∀ c, c < 2 → W.cell? ((a.add (i * 2)).add c) = (encB (l.getD i (0, 0)))[c]? := by
        intro k
        induction k with
        | zero => intro _; exact ⟨[], rfl, fun i hi => by omega⟩
        | succ k ih =>
          intro hk
          obtain ⟨l, hl, hc⟩ := ih (by omega)
          obtain ⟨y, y1⟩ := each k (by omega)
          refine ⟨l ++ [y], by simp [hl], fun i hi => ?_⟩
          rcases Nat.lt_or_ge i k with g | g
          · have := hc i g
            rw [List.getD_eq_getElem?_getD, List.getElem?_append_left (by omega), ← List.getD_eq_getElem?_getD]
            exact this
          · obtain rfl : i = k := by omega
            rw [List.getD_eq_getElem?_getD, List.getElem?_append_right (by omega), hl, Nat.sub_self]
            exact y1
      exact this len0 (Nat.le_refl _)
    obtain ⟨l, hl, hcell⟩ := choose
    refine ⟨l, ⟨some a, cap0, by rw [hl], ?_⟩, by rw [hl]; unfold maxLen at hcm; omega⟩
    rcases Nat.eq_zero_or_pos len0 with h0 | h0
    · exact Or.inl (List.eq_nil_of_length_eq_zero (by omega))
    · have hs : a.spot = none := by
        have := hcell 0 h0 0 (by omega)
        rw [Nat.zero_mul, add_zero] at this
        exact spot_none (this.trans rfl)
      refine Or.inr ⟨a.block, a.off, by obtain ⟨b, o, s⟩ := a; dsimp only at hs; subst hs; rfl, fun j u hu => ?_⟩
      have hj : j < l.length * 2 := by have := (List.getElem?_eq_some_iff.1 hu).1; rwa [flatB_len] at this
      have q := flat_at encB 2 encB_len l (j / 2) (j % 2) (by omega) (by omega)
      rw [show j / 2 * 2 + j % 2 = j by omega, hu] at q
      have := hcell (j / 2) (by omega) (j % 2) (by omega)
      rw [add_none hs, add_none (a := ⟨a.block, a.off + j / 2 * 2, none⟩) rfl] at this
      rw [show a.off + j = a.off + j / 2 * 2 + j % 2 by omega, this]
      exact q.symm
end
end Go.Proofs.Ytiapdldeknijaaa.Bz
