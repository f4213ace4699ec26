/-
  What is proved here: what rows of numbers that are handed in give a walk.
-/
import Derived.Test.YtpnbnnndpbjgmaaDoorQuOpen
import Derived.Test.YtpnbnnndpbjgmaaDoorQuSts
import Derived.SliceStrings
namespace Go.Proofs.YtpnbnnndpbjgmaaDoor.Qu
open Go.ChangeShapes Go.WideShapes Go.ChangeAt Go.RowKit

theorem cellsI1 : Tryd.prog.cellsOf 3 = 1 := by kernel_rfl
theorem cellsIs : Tryd.prog.cellsOf 32 = 1 := by kernel_rfl
section
variable {H : Type} {enc : TypeId × Value → H} {W : World}
set_option maxRecDepth 100000 in
theorem ints_of {n : Nat} {c : Value} {x : DataW H × List MemPlace} (h : DataW.trod enc Tryd.prog W 0 (fun _ => true) true n 32 [c] = some x) : ∃ l, Ints W c l := by
  rcases open_ints Tryd.underlying32 Tryd.underlying3 cellsI1 h with ⟨hc, _⟩ | ⟨a, len, cap, zs, hc, _, hle, _, hz, _, hcell, _⟩
  · obtain rfl : c = .slice none 0 0 := by simpa using hc
    exact ⟨[], none, 0, rfl, Or.inl rfl⟩
  · obtain rfl : c = .slice (some a) len cap := by simpa using hc
    rw [if_pos rfl] at hz
    have hl : (zs.take len).length = len := by rw [List.length_take]; omega
    refine ⟨zs.take len, some a, cap, by rw [hl], ?_⟩
    rcases Nat.eq_zero_or_pos len with h0 | h0
    · exact Or.inl (List.eq_nil_of_length_eq_zero (by omega))
    · have hs := spot_none (hcell 0 (by omega))
      refine Or.inr ⟨a.block, a.off, by obtain ⟨b, o, s⟩ := a; dsimp only at hs; subst hs; rfl, fun i hi => ?_⟩
      rw [hl] at hi
      have := hcell i (by omega)
      rw [add_none hs] at this
      rw [this, List.getD_eq_getElem?_getD, List.getD_eq_getElem?_getD, List.getElem?_take, if_pos hi]
set_option maxRecDepth 100000 in
/-- Rows of numbers that are handed in. -/
theorem steps_open {r0 : Reach} {b0 : Nat} {v : Value} {d : DataW H} {p : List MemPlace} (hv : Value.okWide Tryd.prog W r0 b0 22 v) (h : DataW.Trod enc Tryd.prog W 0 (fun _ => true) true 22 v d p) : ∃ S, Sts W v S ∧ S.length ≤ 9223372036854775807 := by
  obtain ⟨a0, len0, cap0, rfl⟩ := okWide_slice Tryd.underlying22 hv
  obtain ⟨fuel, hf⟩ := h
  rcases DataW.trod_slice Tryd.underlying22 hf with ⟨hc, _⟩ | ⟨a, len, cap, elems, rest, m, _, hc, _, _, hlc, hcm, hlen, hel, _⟩
  · have hc' : [Value.slice a0 len0 cap0] = [.slice none 0 0] := hc
    simp only [List.cons.injEq, Value.slice.injEq, and_true] at hc'
    obtain ⟨rfl, rfl, rfl⟩ := hc'
    exact ⟨[], ⟨none, 0, rfl, Or.inl rfl⟩, by simp⟩
  · have hc' : [Value.slice a0 len0 cap0] = [.slice (some a) len cap] := hc
    simp only [List.cons.injEq, Value.slice.injEq, and_true] at hc'
    obtain ⟨rfl, rfl, rfl⟩ := hc'
    have each : ∀ i, i < len0 → ∃ y : List Int, ∃ u, W.cell? (a.add i) = some u ∧ Ints W u y := fun i hi => by
      have := hel i hi
      rw [cellsIs, List.getElem?_eq_getElem (by omega), Option.bind_eq_some_iff] at this
      obtain ⟨cs, hcs, ht⟩ := this
      have hk := World.cells?_some hcs
      obtain ⟨c, rfl⟩ : ∃ c, cs = [c] := by
        have hl := hk.2.1
        match cs, hl with
        | [c], _ => exact ⟨c, rfl⟩
      obtain ⟨y, hy⟩ := ints_of ht
      have h0 := hk.2.2 0 (by omega)
      rw [add_zero, Nat.mul_one] at h0
      exact ⟨y, c, h0, hy⟩
    have choose : ∃ S : List (List Int), S.length = len0 ∧ ∀ i, i < len0 → ∃ u, W.cell? (a.add i) = some u ∧ Ints W u (S.getD i []) := by
      have : ∀ k, k ≤ len0 → ∃ S : List (List Int), S.length = k ∧ ∀ i, i < k → ∃ u, W.cell? (a.add i) = some u ∧ Ints W u (S.getD i []) := by
        intro k
        induction k with
        | zero => intro _; exact ⟨[], rfl, fun i hi => by omega⟩
        | succ k ih =>
          intro hk
          obtain ⟨l, hl, hc⟩ := ih (by omega)
          obtain ⟨y, y1⟩ := each k (by omega)
          refine ⟨l ++ [y], by simp [hl], fun i hi => ?_⟩
          rcases Nat.lt_or_ge i k with g | g
          · have := hc i g
            rw [List.getD_eq_getElem?_getD, List.getElem?_append_left (by omega), ← List.getD_eq_getElem?_getD]
            exact this
          · obtain rfl : i = k := by omega
            rw [List.getD_eq_getElem?_getD, List.getElem?_append_right (by omega), hl, Nat.sub_self]
            exact y1
      exact this len0 (Nat.le_refl _)
    obtain ⟨S, hl, hcell⟩ := choose
    refine ⟨S, ⟨some a, cap0, by rw [hl], ?_⟩, by rw [hl]; unfold maxLen at hcm; omega⟩
    rcases Nat.eq_zero_or_pos len0 with h0 | h0
    · exact Or.inl (List.eq_nil_of_length_eq_zero (by omega))
    · have hs : a.spot = none := by
        obtain ⟨u, hu, _⟩ := hcell 0 h0
        exact spot_none hu
      refine Or.inr ⟨a.block, a.off, by obtain ⟨b, o, s⟩ := a; dsimp only at hs; subst hs; rfl, fun i hi => ?_⟩
      obtain ⟨u, hu, hy⟩ := hcell i (by omega)
      rw [add_none hs] at hu
      exact ⟨u, hu, hy⟩
end
end Go.Proofs.YtpnbnnndpbjgmaaDoor.Qu
