/-
  What is proved: chimelaw2.WheelSame returns true for every number, every list of rings and every list of numbers, and leaves all that was there as it was. Conditions: none.
-/
import Derived.Test.YtppachfccihbnaaRows
import Derived.Test.YtppachfccihbnaaWhSm
import Derived.Test.YtppachfccihbnaaQuRin
import Derived.SliceStrings
import Derived.WalkKit
import Derived.ProofKit
import Derived.OpenShut
namespace Go.Proofs.Ytppachfccihbnaa.wheelSame
open Go.ChangeShapes Go.WideShapes Go.ChangeAt Go.RowKit

theorem own : ownKnob Try.prog.godebug = none := by kernel_rfl
theorem laidOut : laidOutB Try.prog = true := by kernel_rfl
theorem read_rings : Try.prog.readableRec 22 = true := by kernel_rfl
theorem row_rings : 22 < Try.prog.types.size := of_decide_eq_true (by kernel_rfl)
theorem read_ints : Try.prog.readableRec 23 = true := by kernel_rfl
theorem row_ints : 23 < Try.prog.types.size := of_decide_eq_true (by kernel_rfl)
theorem cellsI1 : Try.prog.cellsOf 3 = 1 := by kernel_rfl
section
variable {H : Type} {enc : TypeId × Value → H} {W : World}
set_option maxRecDepth 100000 in
/-- A list of numbers that is handed in. -/
theorem ints_open {r0 : Reach} {b0 : Nat} {v : Value} {d : DataW H} {p : List MemPlace} (hv : Value.okWide Try.prog W r0 b0 23 v) (h : DataW.Trod enc Try.prog W 0 (fun _ => true) true 23 v d p) : ∃ l, Ints W v l ∧ l.length ≤ 9223372036854775807 := by
  obtain ⟨a0, len0, cap0, rfl⟩ := okWide_slice Try.underlying23 hv
  obtain ⟨fuel, hf⟩ := h
  have hb : len0 ≤ 9223372036854775807 := by
    rcases DataW.trod_slice Try.underlying23 hf with ⟨hc, _⟩ | ⟨a, len, cap, elems, rest, m, _, hc, _, _, hlc, hcm, _⟩
    · have hc' : [Value.slice a0 len0 cap0] = [.slice none 0 0] := hc
      simp only [List.cons.injEq, Value.slice.injEq, and_true] at hc'
      omega
    · have hc' : [Value.slice a0 len0 cap0] = [.slice (some a) len cap] := hc
      simp only [List.cons.injEq, Value.slice.injEq, and_true] at hc'
      unfold maxLen at hcm
      omega
  rcases open_ints Try.underlying23 Try.underlying3 cellsI1 hf with ⟨hc, _⟩ | ⟨a, len, cap, zs, hc, _, hle, _, hz, _, hcell, _⟩
  · have hc' : [Value.slice a0 len0 cap0] = [.slice none 0 0] := hc
    simp only [List.cons.injEq, Value.slice.injEq, and_true] at hc'
    obtain ⟨rfl, rfl, rfl⟩ := hc'
    exact ⟨[], ⟨none, 0, rfl, Or.inl rfl⟩, by simp⟩
  · have hc' : [Value.slice a0 len0 cap0] = [.slice (some a) len cap] := hc
    simp only [List.cons.injEq, Value.slice.injEq, and_true] at hc'
    obtain ⟨rfl, rfl, rfl⟩ := hc'
    rw [if_pos rfl] at hz
    have hl : (zs.take len0).length = len0 := by rw [List.length_take]; omega
    refine ⟨zs.take len0, ⟨some a, cap0, by rw [hl], ?_⟩, by rw [hl]; exact hb⟩
    rcases Nat.eq_zero_or_pos len0 with h0 | h0
    · exact Or.inl (List.eq_nil_of_length_eq_zero (by omega))
    · have hs := Qu.spot_none (hcell 0 (by omega))
      refine Or.inr ⟨a.block, a.off, by obtain ⟨b, o, s⟩ := a; dsimp only at hs; subst hs; rfl, fun i hi => ?_⟩
      rw [hl] at hi
      have := hcell i (by omega)
      rw [Qu.add_none hs] at this
      rw [this, List.getD_eq_getElem?_getD, List.getD_eq_getElem?_getD, List.getElem?_take, if_pos hi]
end
set_option maxRecDepth 100000 in
theorem lifted (os : Os) (started : os.Started) (H : Type) (enc : TypeId × Value → H) :
    ReturnsInHanded {} Try.checked os 3 .any (Rows.wheelSameSpec.pre6 enc Try.prog Try.f3 Rows.wheelSameRow.domain false) (Rows.wheelSameSpec.post enc Try.prog Try.f3 false true false false) := by
  refine returnsInHanded_of_change (C := Try.checked) own started (by kernel_rfl) Try.func3
    (ChangeSpec.witness6 (enc := enc) (C := Try.checked) false ⟨#[], #[.int .i64 0, .slice none 0 0, .slice none 0 0], []⟩ 8 (by kernel_rfl) (by kernel_rfl) (by kernel_rfl) (by kernel_rfl)) ?_
  intro W base args ds gs before hval0 hW _ _
  have hval : ∀ (j : Nat) t v, Try.f3.params[j]? = some t → args[j]? = some v → Value.okWide Try.prog W .any base t v := hval0
  have hW' := hW
  obtain ⟨p, q, hA0, hV, rfl, hfz, hnd⟩ := hW
  have hA : DataW.TrodAll enc Try.prog W 0 (fun _ => true) true Try.f3.params.toList args.toList ds p := hA0
  rw [Try.params3] at hA hval
  obtain ⟨v0, vs0, d0, ds0, p0, q0, hargs, rfl, rfl, h0, r0⟩ := trodAll_cons hA
  obtain ⟨v1, vs1, d1, ds1, p1, q1, rfl, rfl, rfl, h1, r1⟩ := trodAll_cons r0
  obtain ⟨v2, vs2, d2, ds2, p2, q2, rfl, rfl, rfl, h2, r2⟩ := trodAll_cons r1
  obtain ⟨rfl, rfl, rfl⟩ := trodAll_nil r2
  obtain rfl : args = #[v0, v1, v2] := Array.ext' hargs
  obtain ⟨rfl, rfl⟩ := trodVars_none hV
  obtain ⟨a0, rfl, rfl, rfl, z0⟩ := open_int Try.underlying3 (hval 0 3 v0 rfl rfl) h0
  obtain ⟨l, hr, hl⟩ := Qu.rings_open (hval 1 22 v1 rfl rfl) h1
  obtain ⟨ks, hs, hk⟩ := ints_open (hval 2 23 v2 rfl rfl) h2
  have hlt1 : ∀ x ∈ p1, x.block < W.heap.size := by
    obtain ⟨fuel, hf⟩ := h1
    exact DataW.trod_lt fuel _ _ _ hf
  have hlt2 : ∀ x ∈ p2, x.block < W.heap.size := by
    obtain ⟨fuel, hf⟩ := h2
    exact DataW.trod_lt fuel _ _ _ hf
  clear hA0 hval0
  simp only [List.append_nil] at hW'
  have walk : Calls Try.prog 3 #[.int .i64 a0, v1, v2] W fun e w' => e = .returned (.bool true) ∧ Below W.heap.size W w' := by
    obtain ⟨a, cap, e1, _⟩ := id hr
    obtain ⟨sa, scap, e2, _⟩ := id hs
    subst e1
    subst e2
    exact Qu.wsame a0 a sa cap scap l ks W hr hl hs hk
  refine walk.mono fun e W' ⟨he, hb⟩ => ?_
  subst he
  refine ⟨_, rfl, _, _, _, [], [] ++ (p1 ++ (p2 ++ [])), [], hW', ?_, ?_, ?_, hb.frame _, fun h => by cases h⟩
  · exact trodAll_mk1 (shut_bool Try.underlying4 true)
  · exact trodAll_cons_mk (shut_int Try.underlying3 z0) (trodAll_cons_mk (Below.trod laidOut read_rings row_rings h1 hb hlt1) (trodAll_cons_mk (Below.trod laidOut read_ints row_ints h2 hb hlt2) trodAll_mk0))
  · rfl

theorem over : Rows.wheelSameRow.holds Try.pinned (OpenSpec.ofChange Rows.wheelSameSpec) :=
  OpenClaim.holds_of_wide 3 Try.f3 rfl rfl rfl rfl rfl rfl rfl ⟨rfl, rfl, rfl, rfl, rfl⟩ rfl rfl rfl rfl rfl (by kernel_rfl) Try.func3 (by kernel_rfl)
    (of_decide_eq_true (by kernel_rfl)) (by unfold Func.isWrapper; first | (rw [if_pos (by decide +kernel)]; kernel_rfl) | (rw [if_neg (by decide +kernel)]; exact ⟨rfl, rfl⟩))
    (fun os started H enc _ => lifted os started H enc)
end Go.Proofs.Ytppachfccihbnaa.wheelSame
namespace Go.Proofs.Ytppachfccihbnaa
theorem wheelSame_holds : Rows.WheelSameSaid := wheelSame.over
#print axioms wheelSame_holds
end Go.Proofs.Ytppachfccihbnaa
