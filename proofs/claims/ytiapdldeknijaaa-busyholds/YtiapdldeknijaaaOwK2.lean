/-
  What is proved here: rows of elements of several cells each, read, and appended to a row that a call owns.
-/
import Derived.Test.YtiapdldeknijaaaOwK
import Derived.Maps.AppendAt
namespace Go.Proofs.Ytiapdldeknijaaa
open Go.RowKit

theorem add_off (b off j : Nat) : (⟨b, off, none⟩ : Addr).add j = ⟨b, off + j, none⟩ := by unfold Addr.add; split <;> simp_all
/-- A slice reads as a list of elements of several cells each. -/
def RowK {α : Type} (enc : α → List Value) (w : World) (v : Value) (l : List α) : Prop :=
  ∃ a cap, v = .slice a l.length cap ∧ (l = [] ∨ ∃ b off, a = some ⟨b, off, none⟩ ∧ ∀ j u, (l.flatMap enc)[j]? = some u → w.cell? ⟨b, off + j, none⟩ = some u)
theorem RowK.nil {α : Type} (enc : α → List Value) (w : World) : RowK enc w (.slice none 0 0) [] := ⟨none, 0, rfl, Or.inl rfl⟩
theorem RowK.on {α : Type} {enc : α → List Value} {w w' : World} {v : Value} {l : List α} (h : RowK enc w v l) (q : Below w.heap.size w w') : RowK enc w' v l := by
  obtain ⟨a, cap, e, hc⟩ := h
  refine ⟨a, cap, e, ?_⟩
  rcases hc with hc | ⟨b, off, ea, hc⟩
  · exact Or.inl hc
  · refine Or.inr ⟨b, off, ea, fun j u hu => ?_⟩
    have k0 := hc j u hu
    exact (q.cell (p := ⟨b, off + j, none⟩) (World.block_lt_of_cell? _ _ k0)).trans k0
theorem RowK.form {α : Type} {enc : α → List Value} {w : World} {v : Value} {l : List α} (h : RowK enc w v l) : ∃ a cap, v = .slice a l.length cap := by
  obtain ⟨a, cap, e, _⟩ := h
  exact ⟨a, cap, e⟩
theorem own_rowK {α : Type} {enc : α → List Value} {k : Nat} (hk : ∀ x, (enc x).length = k) (k0 : 0 < k) {t : TypeId} {w : World} {n0 n : Nat} {v : Value} {l : List α} (h : w.ownsRow n0 t k v n (l.flatMap enc)) : RowK enc w v l := by
  have hl : n = l.length := by
    have := h.1
    rw [flat_len enc k hk] at this
    exact (Nat.eq_of_mul_eq_mul_right k0 this).symm
  subst hl
  rcases h.2 with ⟨hv, h0⟩ | ⟨g, cap, cur, hv, _⟩
  · exact ⟨none, 0, by rw [hv, h0], Or.inl (List.eq_nil_of_length_eq_zero h0)⟩
  · exact ⟨some ⟨g, 0, none⟩, cap, hv, Or.inr ⟨g, 0, rfl, fun j u hu => by
      have := h.cells (g := g) (by rw [hv]; rfl) j u hu
      rwa [add_off] at this⟩⟩
/-- What is appended to a row of one's own is owned. -/
theorem appK_any {α : Type} {enc : α → List Value} {k : Nat} (hk : ∀ x, (enc x).length = k) (k0 : 0 < k) (h1 : ∀ x, ∀ u ∈ enc x, u.oneCell' = true) {te ts : TypeId} {z : Value} {nb : Nat} (hu : Try.prog.underlying ts = some (.slice te))
    (hinfo : (Try.prog.info? te).map (fun i => (i.zero, i.size, i.bytes)) = some (some z, k, nb)) (hzs : z.cells.size = k) (hnb : nb ≤ 10000) {w : World} {n0 : Nat} {v vo : Value} {l mo : List α} (h : w.ownsRow n0 te k v l.length (l.flatMap enc)) (hm : RowK enc w vo mo) (hn : n0 ≤ w.heap.size) (hl : l.length + mo.length ≤ 1000000000) :
    ∃ v' w', (∀ ty, (Builtin.append_ #[ts, ts] ty #[v, vo]).run Try.prog w = .ok v' w') ∧ w'.ownsRow n0 te k v' (l ++ mo).length ((l ++ mo).flatMap enc) ∧ Below n0 w w' := by
  obtain ⟨i0, hi, hz0, hz1, hz2⟩ := info_parts hinfo
  obtain ⟨a, cap, rfl, hc⟩ := hm
  have own : ∀ (v' : Value) (w' : World), w'.ownsRow n0 te k v' (l.length + mo.length) (l.flatMap enc ++ mo.flatMap enc) → w'.ownsRow n0 te k v' (l ++ mo).length ((l ++ mo).flatMap enc) := fun v' w' q => by
    rw [List.length_append, List.flatMap_append]; exact q
  have blw : ∀ w' : World, w.grownBy w' v.ownBlock → Below n0 w w' := fun w' q => (Below.refl n0 w).grown q hn (fun j hj => (h.lt j hj).1)
  have some_ : ∀ ad : Addr, (∀ j u, (mo.flatMap enc)[j]? = some u → w.cell? (ad.add j) = some u) → ∃ (v' : Value) (w' : World), (∀ ty, (Builtin.append_ #[ts, ts] ty #[v, .slice (some ad) mo.length cap]).run Try.prog w = .ok v' w') ∧ w'.ownsRow n0 te k v' (l ++ mo).length ((l ++ mo).flatMap enc) ∧ Below n0 w w' := fun ad hcell => by
    have run := fun ty => run_append_own_at (P := Try.prog) w n0 ts ty te i0 z k nb hu hi hz0 hz1 hz2 hzs k0 v l.length (l.flatMap enc) h ad mo.length cap (mo.flatMap enc) (flat_len enc k hk mo) hcell (fun u hu' => by
      obtain ⟨x, _, hx⟩ := List.mem_flatMap.1 hu'
      exact h1 x u hx) (by unfold maxLen; omega) (by
        have : (l.length + mo.length) * nb ≤ 1000000000 * 10000 := Nat.mul_le_mul hl hnb
        omega) hn
    obtain ⟨v', w', hr, r1, r2, _, _⟩ := run ts
    exact ⟨v', w', fun ty => hr, own v' w' r1, blw w' r2⟩
  rcases hc with rfl | ⟨b, off, rfl, hc⟩
  · rcases a with _ | ad
    · refine ⟨v, w, fun ty => ?_, own v w (by simpa using h), Below.refl _ _⟩
      rcases h.2 with ⟨rfl, h0⟩ | ⟨g, cp, cur, rfl, _, hg, hnc, _, _, _⟩
      · simp [Builtin.append_, run_underlying hu, sizeOf, typeInfo, hi, Builtin.lenOf, Builtin.firstCells]
      · simp [Builtin.append_, run_underlying hu, sizeOf, typeInfo, hi, Builtin.lenOf, Builtin.firstCells, hnc, storeCells]
    · exact some_ ad (fun j u hu' => by simp at hu')
  · exact some_ ⟨b, off, none⟩ (fun j u hu' => by rw [add_off]; exact hc j u hu')
end Go.Proofs.Ytiapdldeknijaaa
