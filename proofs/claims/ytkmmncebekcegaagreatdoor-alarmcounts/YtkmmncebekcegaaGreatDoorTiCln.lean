/-
  What is proved here: changes appended to changes; what slices.Clone answers at changes (contracts over the translation).
-/
import Derived.Test.YtkmmncebekcegaaGreatDoorBS
namespace Go.Proofs.YtkmmncebekcegaaGreatDoor
open Go.RowKit Cal Txt

theorem info_ti_chg : (Tryz.prog.info? 74).map (fun i => (i.zero, i.size, i.bytes)) = some (some (.agg #[.int .i64 0, .int .i64 0]), 2, 16) := by kernel_rfl
theorem nths_cells {w : World} {b off : Nat} {l : List (Int × Int)} (hc : ∀ i, i < l.length → w.cell? ⟨b, off + i * 2, none⟩ = some (.int .i64 (l.getD i (0, 0)).1) ∧ w.cell? ⟨b, off + i * 2 + 1, none⟩ = some (.int .i64 (l.getD i (0, 0)).2)) : ∀ j u, (Zo.prc l)[j]? = some u → w.cell? ((⟨b, off, none⟩ : Addr).add j) = some u := fun j u hu => by
  have hl : j < l.length * 2 := by have := (List.getElem?_eq_some_iff.1 hu).1; rwa [Zo.prc_len] at this
  have hadd : (⟨b, off, none⟩ : Addr).add j = ⟨b, off + j, none⟩ := by unfold Addr.add; split <;> simp_all
  rw [hadd]
  obtain ⟨q1, q2⟩ := Zo.prc_at l (j / 2) (by omega)
  obtain ⟨c1, c2⟩ := hc (j / 2) (by omega)
  rcases (by omega : j % 2 = 0 ∨ j % 2 = 1) with z | z
  · rw [show j = j / 2 * 2 by omega] at hu ⊢
    rw [c1, ← q1, hu]
  · rw [show j = j / 2 * 2 + 1 by omega] at hu ⊢
    rw [← Nat.add_assoc, c2, ← q2, hu]
theorem prc_one (l : List (Int × Int)) : ∀ u ∈ Zo.prc l, u.oneCell' = true := fun u hu => by
  unfold Zo.prc at hu
  obtain ⟨x, _, hx⟩ := List.mem_flatMap.1 hu
  simp at hx
  rcases hx with rfl | rfl <;> rfl
theorem app2_any {w : World} {n0 : Nat} {v vo : Value} {l mo : List (Int × Int)} (h : w.ownsRow n0 74 2 v l.length (Zo.prc l)) (hm : Nths w vo mo) (hn : n0 ≤ w.heap.size) (hl : l.length + mo.length ≤ 1000000) :
    ∃ v' w', (∀ ty, (Builtin.append_ #[29, 29] ty #[v, vo]).run Tryz.prog w = .ok v' w') ∧ w'.ownsRow n0 74 2 v' (l ++ mo).length (Zo.prc (l ++ mo)) ∧ Below n0 w w' := by
  obtain ⟨i0, hi, hz0, hz1, hz2⟩ := info_parts info_ti_chg
  obtain ⟨a, cap, rfl, hc⟩ := hm
  have own : ∀ (v' : Value) (w' : World), w'.ownsRow n0 74 2 v' (l.length + mo.length) (Zo.prc l ++ Zo.prc mo) → w'.ownsRow n0 74 2 v' (l ++ mo).length (Zo.prc (l ++ mo)) := fun v' w' q => by
    rw [List.length_append, show Zo.prc (l ++ mo) = Zo.prc l ++ Zo.prc mo by simp [Zo.prc]]; exact q
  have blw : ∀ w' : World, w.grownBy w' v.ownBlock → Below n0 w w' := fun w' q => (Below.refl n0 w).grown q hn (fun j hj => (h.lt j hj).1)
  have some_ : ∀ ad : Addr, (∀ j u, (Zo.prc mo)[j]? = some u → w.cell? (ad.add j) = some u) → ∃ (v' : Value) (w' : World), (∀ ty, (Builtin.append_ #[29, 29] ty #[v, .slice (some ad) mo.length cap]).run Tryz.prog w = .ok v' w') ∧ w'.ownsRow n0 74 2 v' (l ++ mo).length (Zo.prc (l ++ mo)) ∧ Below n0 w w' := fun ad hcell => by
    obtain ⟨v', w', hr, r1, r2, _, _⟩ := run_append_own_at (P := Tryz.prog) w n0 29 29 74 i0 (.agg #[.int .i64 0, .int .i64 0]) 2 16 Tryz.underlying29 hi hz0 hz1 hz2 rfl (by decide) v l.length (Zo.prc l) h ad mo.length cap (Zo.prc mo) (Zo.prc_len mo) hcell (prc_one mo) (by unfold maxLen; omega) (by omega) hn
    exact ⟨v', w', fun ty => hr, own v' w' r1, blw w' r2⟩
  rcases hc with rfl | ⟨b, off, rfl, hc⟩
  · rcases a with _ | ad
    · refine ⟨v, w, fun ty => ?_, own v w (by simpa [Zo.prc] using h), Below.refl _ _⟩
      rcases h.2 with ⟨rfl, h0⟩ | ⟨g, cp, cur, rfl, _, hg, hnc, _, _, _⟩
      · simp [Builtin.append_, run_underlying Tryz.underlying29, sizeOf, typeInfo, hi, Builtin.lenOf, Builtin.firstCells]
      · simp [Builtin.append_, run_underlying Tryz.underlying29, sizeOf, typeInfo, hi, Builtin.lenOf, Builtin.firstCells, hnc, storeCells]
    · exact some_ ad (fun j u hu => by simp [Zo.prc] at hu)
  · exact some_ ⟨b, off, none⟩ (nths_cells hc)
theorem own_hol2c {w : World} {n0 n : Nat} {v : Value} {l : List (Int × Int)} (h : w.ownsRow n0 74 2 v n (Zo.prc l)) : (v = .slice none 0 0 ∧ l = []) ∨ ∃ g cap, v = .slice (some ⟨g, 0, none⟩) l.length cap ∧ n0 ≤ g ∧ l.length ≤ cap ∧ Hol2 w g 0 l := by
  have hl : l.length = n := by have := h.1; rw [Zo.prc_len] at this; omega
  rcases h.2 with ⟨hv, h0⟩ | ⟨g, cap, cur, hv, hb, hg, hc, hm, hs, ht⟩
  · exact Or.inl ⟨hv, List.eq_nil_of_length_eq_zero (by omega)⟩
  · refine Or.inr ⟨g, cap, by rw [hv, hl], hb, by omega, fun i hi => ?_⟩
    have hadd : ∀ j, (⟨g, 0, none⟩ : Addr).add j = ⟨g, 0 + j, none⟩ := fun j => by unfold Addr.add; split <;> simp_all
    obtain ⟨q1, q2⟩ := Zo.prc_at l i hi
    have c1 := h.cells (g := g) (by rw [hv]; rfl) _ _ q1
    have c2 := h.cells (g := g) (by rw [hv]; rfl) _ _ q2
    rw [hadd] at c1 c2
    refine ⟨⟨c1, by rw [Nat.add_assoc]; exact c2⟩, ?_, ?_⟩ <;> simp [World.frozen?, hg]
/-- What Clone answers. -/
def ClnA (w : World) (l : List (Int × Int)) (e : Ending) (w' : World) : Prop := ∃ u, e = .returned u ∧ Below w.heap.size w w' ∧ ((l = [] ∧ ∃ a c, u = .slice a 0 c) ∨ (0 < l.length ∧ ∃ g cap, u = .slice (some ⟨g, 0, none⟩) l.length cap ∧ w.heap.size ≤ g ∧ l.length ≤ cap ∧ Hol2 w' g 0 l))
set_option maxRecDepth 100000 in
theorem clone_any (v : Value) (l : List (Int × Int)) (w : World) (hv : Nths w v l) (hl : l.length ≤ 1000000) :
    Calls Tryz.prog 119 #[v] w (ClnA w l) := by
  obtain ⟨a, cap, rfl, hc⟩ := id hv
  rcases a with _ | ad
  · have l0 : l = [] := by
      rcases hc with q | ⟨b, off, q, _⟩
      · exact q
      · cases q
    subst l0
    have hn : ∀ w, (binOp .eql 29 (.slice none 0 cap) (.slice none 0 0)).run Tryz.prog w = .ok (.bool true) w := fun w => Lib.run_eql_slice_nil w _ _ none _ _ _ _ Tryz.underlying29
    go_enter Tryz.func119, Tryz.ntmps119
    go_wp2
    go_ret
    exact ⟨_, rfl, Below.refl _ _, Or.inl ⟨rfl, none, 0, rfl⟩⟩
  · have b1 : Below w.heap.size w (w.alloc (.cells #[] 74)) := (Below.refl _ _).alloc (Nat.le_refl _) _
    have O0 : (w.alloc (.cells #[] 74)).ownsRow w.heap.size 74 2 (.slice (some ⟨w.heap.size, 0, none⟩) ([] : List (Int × Int)).length 0) ([] : List (Int × Int)).length (Zo.prc []) :=
      ⟨rfl, Or.inr ⟨w.heap.size, 0, #[], rfl, Nat.le_refl _, heap_alloc_new w _, Nat.le_refl _, Nat.zero_le _, rfl, rfl⟩⟩
    obtain ⟨v2, w2, ap, o2, b2⟩ := app2_any (mo := l) O0 (hv.on b1) (by rw [World.size_alloc]; omega) (by simpa using hl)
    rw [List.nil_append] at o2
    have AP := Lib.hid ap
    have ZZ : Hid (ClnA w l (.returned v2) w2) := Lib.hid (by
      refine ⟨v2, rfl, b1.trans b2, ?_⟩
      rcases own_hol2c o2 with ⟨e1, e2⟩ | ⟨g, c2, e1, h1, h2, h3⟩
      · exact Or.inl ⟨e2, none, 0, e1⟩
      · rcases Nat.eq_zero_or_pos l.length with q | q
        · exact Or.inl ⟨List.eq_nil_of_length_eq_zero q, _, _, by rw [e1, q]⟩
        · exact Or.inr ⟨q, g, c2, e1, h1, h2, h3⟩)
    have hn : ∀ w, (binOp .eql 29 (.slice (some ad) l.length cap) (.slice none 0 0)).run Tryz.prog w = .ok (.bool false) w := fun w => Lib.run_eql_slice_nil w _ _ (some ad) _ _ _ _ Tryz.underlying29
    clear hv hc O0 ap o2 b2 b1
    go_enter Tryz.func119, Tryz.ntmps119
    go_wp2_with (at_builtin; refine wpList_app rfl _ _ 29 rfl _ _ _ _ rfl rfl AP.out ?_)
    go_ret
    exact ZZ.out
end Go.Proofs.YtkmmncebekcegaaGreatDoor
