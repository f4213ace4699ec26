/-
  What is proved here: what the document's Rule answers, as far as no list is looked into (contracts over the translation).
-/
import Derived.Test.YtoafdacgekmomabGreatDoorRuleF
import Derived.Test.YtoafdacgekmomabGreatDoorRefList
namespace Go.Proofs.YtoafdacgekmomabGreatDoor
open Go.RowKit Cal Txt

set_option maxRecDepth 100000 in
set_option maxHeartbeats 2000000 in
theorem refRule_1 (f ev c u : Int) (am ad aw ap : Option Addr) (lm ld lw lp cm cd cw cp : Nat) (w : World) (h : ¬ ((1 ≤ f ∧ f ≤ 4) ∧ (1 ≤ ev ∧ ev ≤ 50) ∧ (0 ≤ c ∧ c ≤ 200) ∧ (0 ≤ u ∧ u ≤ 109573))) :
    Calls Tryz.prog 5 #[.agg #[.int .i64 f, .int .i64 ev, .int .i64 c, .int .i64 u, .slice am lm cm, .slice ad ld cd, .slice aw lw cw, .slice ap lp cp]] w fun e w' => e = .returned (.int .i64 1) ∧ Below w.heap.size w w' := by
  have hc : f < 1 ∨ (1 ≤ f ∧ 4 < f) ∨ (1 ≤ f ∧ f ≤ 4 ∧ ev < 1) ∨ (1 ≤ f ∧ f ≤ 4 ∧ 1 ≤ ev ∧ 50 < ev) ∨ (1 ≤ f ∧ f ≤ 4 ∧ 1 ≤ ev ∧ ev ≤ 50 ∧ c < 0) ∨ (1 ≤ f ∧ f ≤ 4 ∧ 1 ≤ ev ∧ ev ≤ 50 ∧ 0 ≤ c ∧ 200 < c) ∨ (1 ≤ f ∧ f ≤ 4 ∧ 1 ≤ ev ∧ ev ≤ 50 ∧ 0 ≤ c ∧ c ≤ 200 ∧ u < 0) ∨ (1 ≤ f ∧ f ≤ 4 ∧ 1 ≤ ev ∧ ev ≤ 50 ∧ 0 ≤ c ∧ c ≤ 200 ∧ 0 ≤ u ∧ 109573 < u) := by omega
  clear h
  rcases hc with a | ⟨a, b⟩ | ⟨a, b, d⟩ | ⟨a, b, d, e⟩ | ⟨a, b, d, e, g⟩ | ⟨a, b, d, e, g, i⟩ | ⟨a, b, d, e, g, i, j⟩ | ⟨a, b, d, e, g, i, j, k⟩
  all_goals
    go_enter Tryz.func5, Tryz.ntmps5
    go_wp2
    go_ret
    exact ⟨rfl, (Below.refl _ _).alloc (Nat.le_refl _) _⟩
set_option maxRecDepth 100000 in
set_option maxHeartbeats 2000000 in
theorem refRule_3 (f ev c u : Int) (am ad aw ap : Option Addr) (lm ld lw lp cm cd cw cp : Nat) (w : World) (h1 : 1 ≤ f) (h2 : f ≤ 4) (h3 : 1 ≤ ev) (h4 : ev ≤ 50) (h5 : 0 ≤ c) (h6 : c ≤ 200) (h7 : 0 ≤ u) (h8 : u ≤ 109573) (hc : ¬ c = 0) (hu : ¬ u = 0) :
    Calls Tryz.prog 5 #[.agg #[.int .i64 f, .int .i64 ev, .int .i64 c, .int .i64 u, .slice am lm cm, .slice ad ld cd, .slice aw lw cw, .slice ap lp cp]] w fun e w' => e = .returned (.int .i64 3) ∧ Below w.heap.size w w' := by
  have b1 : (c != 0) = true := by simp [hc]
  have b2 : (u != 0) = true := by simp [hu]
  go_enter Tryz.func5, Tryz.ntmps5
  go_wp2
  go_ret
  exact ⟨rfl, (Below.refl _ _).alloc (Nat.le_refl _) _⟩
theorem not_both {c u : Int} (h : ¬ (¬ c = 0 ∧ ¬ u = 0)) : (c != 0) = false ∨ ((c != 0) = true ∧ (u != 0) = false) := by
  by_cases hc : c = 0
  · exact Or.inl (by simp [hc])
  · exact Or.inr ⟨by simp [hc], by simp; omega⟩
set_option maxRecDepth 100000 in
set_option maxHeartbeats 4000000 in
theorem refRule_4 (f ev c u : Int) (am ad aw ap : Option Addr) (lm ld lw lp cm cd cw cp : Nat) (w : World) (h1 : 1 ≤ f) (h2 : f ≤ 4) (h3 : 1 ≤ ev) (h4 : ev ≤ 50) (h5 : 0 ≤ c) (h6 : c ≤ 200) (h7 : 0 ≤ u) (h8 : u ≤ 109573) (hcu : ¬ (¬ c = 0 ∧ ¬ u = 0))
    (h : ¬ (lm ≤ 12 ∧ ld ≤ 31 ∧ lw ≤ 20 ∧ lp ≤ 20)) :
    Calls Tryz.prog 5 #[.agg #[.int .i64 f, .int .i64 ev, .int .i64 c, .int .i64 u, .slice am lm cm, .slice ad ld cd, .slice aw lw cw, .slice ap lp cp]] w fun e w' => e = .returned (.int .i64 4) ∧ Below w.heap.size w w' := by
  have hx : (12 : Int) < lm ∨ ((lm : Int) ≤ 12 ∧ (31 : Int) < ld) ∨ ((lm : Int) ≤ 12 ∧ (ld : Int) ≤ 31 ∧ (20 : Int) < lw) ∨ ((lm : Int) ≤ 12 ∧ (ld : Int) ≤ 31 ∧ (lw : Int) ≤ 20 ∧ (20 : Int) < lp) := by omega
  clear h
  rcases not_both hcu with b | ⟨b, b'⟩
  all_goals
    clear hcu
    rcases hx with a | ⟨a, d⟩ | ⟨a, d, e⟩ | ⟨a, d, e, g⟩
    all_goals
      go_enter Tryz.func5, Tryz.ntmps5
      go_wp2
      go_ret
      exact ⟨rfl, (Below.refl _ _).alloc (Nat.le_refl _) _⟩
end Go.Proofs.YtoafdacgekmomabGreatDoor
