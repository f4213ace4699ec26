/-
  What is proved here: what the document's Digits and Span answer (contracts over the translation).
-/
import Derived.Test.YtdiijpjfkgnjkaaDoorRefRead3
import Derived.Test.YtdiijpjfkgnjkaaDoorRefDg
namespace Go.Proofs.YtdiijpjfkgnjkaaDoor
open Go.RowKit Cal Txt

theorem refSpan_zero (w : World) :
    Calls Tryd.prog 28 #[.int .i64 0] w fun e w' => e = .returned (.string ⟨(spt 0).toArray⟩) ∧ w' = w := by
  go_enter Tryd.func28, Tryd.ntmps28
  go_wp2
  go_ret
  exact ⟨rfl, rfl⟩
set_option maxRecDepth 100000 in
set_option maxHeartbeats 8000000 in
theorem refSpan_walk (sg : List UInt8) (a : Nat) (n : Int) (w : World) (ha : 1 ≤ a) (ha2 : a ≤ 1000000)
    (hn : (n < 0 ∧ -n = a ∧ sg = [45]) ∨ (¬ n < 0 ∧ n = a ∧ sg = [])) :
    Calls Tryd.prog 28 #[.int .i64 n] w fun e w' => e = .returned (.string ⟨(sg ++ prts a).toArray⟩) ∧ w' = w := by
  have nz : (n == 0) = false := by rw [beq_eq_false_iff_ne]; omega
  have d1 : (Lib.decDigits ((a : Int) / 1440).toNat).length ≤ 9 := dec_len _ 8 (by omega)
  have d2 : (Lib.decDigits ((a : Int) % 1440 / 60).toNat).length ≤ 9 := dec_len _ 8 (by omega)
  have d3 : (Lib.decDigits ((a : Int) % 60).toNat).length ≤ 9 := dec_len _ 8 (by omega)
  have d4 : (Lib.decDigits (a / 1440)).length ≤ 9 := dec_len _ 8 (by omega)
  have d5 : (Lib.decDigits (a % 1440 / 60)).length ≤ 9 := dec_len _ 8 (by omega)
  have d6 : (Lib.decDigits (a % 60)).length ≤ 9 := dec_len _ 8 (by omega)
  have key : ∀ (x y z : List UInt8), x = pc (a / 1440) 100 → y = pc (a % 1440 / 60) 104 → z = pc (a % 60) 109 → sg ++ x ++ y ++ z = sg ++ prts a := by
    rintro x y z rfl rfl rfl; simp [prts]
  have KEY := Lib.hid key
  clear key
  have z1 : (a : Int) / 1440 ≤ 0 → [] = pc (a / 1440) 100 := fun h => by rw [show a / 1440 = 0 by omega]; rfl
  have z2 : (a : Int) % 1440 / 60 ≤ 0 → [] = pc (a % 1440 / 60) 104 := fun h => by rw [show a % 1440 / 60 = 0 by omega]; rfl
  have z3 : (a : Int) % 60 ≤ 0 → [] = pc (a % 60) 109 := fun h => by rw [show a % 60 = 0 by omega]; rfl
  have y1 : 0 < (a : Int) / 1440 → Lib.decDigits (a / 1440) ++ [100] = pc (a / 1440) 100 := fun h => (pc_pos (by omega) _).symm
  have y2 : 0 < (a : Int) % 1440 / 60 → Lib.decDigits (a % 1440 / 60) ++ [104] = pc (a % 1440 / 60) 104 := fun h => (pc_pos (by omega) _).symm
  have y3 : 0 < (a : Int) % 60 → Lib.decDigits (a % 60) ++ [109] = pc (a % 60) 109 := fun h => (pc_pos (by omega) _).symm
  have Z1 := Lib.hid z1
  have Z2 := Lib.hid z2
  have Z3 := Lib.hid z3
  have Y1 := Lib.hid y1
  have Y2 := Lib.hid y2
  have Y3 := Lib.hid y3
  clear z1 z2 z3 y1 y2 y3
  rcases hn with ⟨g, e, rfl⟩ | ⟨g, e, rfl⟩
  all_goals
    by_cases h1 : 0 < (a : Int) / 1440
    all_goals
      by_cases h2 : 0 < (a : Int) % 1440 / 60
      all_goals
        by_cases h3 : 0 < (a : Int) % 60
        all_goals
          first
            | (exfalso; omega)
            | (go_enter Tryd.func28, Tryd.ntmps28
               go_wp2_with (go_at_call 48; refine (refDigits_any _ _ (by omega) (by omega)).mono ?_; rintro e w' ⟨rfl, rfl⟩)
               go_ret
               refine ⟨ret_ba ?_, rfl⟩
               apply ByteArray.ext
               apply Array.ext'
               first
                 | (refine Eq.trans ?_ (KEY.out _ _ _ (Y1.out h1) (Y2.out h2) (Y3.out h3)); simp; done)
                 | (refine Eq.trans ?_ (KEY.out _ _ _ (Y1.out h1) (Y2.out h2) (Z3.out (by omega))); simp; done)
                 | (refine Eq.trans ?_ (KEY.out _ _ _ (Y1.out h1) (Z2.out (by omega)) (Y3.out h3)); simp; done)
                 | (refine Eq.trans ?_ (KEY.out _ _ _ (Y1.out h1) (Z2.out (by omega)) (Z3.out (by omega))); simp; done)
                 | (refine Eq.trans ?_ (KEY.out _ _ _ (Z1.out (by omega)) (Y2.out h2) (Y3.out h3)); simp; done)
                 | (refine Eq.trans ?_ (KEY.out _ _ _ (Z1.out (by omega)) (Y2.out h2) (Z3.out (by omega))); simp; done)
                 | (refine Eq.trans ?_ (KEY.out _ _ _ (Z1.out (by omega)) (Z2.out (by omega)) (Y3.out h3)); simp; done)
                 | (refine Eq.trans ?_ (KEY.out _ _ _ (Z1.out (by omega)) (Z2.out (by omega)) (Z3.out (by omega))); simp; done))
theorem refSpan_any (n : Int) (w : World) (h1 : -1000000 ≤ n) (h2 : n ≤ 1000000) :
    Calls Tryd.prog 28 #[.int .i64 n] w fun e w' => e = .returned (.string ⟨(spt n).toArray⟩) ∧ w' = w := by
  by_cases h : n = 0
  · subst h; exact refSpan_zero w
  · have := refSpan_walk (if n < 0 then [45] else []) n.natAbs n w (by omega) (by omega) (by
      by_cases g : n < 0
      · exact Or.inl ⟨g, by omega, if_pos g⟩
      · exact Or.inr ⟨g, by omega, if_neg g⟩)
    have e : spt n = (if n < 0 then [45] else []) ++ prts n.natAbs := by unfold spt; rw [if_neg h]
    rw [e]; exact this
end Go.Proofs.YtdiijpjfkgnjkaaDoor
