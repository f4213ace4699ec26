/-
  What is proved here: what WeekTells's walk wants besides its callees' contracts: that week.Nth and the document's NthOf answer alike; two weekdays written into fresh blocks.
-/
import Derived.Test.YtbpcggiibiamlabDoorRefNth
import Derived.Test.YtbpcggiibiamlabDoorWkHolds
import Derived.Test.YtbpcggiibiamlabDoorErrT
namespace Go.Proofs.YtbpcggiibiamlabDoor
open Go.RowKit Cal

/-- What WeekTells carries from call to call: the table, errors.errorType, and the weekday that it was handed, in its block. -/
def KeepX (N k : Int) (w W : World) : Prop := Tab W ∧ Below w.heap.size w W ∧ ErrTy W ∧ Two W w.heap.size N k
theorem KeepX.start {N k : Int} {w : World} (t : TypeId) (hT : Tab w) (hE : ErrTy w) : KeepX N k w (w.alloc (.cells #[.int .i64 N, .int .i64 k] t)) :=
  ⟨hT.alloc _, (Below.refl _ _).alloc (Nat.le_refl _) _, hE.alloc _, Two.new w N k t⟩
theorem KeepX.on {N k : Int} {w W W' : World} (h : KeepX N k w W) (b : Below W.heap.size W W') : KeepX N k w W' := ⟨h.1.below b, h.2.1.trans (b.mono h.2.1.size), h.2.2.1.below b, h.2.2.2.on b⟩
theorem KeepX.alloc {N k : Int} {w W : World} (h : KeepX N k w W) (o : Obj) : KeepX N k w (W.alloc o) := h.on ((Below.refl _ _).alloc (Nat.le_refl _) _)
theorem fst_pos {y : Int} (h1 : 1900 ≤ y) : 1 ≤ fst y := by
  have a := fst_bd y
  by_cases h : y = 1900
  · subst h; decide
  · have b := bef_mono (a := 1901) (b := y) (by omega)
    have c : bef 1901 = 365 := by decide
    omega
theorem nth_both (y m N k : Int) : ∃ a f : Int,
    (∀ w : World, Tab w → Calls Tryd.prog 15 #[.int .i64 y, .int .i64 m, .agg #[.int .i64 N, .int .i64 k]] w fun e w' => e = .returned (.tuple #[.int .i64 a, fault f]) ∧ Below w.heap.size w w') ∧
    (∀ w : World, Calls Tryd.prog 14 #[.int .i64 y, .int .i64 m, .agg #[.int .i64 N, .int .i64 k]] w fun e w' => e = .returned (.tuple #[.int .i64 a, .int .i64 f]) ∧ Below w.heap.size w w') := by
  by_cases h : 1900 ≤ y ∧ y ≤ 2199 ∧ 1 ≤ m ∧ m ≤ 12 ∧ isN N k
  · obtain ⟨h1, h2, h3, h4, h5⟩ := h
    by_cases hh : hasW (num y m 1) (ml y m) N k
    · refine ⟨nthW (num y m 1) (ml y m) N k, 0, fun w hT => (nth_walk y m N k w hT h1 h2 h3 h4 h5).mono ?_, fun w => (refNth_walk y m N k w h1 h2 h3 h4 h5).mono ?_⟩
      · rintro e w' ⟨⟨_, he⟩ | ⟨hn, _⟩, hb⟩
        · exact ⟨he, hb⟩
        · exact absurd hh hn
      · rintro e w' ⟨⟨_, he⟩ | ⟨hn, _⟩, hb⟩
        · exact ⟨he, hb⟩
        · exact absurd hh hn
    · refine ⟨0, 5, fun w hT => (nth_walk y m N k w hT h1 h2 h3 h4 h5).mono ?_, fun w => (refNth_walk y m N k w h1 h2 h3 h4 h5).mono ?_⟩
      · rintro e w' ⟨⟨hn, _⟩ | ⟨_, he⟩, hb⟩
        · exact absurd hn hh
        · exact ⟨he, hb⟩
      · rintro e w' ⟨⟨hn, _⟩ | ⟨_, he⟩, hb⟩
        · exact absurd hn hh
        · exact ⟨he, hb⟩
  · exact ⟨0, 1, fun w hT => nth_bad y m N k w hT h, fun w => refNth_bad y m N k w h⟩
theorem ends_both {n : Int} (h1 : 1 ≤ n) (h2 : n ≤ 109573) : ∃ p q : Int,
    (∀ w : World, Calls Tryd.prog 17 #[.int .i64 n] w fun e w' => e = .returned (.tuple #[.int .i64 p, .int .i64 q]) ∧ Below w.heap.size w w') ∧
    (∀ w : World, Tab w → Calls Tryd.prog 19 #[.int .i64 n] w fun e w' => e = .returned (.tuple #[.agg #[.int .i64 p, .int .i64 (wd n)], .agg #[.int .i64 q, .int .i64 (wd n)], .nilIface]) ∧ Below w.heap.size w w') := by
  refine ⟨_, _, fun w => ?_, fun w hT => which_yes n w hT h1 h2⟩
  have := refEnds_yes n w h1 h2
  rwa [show -((ml (yr n) (mo n) - da n) / 7 + 1) = -((ml (yr n) (mo n) - da n) / 7) - 1 by omega] at this
theorem two_laid {W w1 : World} (t : TypeId) (p q k : Int) (hb : Below ((W.alloc (.cells #[.int .i64 0, .int .i64 0] t)).alloc (.cells #[.int .i64 0, .int .i64 0] t)).heap.size ((W.alloc (.cells #[.int .i64 0, .int .i64 0] t)).alloc (.cells #[.int .i64 0, .int .i64 0] t)) w1) :
    Two ((((w1.setCell ⟨W.heap.size, 0, none⟩ (.int .i64 p)).setCell ⟨W.heap.size + 1, 0, none⟩ (.int .i64 q)).setCell ⟨W.heap.size, 1, none⟩ (.int .i64 k)).setCell ⟨W.heap.size + 1, 1, none⟩ (.int .i64 k)) W.heap.size p k ∧
    Two ((((w1.setCell ⟨W.heap.size, 0, none⟩ (.int .i64 p)).setCell ⟨W.heap.size + 1, 0, none⟩ (.int .i64 q)).setCell ⟨W.heap.size, 1, none⟩ (.int .i64 k)).setCell ⟨W.heap.size + 1, 1, none⟩ (.int .i64 k)) (W.heap.size + 1) q k ∧
    Below W.heap.size W ((((w1.setCell ⟨W.heap.size, 0, none⟩ (.int .i64 p)).setCell ⟨W.heap.size + 1, 0, none⟩ (.int .i64 q)).setCell ⟨W.heap.size, 1, none⟩ (.int .i64 k)).setCell ⟨W.heap.size + 1, 1, none⟩ (.int .i64 k)) := by
  obtain ⟨⟨c1, c2, c3, c4⟩, _, s1, s2⟩ := two_kept t hb
  refine ⟨⟨?_, ?_⟩, ⟨?_, ?_⟩, ((((two_below t hb).setCell (Nat.le_refl _) _).setCell (by simp) _).setCell (Nat.le_refl _) _).setCell (by simp) _⟩
  all_goals simp [go_sem, c1, c2, c3, c4]
end Go.Proofs.YtbpcggiibiamlabDoor
