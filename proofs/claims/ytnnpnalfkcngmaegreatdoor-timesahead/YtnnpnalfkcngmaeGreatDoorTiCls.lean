/-
  What is proved here: the closure by which package times sorts (a contract over the translation).
-/
import Derived.Test.YtnnpnalfkcngmaeGreatDoorTiCmp
namespace Go.Proofs.YtnnpnalfkcngmaeGreatDoor
open Go.RowKit Cal Txt

/-- How two Times stand. -/
def cmT (x y : Tm) : Int := orI (cmi x.2.1 y.2.1) (cmi x.1 y.1)
set_option maxRecDepth 100000 in
set_option maxHeartbeats 4000000 in
theorem cmpT_any (x y : Tm) (w : World) :
    Calls Tryz.prog 56 #[.agg #[.int .i64 x.1, .int .i64 x.2.1, .int .i64 x.2.2], .agg #[.int .i64 y.1, .int .i64 y.2.1, .int .i64 y.2.2]] w fun e w' => e = .returned (.int .i64 (cmT x y)) ∧ ∃ q os', w' = Sort.grow (w.drewN q) os' := by
  obtain ⟨W1, hW1⟩ : ∃ W1, W1 = w.alloc (.cells #[.int .i64 x.1, .int .i64 x.2.1, .int .i64 x.2.2] 49) := ⟨_, rfl⟩
  have g0 : W1.cell? ⟨w.heap.size, 0, none⟩ = some (.int .i64 x.1) ∧ W1.cell? ⟨w.heap.size, 1, none⟩ = some (.int .i64 x.2.1) := by rw [hW1]; constructor <;> simp
  have z1 : W1.heap.size = w.heap.size + 1 := by rw [hW1, World.size_alloc]
  obtain ⟨W0, hW0⟩ : ∃ W0, W0 = W1.alloc (.cells #[.int .i64 y.1, .int .i64 y.2.1, .int .i64 y.2.2] 49) := ⟨_, rfl⟩
  have g1 : W0.cell? ⟨w.heap.size + 1, 0, none⟩ = some (.int .i64 y.1) ∧ W0.cell? ⟨w.heap.size + 1, 1, none⟩ = some (.int .i64 y.2.1) := by rw [hW0, ← z1]; constructor <;> simp
  have f0 : W0.cell? ⟨w.heap.size, 0, none⟩ = some (.int .i64 x.1) ∧ W0.cell? ⟨w.heap.size, 1, none⟩ = some (.int .i64 x.2.1) := by
    rw [hW0]
    exact ⟨Lib.cell?_alloc_some _ g0.1, Lib.cell?_alloc_some _ g0.2⟩
  have hW : W0 = (w.alloc (.cells #[.int .i64 x.1, .int .i64 x.2.1, .int .i64 x.2.2] 49)).alloc (.cells #[.int .i64 y.1, .int .i64 y.2.1, .int .i64 y.2.2] 49) := by rw [hW0, hW1]
  have l0 := ecell_in f0.1
  have l1 := ecell_in g1.1
  have HS : Hid (∀ X, Below W0.heap.size W0 X → (X.cell? ⟨w.heap.size, 0, none⟩ = some (.int .i64 x.1) ∧ X.cell? ⟨w.heap.size, 1, none⟩ = some (.int .i64 x.2.1)) ∧ X.cell? ⟨w.heap.size + 1, 0, none⟩ = some (.int .i64 y.1) ∧ X.cell? ⟨w.heap.size + 1, 1, none⟩ = some (.int .i64 y.2.1)) := Lib.hid (fun X q => ⟨⟨(q.cell (p := ⟨w.heap.size, 0, none⟩) l0).trans f0.1, (q.cell (p := ⟨w.heap.size, 1, none⟩) l0).trans f0.2⟩, (q.cell (p := ⟨w.heap.size + 1, 0, none⟩) l1).trans g1.1, (q.cell (p := ⟨w.heap.size + 1, 1, none⟩) l1).trans g1.2⟩)
  have HW := Lib.hid hW
  have CT : Hid (cmT x y = orI (cmi x.2.1 y.2.1) (cmi x.1 y.1)) := Lib.hid rfl
  generalize cmT x y = R at CT ⊢
  clear g0 g1 z1 f0 hW hW0 hW1 W1 l0 l1
  go_enter Tryz.func56, Tryz.ntmps56
  go_upto_region 1 with fail
  rw [← HW.out]
  go_region_held3 (fun X => (X.cell? ⟨w.heap.size, 0, none⟩ = some (.int .i64 x.1) ∧ X.cell? ⟨w.heap.size, 1, none⟩ = some (.int .i64 x.2.1)) ∧ X.cell? ⟨w.heap.size + 1, 0, none⟩ = some (.int .i64 y.1) ∧ X.cell? ⟨w.heap.size + 1, 1, none⟩ = some (.int .i64 y.2.1))
    (first | exact HS.out _ (Below.drew (Below.refl _ W0)) | exact HS.out _ (Below.alloc (Below.drew (Below.refl _ W0)) (Nat.le_refl _) _) | exact HS.out _ (Below.drew (Below.alloc (Below.refl _ W0) (Nat.le_refl _) _)))
    (first
    | (go_at_call 58; refine (compare_any _ _ _).mono ?_; rintro e w' ⟨rfl, hw⟩; replace hw := hw.symm; subst hw)
    | (go_at_call 57; refine (or_any (cmi x.2.1 y.2.1) (cmi x.1 y.1) W0.heap.size _ (by simp) (by simp)).mono ?_; rintro e w' ⟨rfl, hw⟩; replace hw := hw.symm; subst hw))
  have EW : Hid (∃ q os', (W0.alloc (.cells #[.int .i64 (cmi x.2.1 y.2.1), .int .i64 (cmi x.1 y.1)] 3)).drew = Sort.grow (w.drewN q) os') := Lib.hid (by
    rw [HW.out]
    refine ⟨1, #[(.cells #[.int .i64 x.1, .int .i64 x.2.1, .int .i64 x.2.2] 49)] ++ (#[(.cells #[.int .i64 y.1, .int .i64 y.2.1, .int .i64 y.2.2] 49)] ++ #[.cells #[.int .i64 (cmi x.2.1 y.2.1), .int .i64 (cmi x.1 y.1)] 3]), ?_⟩
    show (((w.drewN 1).alloc (.cells #[.int .i64 x.1, .int .i64 x.2.1, .int .i64 x.2.2] 49)).alloc (.cells #[.int .i64 y.1, .int .i64 y.2.1, .int .i64 y.2.2] 49)).alloc (.cells #[.int .i64 (cmi x.2.1 y.2.1), .int .i64 (cmi x.1 y.1)] 3) = _
    rw [Sort.alloc_eq_grow, Sort.alloc_eq_grow, Sort.alloc_eq_grow, Sort.grow_grow, Sort.grow_grow])
  go_wp2
  go_ret
  exact ⟨ret_int CT.out.symm, EW.out⟩
end Go.Proofs.YtnnpnalfkcngmaeGreatDoor
