/-
  What is proved here: what cmp.Compare and cmp.Or answer at numbers, and the closure by which package times sorts (contracts over the translation).
  What is proved here: the closure by which package times sorts (a contract over the translation).
-/
import Derived.Test.YthdohcjingfpoaaGreatDoorRJ
import Derived.Deep.RegionHeld3
import Derived.Sort.Grow
namespace Go.Proofs.YthdohcjingfpoaaGreatDoor
open Go.RowKit Cal Txt

/-- How two numbers stand. -/
def cmi (a b : Int) : Int := if a < b then -1 else if b < a then 1 else 0
theorem isNaN_any (x : Int) (w : World) : Calls Tryz.prog 77 #[.int .i64 x] w fun e w' => e = .returned (.bool false) ∧ w' = w := by
  go_enter Tryz.func77, Tryz.ntmps77
  go_wp2
  go_ret
  exact ⟨ret_bool (by simp), rfl⟩
theorem compare_any (a b : Int) (w : World) : Calls Tryz.prog 39 #[.int .i64 a, .int .i64 b] w fun e w' => e = .returned (.int .i64 (cmi a b)) ∧ w' = w := by
  have N1 : Hid (a < b → cmi a b = -1) := Lib.hid (fun h => if_pos h)
  have N2 : Hid (¬ a < b → b < a → cmi a b = 1) := Lib.hid (fun h k => by unfold cmi; rw [if_neg h, if_pos k])
  have N3 : Hid (¬ a < b → ¬ b < a → cmi a b = 0) := Lib.hid (fun h k => by unfold cmi; rw [if_neg h, if_neg k])
  generalize cmi a b = R at N1 N2 N3 ⊢
  by_cases h1 : a < b
  · have E := Lib.hid (N1.out h1)
    go_enter Tryz.func39, Tryz.ntmps39
    go_wp2_with (go_at_call 77; refine (isNaN_any _ _).mono ?_; rintro e w' ⟨rfl, rfl⟩)
    go_ret
    exact ⟨ret_int E.out.symm, rfl⟩
  by_cases h2 : b < a
  · have E := Lib.hid (N2.out h1 h2)
    go_enter Tryz.func39, Tryz.ntmps39
    go_wp2_with (go_at_call 77; refine (isNaN_any _ _).mono ?_; rintro e w' ⟨rfl, rfl⟩)
    go_ret
    exact ⟨ret_int E.out.symm, rfl⟩
  · have E := Lib.hid (N3.out h1 h2)
    go_enter Tryz.func39, Tryz.ntmps39
    go_wp2_with (go_at_call 77; refine (isNaN_any _ _).mono ?_; rintro e w' ⟨rfl, rfl⟩)
    go_ret
    exact ⟨ret_int E.out.symm, rfl⟩
/-- The first that is not 0. -/
def orI (x y : Int) : Int := if x = 0 then y else x
theorem or_any (x y : Int) (b : Nat) (w : World) (h0 : w.cell? ⟨b, 0, none⟩ = some (.int .i64 x)) (h1 : w.cell? ⟨b, 1, none⟩ = some (.int .i64 y)) :
    Calls Tryz.prog 38 #[.slice (some ⟨b, 0, none⟩) 2 2] w fun e w' => e = .returned (.int .i64 (orI x y)) ∧ w' = w := by
  have N1 : Hid (x = 0 → orI x y = y) := Lib.hid (fun h => if_pos h)
  have N2 : Hid (¬ x = 0 → orI x y = x) := Lib.hid (fun h => if_neg h)
  generalize orI x y = R at N1 N2 ⊢
  have bl := ecell_in h0
  go_enter Tryz.func38, Tryz.ntmps38
  go_wp2_with fail
  go_loop [5, 8] (fun _ i => ∃ k : Nat, k ≤ 2 ∧ i = .int .i64 k ∧ (0 < k → x = 0) ∧ (1 < k → y = 0)) (fun _ i => 2 - (intOf i).toNat)
  case atStart => exact ⟨0, by omega, rfl, fun q => by omega, fun q => by omega⟩
  case round =>
    obtain ⟨k, hk, rfl, p1, p2⟩ := hrel
    rcases (by omega : k = 0 ∨ k = 1 ∨ k = 2) with rfl | rfl | rfl
    · clear p1 p2
      rcases hx : (x != 0) with _ | _
      · have x0 : x = 0 := by simpa using hx
        have HX := Lib.hid x0
        clear x0
        go_wp2
        go_round
        case rel => exact ⟨1, by omega, by go_num, fun _ => HX.out, fun q => by omega⟩
        case measure => simp [intOf]
      · have E := Lib.hid (N2.out (by simpa using hx))
        go_wp2
        go_ret
        exact ⟨ret_int E.out.symm, rfl⟩
    · have E0 := Lib.hid (N1.out (p1 (by omega)))
      have HX := Lib.hid (p1 (by omega))
      clear p1 p2
      rcases hy : (y != 0) with _ | _
      · have HY : Hid (y = 0) := Lib.hid (by simpa using hy)
        go_wp2
        go_round
        case rel => exact ⟨2, by omega, by go_num, fun _ => HX.out, fun _ => HY.out⟩
        case measure => simp [intOf]
      · go_wp2
        go_ret
        exact ⟨ret_int E0.out.symm, rfl⟩
    · have E0 : Hid (R = 0) := Lib.hid (by rw [N1.out (p1 (by omega)), p2 (by omega)])
      clear p1 p2
      go_wp2
      go_ret
      exact ⟨ret_int E0.out.symm, rfl⟩
end Go.Proofs.YthdohcjingfpoaaGreatDoor
namespace Go.Proofs.YthdohcjingfpoaaGreatDoor
open Go.RowKit Cal Txt

/-- How two Times stand. -/
def cmT (x y : Tm) : Int := orI (cmi x.2.1 y.2.1) (cmi x.1 y.1)
set_option maxRecDepth 100000 in
set_option maxHeartbeats 4000000 in
theorem cmpT_any (x y : Tm) (w : World) :
    Calls Tryz.prog 170 #[.agg #[.int .i64 x.1, .int .i64 x.2.1, .int .i64 x.2.2], .agg #[.int .i64 y.1, .int .i64 y.2.1, .int .i64 y.2.2]] w fun e w' => e = .returned (.int .i64 (cmT x y)) ∧ ∃ q os', w' = Sort.grow (w.drewN q) os' := by
  obtain ⟨W1, hW1⟩ : ∃ W1, W1 = w.alloc (.cells #[.int .i64 x.1, .int .i64 x.2.1, .int .i64 x.2.2] 145) := ⟨_, rfl⟩
  have g0 : W1.cell? ⟨w.heap.size, 0, none⟩ = some (.int .i64 x.1) ∧ W1.cell? ⟨w.heap.size, 1, none⟩ = some (.int .i64 x.2.1) := by rw [hW1]; constructor <;> simp
  have z1 : W1.heap.size = w.heap.size + 1 := by rw [hW1, World.size_alloc]
  obtain ⟨W0, hW0⟩ : ∃ W0, W0 = W1.alloc (.cells #[.int .i64 y.1, .int .i64 y.2.1, .int .i64 y.2.2] 145) := ⟨_, rfl⟩
  have g1 : W0.cell? ⟨w.heap.size + 1, 0, none⟩ = some (.int .i64 y.1) ∧ W0.cell? ⟨w.heap.size + 1, 1, none⟩ = some (.int .i64 y.2.1) := by rw [hW0, ← z1]; constructor <;> simp
  have f0 : W0.cell? ⟨w.heap.size, 0, none⟩ = some (.int .i64 x.1) ∧ W0.cell? ⟨w.heap.size, 1, none⟩ = some (.int .i64 x.2.1) := by
    rw [hW0]
    exact ⟨Lib.cell?_alloc_some _ g0.1, Lib.cell?_alloc_some _ g0.2⟩
  have hW : W0 = (w.alloc (.cells #[.int .i64 x.1, .int .i64 x.2.1, .int .i64 x.2.2] 145)).alloc (.cells #[.int .i64 y.1, .int .i64 y.2.1, .int .i64 y.2.2] 145) := by rw [hW0, hW1]
  have l0 := ecell_in f0.1
  have l1 := ecell_in g1.1
  have HS : Hid (∀ X, Below W0.heap.size W0 X → (X.cell? ⟨w.heap.size, 0, none⟩ = some (.int .i64 x.1) ∧ X.cell? ⟨w.heap.size, 1, none⟩ = some (.int .i64 x.2.1)) ∧ X.cell? ⟨w.heap.size + 1, 0, none⟩ = some (.int .i64 y.1) ∧ X.cell? ⟨w.heap.size + 1, 1, none⟩ = some (.int .i64 y.2.1)) := Lib.hid (fun X q => ⟨⟨(q.cell (p := ⟨w.heap.size, 0, none⟩) l0).trans f0.1, (q.cell (p := ⟨w.heap.size, 1, none⟩) l0).trans f0.2⟩, (q.cell (p := ⟨w.heap.size + 1, 0, none⟩) l1).trans g1.1, (q.cell (p := ⟨w.heap.size + 1, 1, none⟩) l1).trans g1.2⟩)
  have HW := Lib.hid hW
  have CT : Hid (cmT x y = orI (cmi x.2.1 y.2.1) (cmi x.1 y.1)) := Lib.hid rfl
  generalize cmT x y = R at CT ⊢
  clear g0 g1 z1 f0 hW hW0 hW1 W1 l0 l1
  go_enter Tryz.func170, Tryz.ntmps170
  go_upto_region 1 with fail
  rw [← HW.out]
  go_region_held3 (fun X => (X.cell? ⟨w.heap.size, 0, none⟩ = some (.int .i64 x.1) ∧ X.cell? ⟨w.heap.size, 1, none⟩ = some (.int .i64 x.2.1)) ∧ X.cell? ⟨w.heap.size + 1, 0, none⟩ = some (.int .i64 y.1) ∧ X.cell? ⟨w.heap.size + 1, 1, none⟩ = some (.int .i64 y.2.1))
    (first | exact HS.out _ (Below.drew (Below.refl _ W0)) | exact HS.out _ (Below.alloc (Below.drew (Below.refl _ W0)) (Nat.le_refl _) _) | exact HS.out _ (Below.drew (Below.alloc (Below.refl _ W0) (Nat.le_refl _) _)))
    (first
    | (go_at_call 39; refine (compare_any _ _ _).mono ?_; rintro e w' ⟨rfl, hw⟩; replace hw := hw.symm; subst hw)
    | (go_at_call 38; refine (or_any (cmi x.2.1 y.2.1) (cmi x.1 y.1) W0.heap.size _ (by simp) (by simp)).mono ?_; rintro e w' ⟨rfl, hw⟩; replace hw := hw.symm; subst hw))
  have EW : Hid (∃ q os', (W0.alloc (.cells #[.int .i64 (cmi x.2.1 y.2.1), .int .i64 (cmi x.1 y.1)] 3)).drew = Sort.grow (w.drewN q) os') := Lib.hid (by
    rw [HW.out]
    refine ⟨1, #[(.cells #[.int .i64 x.1, .int .i64 x.2.1, .int .i64 x.2.2] 145)] ++ (#[(.cells #[.int .i64 y.1, .int .i64 y.2.1, .int .i64 y.2.2] 145)] ++ #[.cells #[.int .i64 (cmi x.2.1 y.2.1), .int .i64 (cmi x.1 y.1)] 3]), ?_⟩
    show (((w.drewN 1).alloc (.cells #[.int .i64 x.1, .int .i64 x.2.1, .int .i64 x.2.2] 145)).alloc (.cells #[.int .i64 y.1, .int .i64 y.2.1, .int .i64 y.2.2] 145)).alloc (.cells #[.int .i64 (cmi x.2.1 y.2.1), .int .i64 (cmi x.1 y.1)] 3) = _
    rw [Sort.alloc_eq_grow, Sort.alloc_eq_grow, Sort.alloc_eq_grow, Sort.grow_grow, Sort.grow_grow])
  go_wp2
  go_ret
  exact ⟨ret_int CT.out.symm, EW.out⟩
end Go.Proofs.YthdohcjingfpoaaGreatDoor
