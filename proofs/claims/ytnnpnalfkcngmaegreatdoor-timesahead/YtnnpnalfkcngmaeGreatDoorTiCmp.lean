/-
  What is proved here: what cmp.Compare and cmp.Or answer at numbers, and the closure by which package times sorts (contracts over the translation).
-/
import Derived.Test.YtnnpnalfkcngmaeGreatDoorTiTm
import Derived.Deep.RegionHeld3
import Derived.Sort.Grow
namespace Go.Proofs.YtnnpnalfkcngmaeGreatDoor
open Go.RowKit Cal Txt

/-- How two numbers stand. -/
def cmi (a b : Int) : Int := if a < b then -1 else if b < a then 1 else 0
theorem isNaN_any (x : Int) (w : World) : Calls Tryz.prog 93 #[.int .i64 x] w fun e w' => e = .returned (.bool false) ∧ w' = w := by
  go_enter Tryz.func93, Tryz.ntmps93
  go_wp2
  go_ret
  exact ⟨ret_bool (by simp), rfl⟩
theorem compare_any (a b : Int) (w : World) : Calls Tryz.prog 58 #[.int .i64 a, .int .i64 b] w fun e w' => e = .returned (.int .i64 (cmi a b)) ∧ w' = w := by
  have N1 : Hid (a < b → cmi a b = -1) := Lib.hid (fun h => if_pos h)
  have N2 : Hid (¬ a < b → b < a → cmi a b = 1) := Lib.hid (fun h k => by unfold cmi; rw [if_neg h, if_pos k])
  have N3 : Hid (¬ a < b → ¬ b < a → cmi a b = 0) := Lib.hid (fun h k => by unfold cmi; rw [if_neg h, if_neg k])
  generalize cmi a b = R at N1 N2 N3 ⊢
  by_cases h1 : a < b
  · have E := Lib.hid (N1.out h1)
    go_enter Tryz.func58, Tryz.ntmps58
    go_wp2_with (go_at_call 93; refine (isNaN_any _ _).mono ?_; rintro e w' ⟨rfl, rfl⟩)
    go_ret
    exact ⟨ret_int E.out.symm, rfl⟩
  by_cases h2 : b < a
  · have E := Lib.hid (N2.out h1 h2)
    go_enter Tryz.func58, Tryz.ntmps58
    go_wp2_with (go_at_call 93; refine (isNaN_any _ _).mono ?_; rintro e w' ⟨rfl, rfl⟩)
    go_ret
    exact ⟨ret_int E.out.symm, rfl⟩
  · have E := Lib.hid (N3.out h1 h2)
    go_enter Tryz.func58, Tryz.ntmps58
    go_wp2_with (go_at_call 93; refine (isNaN_any _ _).mono ?_; rintro e w' ⟨rfl, rfl⟩)
    go_ret
    exact ⟨ret_int E.out.symm, rfl⟩
/-- The first that is not 0. -/
def orI (x y : Int) : Int := if x = 0 then y else x
theorem or_any (x y : Int) (b : Nat) (w : World) (h0 : w.cell? ⟨b, 0, none⟩ = some (.int .i64 x)) (h1 : w.cell? ⟨b, 1, none⟩ = some (.int .i64 y)) :
    Calls Tryz.prog 57 #[.slice (some ⟨b, 0, none⟩) 2 2] w fun e w' => e = .returned (.int .i64 (orI x y)) ∧ w' = w := by
  have N1 : Hid (x = 0 → orI x y = y) := Lib.hid (fun h => if_pos h)
  have N2 : Hid (¬ x = 0 → orI x y = x) := Lib.hid (fun h => if_neg h)
  generalize orI x y = R at N1 N2 ⊢
  have bl := ecell_in h0
  go_enter Tryz.func57, Tryz.ntmps57
  go_wp2_with fail
  go_loop [5, 8] (fun _ i => ∃ k : Nat, k ≤ 2 ∧ i = .int .i64 k ∧ (0 < k → x = 0) ∧ (1 < k → y = 0)) (fun _ i => 2 - (intOf i).toNat)
  case atStart => exact ⟨0, by omega, rfl, fun q => by omega, fun q => by omega⟩
  case round =>
    obtain ⟨k, hk, rfl, p1, p2⟩ := hrel
    rcases (by omega : k = 0 ∨ k = 1 ∨ k = 2) with rfl | rfl | rfl
    · clear p1 p2
      rcases hx : (x != 0) with _ | _
      · have x0 : x = 0 := by simpa using hx
        have HX := Lib.hid x0
        clear x0
        go_wp2
        go_round
        case rel => exact ⟨1, by omega, by go_num, fun _ => HX.out, fun q => by omega⟩
        case measure => simp [intOf]
      · have E := Lib.hid (N2.out (by simpa using hx))
        go_wp2
        go_ret
        exact ⟨ret_int E.out.symm, rfl⟩
    · have E0 := Lib.hid (N1.out (p1 (by omega)))
      have HX := Lib.hid (p1 (by omega))
      clear p1 p2
      rcases hy : (y != 0) with _ | _
      · have HY : Hid (y = 0) := Lib.hid (by simpa using hy)
        go_wp2
        go_round
        case rel => exact ⟨2, by omega, by go_num, fun _ => HX.out, fun _ => HY.out⟩
        case measure => simp [intOf]
      · go_wp2
        go_ret
        exact ⟨ret_int E0.out.symm, rfl⟩
    · have E0 : Hid (R = 0) := Lib.hid (by rw [N1.out (p1 (by omega)), p2 (by omega)])
      clear p1 p2
      go_wp2
      go_ret
      exact ⟨ret_int E0.out.symm, rfl⟩
end Go.Proofs.YtnnpnalfkcngmaeGreatDoor
