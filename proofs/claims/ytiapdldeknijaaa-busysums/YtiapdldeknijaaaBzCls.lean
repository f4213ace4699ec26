/-
  What is proved here: the two closures of busy.merge; how two stretches stand (contracts over the translation).
-/
import Derived.Test.YtiapdldeknijaaaBzDel
import Derived.Shelf.GgSortFunc.RowK
import Derived.Sort.Grow
namespace Go.Proofs.Ytiapdldeknijaaa.Bz
open Go.RowKit

/-- How two numbers stand. -/
def cmi (a b : Int) : Int := if a < b then -1 else if b < a then 1 else 0
theorem isNaN_any (x : Int) (w : World) : Calls Try.prog 33 #[.int .i64 x] w fun e w' => e = .returned (.bool false) ∧ w' = w := by
  go_enter Try.func33, Try.ntmps33
  go_wp2
  go_ret
  exact ⟨ret_bool (by simp), rfl⟩
theorem compare_any (a b : Int) (w : World) : Calls Try.prog 26 #[.int .i64 a, .int .i64 b] w fun e w' => e = .returned (.int .i64 (cmi a b)) ∧ w' = w := by
  have N1 : Hid (a < b → cmi a b = -1) := Lib.hid (fun h => if_pos h)
  have N2 : Hid (¬ a < b → b < a → cmi a b = 1) := Lib.hid (fun h k => by unfold cmi; rw [if_neg h, if_pos k])
  have N3 : Hid (¬ a < b → ¬ b < a → cmi a b = 0) := Lib.hid (fun h k => by unfold cmi; rw [if_neg h, if_neg k])
  generalize cmi a b = R at N1 N2 N3 ⊢
  by_cases h1 : a < b
  · have E := Lib.hid (N1.out h1)
    go_enter Try.func26, Try.ntmps26
    go_wp2_with (go_at_call 33; refine (isNaN_any _ _).mono ?_; rintro e w' ⟨rfl, rfl⟩)
    go_ret
    exact ⟨ret_int E.out.symm, rfl⟩
  by_cases h2 : b < a
  · have E := Lib.hid (N2.out h1 h2)
    go_enter Try.func26, Try.ntmps26
    go_wp2_with (go_at_call 33; refine (isNaN_any _ _).mono ?_; rintro e w' ⟨rfl, rfl⟩)
    go_ret
    exact ⟨ret_int E.out.symm, rfl⟩
  · have E := Lib.hid (N3.out h1 h2)
    go_enter Try.func26, Try.ntmps26
    go_wp2_with (go_at_call 33; refine (isNaN_any _ _).mono ?_; rintro e w' ⟨rfl, rfl⟩)
    go_ret
    exact ⟨ret_int E.out.symm, rfl⟩
/-- Is it of no minute? -/
def noB (x : Bz) : Bool := decide (x.2 - x.1 = 0)
theorem non_any (x : Bz) (w : World) (h : Sm x) : Calls Try.prog 23 #[agB x] w fun e w' => e = .returned (.bool (noB x)) ∧ Below w.heap.size w w' := by
  have N : Hid (noB x = (x.2 - x.1 == 0)) := Lib.hid (by unfold noB; rw [Bool.eq_iff_iff]; simp)
  generalize noB x = R at N ⊢
  have T3 := BBx.new w x 28
  have b3 := below_one w (.cells #[.int .i64 x.1, .int .i64 x.2] 28)
  obtain ⟨W3, hW3⟩ : ∃ W3, W3 = w.alloc (.cells #[.int .i64 x.1, .int .i64 x.2] 28) := ⟨_, rfl⟩
  rw [← hW3] at T3 b3
  have HW3 := Lib.hid hW3
  have B3 := Lib.hid b3
  obtain ⟨t0, t1⟩ := T3
  have tl := cell_in t0
  have HS := Lib.hid h
  clear hW3 b3 h
  go_enter Try.func23, Try.ntmps23
  go_upto_region 1 with fail
  rw [← HW3.out]
  go_wp2_with (go_at_call 17; refine (minB_any x _ HS.out).mono ?_; rintro e w4 ⟨rfl, hb⟩; have B4 := Lib.hid (B3.out.trans (hb.mono B3.out.size)); clear hb)
  go_ret
  exact ⟨ret_bool N.out.symm, B4.out⟩
/-- How two stretches stand. -/
def cmB (x y : Bz) : Int := cmi x.1 y.1
theorem cmB_any (x y : Bz) (w : World) :
    Calls Try.prog 25 #[agB x, agB y] w fun e w' => e = .returned (.int .i64 (cmB x y)) ∧ ∃ q os', w' = Sort.grow (w.drewN q) os' := by
  have EW : Hid (∃ q os', (w.alloc (.cells #[.int .i64 x.1, .int .i64 x.2] 28)).alloc (.cells #[.int .i64 y.1, .int .i64 y.2] 28) = Sort.grow (w.drewN q) os') := Lib.hid (by
    refine ⟨0, #[.cells #[.int .i64 x.1, .int .i64 x.2] 28] ++ #[.cells #[.int .i64 y.1, .int .i64 y.2] 28], ?_⟩
    show ((w.drewN 0).alloc (.cells #[.int .i64 x.1, .int .i64 x.2] 28)).alloc (.cells #[.int .i64 y.1, .int .i64 y.2] 28) = _
    rw [Sort.alloc_eq_grow, Sort.alloc_eq_grow, Sort.grow_grow])
  have CT : Hid (cmB x y = cmi x.1 y.1) := Lib.hid rfl
  generalize cmB x y = R at CT ⊢
  go_enter Try.func25, Try.ntmps25
  go_wp2_with (go_at_call 26; refine (compare_any _ _ _).mono ?_; rintro e w' ⟨rfl, hw⟩; replace hw := hw.symm; subst hw)
  go_ret
  exact ⟨ret_int CT.out.symm, EW.out⟩
/-- What is sorted. -/
def SrtA (n0 : Nat) (w : World) (v : Value) (l : List Bz) (e : Ending) (w' : World) : Prop := e = .returned (.tuple #[]) ∧ ∃ B, l.Perm B ∧ B.Pairwise (fun x y => x.1 ≤ y.1) ∧ Ob w' n0 v B ∧ Below n0 w w'
/-- What slices.SortFunc does. -/
def SrtH : Prop := ∀ (l : List Bz) (n0 : Nat) (v : Value) (w : World), Ob w n0 v l → n0 ≤ w.heap.size → l.length ≤ 1000000 → Calls Try.prog 24 #[v, .func (.func 25) #[] #[]] w (SrtA n0 w v l)
end Go.Proofs.Ytiapdldeknijaaa.Bz
