/-
  What is proved here: what package rule's closures and its all answer (contracts over the translation).
-/
import Derived.Test.YtdiijpjfkgnjkacDoorRuleF
import Derived.BigQuiet
import Derived.Lib.QuietBelow
import Derived.Shelf.Abstract
namespace Go.Proofs.YtdiijpjfkgnjkacDoor
open Go.RowKit Cal Txt

/-- Is a number a month? -/
def monP (n : Int) : Bool := decide (1 ≤ n ∧ n ≤ 12)
/-- Is a number a place? -/
def plaP (n : Int) : Bool := decide (¬ n = 0 ∧ -31 ≤ n ∧ n ≤ 31)
theorem items1_any (n : Int) (w : World) :
    Calls Tryd.prog 64 #[.int .i64 n] w fun e w' => e = .returned (.bool (monP n)) ∧ w' = w := by
  by_cases h : 1 ≤ n ∧ n ≤ 12
  · have N1 : Hid (monP n = true) := Lib.hid (decide_eq_true h)
    obtain ⟨a, b⟩ := h
    go_enter Tryd.func64, Tryd.ntmps64
    go_wp2
    go_ret
    exact ⟨ret_bool (by first | exact N1.out.symm | (rw [N1.out]; first | exact decide_eq_false (by omega) | exact decide_eq_true (by omega))), rfl⟩
  · have N1 : Hid (monP n = false) := Lib.hid (decide_eq_false h)
    rcases (by omega : n < 1 ∨ (1 ≤ n ∧ 12 < n)) with a | ⟨a, b⟩
    all_goals
      go_enter Tryd.func64, Tryd.ntmps64
      go_wp2
      go_ret
      exact ⟨ret_bool (by first | exact N1.out.symm | (rw [N1.out]; first | exact decide_eq_false (by omega) | exact decide_eq_true (by omega))), rfl⟩
theorem items2_any (n : Int) (w : World) :
    Calls Tryd.prog 65 #[.int .i64 n] w fun e w' => e = .returned (.bool (plaP n)) ∧ w' = w := by
  by_cases h : ¬ n = 0 ∧ -31 ≤ n ∧ n ≤ 31
  · have N1 : Hid (plaP n = true) := Lib.hid (decide_eq_true h)
    obtain ⟨c, a, b⟩ := h
    have c' : (n != 0) = true := by simp [c]
    clear c
    go_enter Tryd.func65, Tryd.ntmps65
    go_wp2
    go_ret
    exact ⟨ret_bool (by first | exact N1.out.symm | (rw [N1.out]; first | exact decide_eq_false (by omega) | exact decide_eq_true (by omega))), rfl⟩
  · have N1 : Hid (plaP n = false) := Lib.hid (decide_eq_false h)
    have e0 : (n != 0) = false ↔ n = 0 := by simp
    have e1 : (n != 0) = true ↔ ¬ n = 0 := by simp
    rcases (by rw [e0, e1]; omega : (n != 0) = false ∨ ((n != 0) = true ∧ n < -31) ∨ ((n != 0) = true ∧ -31 ≤ n ∧ 31 < n)) with a | ⟨a, b⟩ | ⟨a, b, c⟩
    all_goals
      clear e0 e1 h
      go_enter Tryd.func65, Tryd.ntmps65
      go_wp2
      go_ret
      exact ⟨ret_bool (by first | exact N1.out.symm | (rw [N1.out]; first | exact decide_eq_false (by omega) | exact decide_eq_true (by omega))), rfl⟩
/-- Is a weekday one that may be? -/
def wkP (x : Int × Int) : Bool := decide (1 ≤ x.2 ∧ x.2 ≤ 7 ∧ -5 ≤ x.1 ∧ x.1 ≤ 5)
theorem items3_any (x : Int × Int) (w : World) :
    Calls Tryd.prog 66 #[.agg #[.int .i64 x.1, .int .i64 x.2]] w fun e w' => e = .returned (.bool (wkP x)) ∧ Below w.heap.size w w' := by
  obtain ⟨n, k⟩ := x
  show Calls Tryd.prog 66 #[.agg #[.int .i64 n, .int .i64 k]] w fun e w' => e = .returned (.bool (wkP (n, k))) ∧ Below w.heap.size w w'
  by_cases h : 1 ≤ k ∧ k ≤ 7 ∧ -5 ≤ n ∧ n ≤ 5
  · have N1 : Hid (wkP (n, k) = true) := Lib.hid (decide_eq_true h)
    obtain ⟨a, b, c, d⟩ := h
    go_enter Tryd.func66, Tryd.ntmps66
    go_wp2
    go_ret
    exact ⟨ret_bool (by first | exact N1.out.symm | (rw [N1.out]; first | exact decide_eq_false (by omega) | exact decide_eq_true (by omega))), (Below.refl _ _).alloc (Nat.le_refl _) _⟩
  · have N1 : Hid (wkP (n, k) = false) := Lib.hid (decide_eq_false h)
    rcases (by omega : k < 1 ∨ (1 ≤ k ∧ 7 < k) ∨ (1 ≤ k ∧ k ≤ 7 ∧ n < -5) ∨ (1 ≤ k ∧ k ≤ 7 ∧ -5 ≤ n ∧ 5 < n)) with a | ⟨a, b⟩ | ⟨a, b, c⟩ | ⟨a, b, c, d⟩
    all_goals
      go_enter Tryd.func66, Tryd.ntmps66
      go_wp2
      go_ret
      exact ⟨ret_bool (by first | exact N1.out.symm | (rw [N1.out]; first | exact decide_eq_false (by omega) | exact decide_eq_true (by omega))), (Below.refl _ _).alloc (Nat.le_refl _) _⟩
theorem each_any (x : Int × Int) (w : World) :
    Calls Tryd.prog 73 #[.agg #[.int .i64 x.1, .int .i64 x.2]] w fun e w' => e = .returned (.bool (x.1 == 0)) ∧ Below w.heap.size w w' := by
  go_enter Tryd.func73, Tryd.ntmps73
  go_wp2
  go_ret
  exact ⟨rfl, (Below.refl _ _).alloc (Nat.le_refl _) _⟩
theorem above_any (a b : Int) (w : World) :
    Calls Tryd.prog 69 #[.int .i64 a, .int .i64 b] w fun e w' => e = .returned (.bool (decide (b < a))) ∧ w' = w := by
  by_cases h : b < a
  · have N1 := Lib.hid (decide_eq_true h)
    go_enter Tryd.func69, Tryd.ntmps69
    go_wp2
    go_ret
    exact ⟨ret_bool (by first | exact N1.out.symm | (rw [N1.out]; first | exact decide_eq_false (by omega) | exact decide_eq_true (by omega))), rfl⟩
  · have N1 := Lib.hid (decide_eq_false h)
    go_enter Tryd.func69, Tryd.ntmps69
    go_wp2
    go_ret
    exact ⟨ret_bool (by first | exact N1.out.symm | (rw [N1.out]; first | exact decide_eq_false (by omega) | exact decide_eq_true (by omega))), rfl⟩
/-- Is a weekday ahead of another? -/
def wltB (a b : Int × Int) : Bool := decide (a.2 < b.2 ∨ (a.2 = b.2 ∧ a.1 < b.1))
theorem behind_any (x y : Int × Int) (w : World) :
    Calls Tryd.prog 70 #[.agg #[.int .i64 x.1, .int .i64 x.2], .agg #[.int .i64 y.1, .int .i64 y.2]] w fun e w' => e = .returned (.bool (wltB y x)) ∧ Below w.heap.size w w' := by
  obtain ⟨n, k⟩ := x
  obtain ⟨m, j⟩ := y
  show Calls Tryd.prog 70 #[.agg #[.int .i64 n, .int .i64 k], .agg #[.int .i64 m, .int .i64 j]] w fun e w' => e = .returned (.bool (wltB (m, j) (n, k))) ∧ Below w.heap.size w w'
  by_cases h : j < k ∨ (j = k ∧ m < n)
  · have N1 : Hid (wltB (m, j) (n, k) = true) := Lib.hid (decide_eq_true h)
    rcases h with a | ⟨a, b⟩
    · go_enter Tryd.func70, Tryd.ntmps70
      go_wp2
      go_ret
      exact ⟨ret_bool (by first | exact N1.out.symm | (rw [N1.out]; first | exact decide_eq_false (by omega) | exact decide_eq_true (by omega))), ((Below.refl _ _).alloc (Nat.le_refl _) _).alloc (by simp) _⟩
    · subst a
      go_enter Tryd.func70, Tryd.ntmps70
      go_wp2
      go_ret
      exact ⟨ret_bool (by first | exact N1.out.symm | (rw [N1.out]; first | exact decide_eq_false (by omega) | exact decide_eq_true (by omega))), ((Below.refl _ _).alloc (Nat.le_refl _) _).alloc (by simp) _⟩
  · have N1 : Hid (wltB (m, j) (n, k) = false) := Lib.hid (decide_eq_false h)
    rcases (by omega : (j = k ∧ n ≤ m) ∨ k < j) with ⟨a, b⟩ | a
    · subst a
      go_enter Tryd.func70, Tryd.ntmps70
      go_wp2
      go_ret
      exact ⟨ret_bool (by first | exact N1.out.symm | (rw [N1.out]; first | exact decide_eq_false (by omega) | exact decide_eq_true (by omega))), ((Below.refl _ _).alloc (Nat.le_refl _) _).alloc (by simp) _⟩
    · have b : (k == j) = false := by simp; omega
      go_enter Tryd.func70, Tryd.ntmps70
      go_wp2
      go_ret
      exact ⟨ret_bool (by first | exact N1.out.symm | (rw [N1.out]; first | exact decide_eq_false (by omega) | exact decide_eq_true (by omega))), ((Below.refl _ _).alloc (Nat.le_refl _) _).alloc (by simp) _⟩
/-- All are so, as far as a place. -/
theorem all_take {α : Type} (p : α → Bool) (l : List α) (k : Nat) (d : α) (h : k < l.length) (ha : (l.take k).all p = true) (hp : p (l.getD k d) = true) : (l.take (k + 1)).all p = true := by
  rw [List.take_succ_eq_append_getElem h, List.all_append, ha, List.all_cons, List.all_nil]
  rw [List.getD_eq_getElem?_getD, List.getElem?_eq_getElem h] at hp
  simpa using hp
theorem all_not {α : Type} (p : α → Bool) (l : List α) (k : Nat) (d : α) (h : k < l.length) (hp : p (l.getD k d) = false) : l.all p = false := by
  rw [List.getD_eq_getElem?_getD, List.getElem?_eq_getElem h] at hp
  rcases e : l.all p with _ | _
  · rfl
  · have := List.all_eq_true.1 e _ (List.getElem_mem h)
    simp only [Option.getD_some] at hp
    rw [hp] at this; cases this
theorem all_end {α : Type} (p : α → Bool) (l : List α) (k : Nat) (h : ¬ k < l.length) (ha : (l.take k).all p = true) : l.all p = true := by
  rwa [List.take_of_length_le (by omega)] at ha
set_option maxHeartbeats 1000000 in
theorem all_int (g : FuncId) (p : Int → Bool) (eg : ∀ args w, (callFunc g args).run Tryd.prog w = .ok (.enter g args) w)
    (hg : ∀ n W, Calls Tryd.prog g #[.int .i64 n] W fun e w' => e = .returned (.bool (p n)) ∧ w' = W) (v : Value) (l : List Int) (w : World) (hv : Ints w v l) (hl : l.length ≤ 1000) :
    Calls Tryd.prog 67 #[v, .func (.func g) #[] #[]] w fun e w' => e = .returned (.bool (l.all p)) ∧ w' = w := by
  obtain ⟨a, cap, rfl, hc⟩ := hv
  rcases hc with rfl | ⟨b, off, rfl, hc⟩
  · go_enter Tryd.func67, Tryd.ntmps67
    go_wp2
    go_loop [9] (fun i => i = .int .i64 0) (fun _ => 0)
    case atStart => rfl
    case round =>
      subst hrel
      go_wp2
      go_ret
      exact ⟨rfl, rfl⟩
  · have HC := Lib.hid hc
    have HG := Lib.hid hg
    clear hc hg
    go_enter Tryd.func67, Tryd.ntmps67
    go_wp2
    go_loop [9] (fun i => ∃ k : Nat, k ≤ l.length ∧ i = .int .i64 k ∧ (l.take k).all p = true) (fun i => l.length - (intOf i).toNat)
    case atStart => exact ⟨0, Nat.zero_le _, rfl, rfl⟩
    case round =>
      obtain ⟨k, hk, rfl, hF⟩ := hrel
      have HF := Lib.hid hF
      clear hF
      by_cases hlt : k < l.length
      · have ck := HC.out k hlt
        obtain ⟨x, hx⟩ : ∃ x, x = l.getD k 0 := ⟨_, rfl⟩
        rw [← hx] at ck
        have HX := Lib.hid hx
        clear hx
        go_wp2_with fail
        refine (HG.out x _).mono ?_
        rintro e w' ⟨rfl, hw⟩
        subst hw
        rcases hp : p x with _ | _
        · have N0 : Hid (l.all p = false) := Lib.hid (all_not p l k 0 hlt (by rw [← HX.out]; exact hp))
          go_wp2
          go_ret
          exact ⟨ret_bool N0.out.symm, rfl⟩
        · have N1 : Hid ((l.take (k + 1)).all p = true) := Lib.hid (all_take p l k 0 hlt HF.out (by rw [← HX.out]; exact hp))
          go_wp2
          go_round
          case rel => exact ⟨k + 1, by omega, by go_num, N1.out⟩
          case measure => simp [intOf]; omega
      · have N1 : Hid (l.all p = true) := Lib.hid (all_end p l k hlt HF.out)
        go_wp2
        go_ret
        exact ⟨ret_bool N1.out.symm, rfl⟩
end Go.Proofs.YtdiijpjfkgnjkacDoor
