/-
  What is proved here: what package rule's closures and its all answer (contracts over the translation).
  What is proved here: what package rule's all of weekdays and its rises answer (contracts over the translation).
  What is proved here: what package rule's hasNumbers, isTooLong, hasItems and isRising answer of any rule (contracts over the translation).
  What is proved here: what package rule's goesTogether answers (contracts over the translation).
  What is proved here: what package rule's Check answers of any rule (contracts over the translation).
-/
import Derived.Test.YthdohcjingfpoaaGreatDoorRM
import Derived.BigQuiet
import Derived.Lib.QuietBelow
import Derived.Shelf.Abstract
import Derived.Test.YthdohcjingfpoaaGreatDoorBA
namespace Go.Proofs.YthdohcjingfpoaaGreatDoor
open Go.RowKit Cal Txt

/-- Is a number a month? -/
def monP (n : Int) : Bool := decide (1 ≤ n ∧ n ≤ 12)
/-- Is a number a place? -/
def plaP (n : Int) : Bool := decide (¬ n = 0 ∧ -31 ≤ n ∧ n ≤ 31)
theorem items1_any (n : Int) (w : World) :
    Calls Tryz.prog 195 #[.int .i64 n] w fun e w' => e = .returned (.bool (monP n)) ∧ w' = w := by
  by_cases h : 1 ≤ n ∧ n ≤ 12
  · have N1 : Hid (monP n = true) := Lib.hid (decide_eq_true h)
    obtain ⟨a, b⟩ := h
    go_enter Tryz.func195, Tryz.ntmps195
    go_wp2
    go_ret
    exact ⟨ret_bool (by first | exact N1.out.symm | (rw [N1.out]; first | exact decide_eq_false (by omega) | exact decide_eq_true (by omega))), rfl⟩
  · have N1 : Hid (monP n = false) := Lib.hid (decide_eq_false h)
    rcases (by omega : n < 1 ∨ (1 ≤ n ∧ 12 < n)) with a | ⟨a, b⟩
    all_goals
      go_enter Tryz.func195, Tryz.ntmps195
      go_wp2
      go_ret
      exact ⟨ret_bool (by first | exact N1.out.symm | (rw [N1.out]; first | exact decide_eq_false (by omega) | exact decide_eq_true (by omega))), rfl⟩
theorem items2_any (n : Int) (w : World) :
    Calls Tryz.prog 196 #[.int .i64 n] w fun e w' => e = .returned (.bool (plaP n)) ∧ w' = w := by
  by_cases h : ¬ n = 0 ∧ -31 ≤ n ∧ n ≤ 31
  · have N1 : Hid (plaP n = true) := Lib.hid (decide_eq_true h)
    obtain ⟨c, a, b⟩ := h
    have c' : (n != 0) = true := by simp [c]
    clear c
    go_enter Tryz.func196, Tryz.ntmps196
    go_wp2
    go_ret
    exact ⟨ret_bool (by first | exact N1.out.symm | (rw [N1.out]; first | exact decide_eq_false (by omega) | exact decide_eq_true (by omega))), rfl⟩
  · have N1 : Hid (plaP n = false) := Lib.hid (decide_eq_false h)
    have e0 : (n != 0) = false ↔ n = 0 := by simp
    have e1 : (n != 0) = true ↔ ¬ n = 0 := by simp
    rcases (by rw [e0, e1]; omega : (n != 0) = false ∨ ((n != 0) = true ∧ n < -31) ∨ ((n != 0) = true ∧ -31 ≤ n ∧ 31 < n)) with a | ⟨a, b⟩ | ⟨a, b, c⟩
    all_goals
      clear e0 e1 h
      go_enter Tryz.func196, Tryz.ntmps196
      go_wp2
      go_ret
      exact ⟨ret_bool (by first | exact N1.out.symm | (rw [N1.out]; first | exact decide_eq_false (by omega) | exact decide_eq_true (by omega))), rfl⟩
/-- Is a weekday one that may be? -/
def wkP (x : Int × Int) : Bool := decide (1 ≤ x.2 ∧ x.2 ≤ 7 ∧ -5 ≤ x.1 ∧ x.1 ≤ 5)
theorem items3_any (x : Int × Int) (w : World) :
    Calls Tryz.prog 197 #[.agg #[.int .i64 x.1, .int .i64 x.2]] w fun e w' => e = .returned (.bool (wkP x)) ∧ Below w.heap.size w w' := by
  obtain ⟨n, k⟩ := x
  show Calls Tryz.prog 197 #[.agg #[.int .i64 n, .int .i64 k]] w fun e w' => e = .returned (.bool (wkP (n, k))) ∧ Below w.heap.size w w'
  by_cases h : 1 ≤ k ∧ k ≤ 7 ∧ -5 ≤ n ∧ n ≤ 5
  · have N1 : Hid (wkP (n, k) = true) := Lib.hid (decide_eq_true h)
    obtain ⟨a, b, c, d⟩ := h
    go_enter Tryz.func197, Tryz.ntmps197
    go_wp2
    go_ret
    exact ⟨ret_bool (by first | exact N1.out.symm | (rw [N1.out]; first | exact decide_eq_false (by omega) | exact decide_eq_true (by omega))), (Below.refl _ _).alloc (Nat.le_refl _) _⟩
  · have N1 : Hid (wkP (n, k) = false) := Lib.hid (decide_eq_false h)
    rcases (by omega : k < 1 ∨ (1 ≤ k ∧ 7 < k) ∨ (1 ≤ k ∧ k ≤ 7 ∧ n < -5) ∨ (1 ≤ k ∧ k ≤ 7 ∧ -5 ≤ n ∧ 5 < n)) with a | ⟨a, b⟩ | ⟨a, b, c⟩ | ⟨a, b, c, d⟩
    all_goals
      go_enter Tryz.func197, Tryz.ntmps197
      go_wp2
      go_ret
      exact ⟨ret_bool (by first | exact N1.out.symm | (rw [N1.out]; first | exact decide_eq_false (by omega) | exact decide_eq_true (by omega))), (Below.refl _ _).alloc (Nat.le_refl _) _⟩
theorem each_any (x : Int × Int) (w : World) :
    Calls Tryz.prog 202 #[.agg #[.int .i64 x.1, .int .i64 x.2]] w fun e w' => e = .returned (.bool (x.1 == 0)) ∧ Below w.heap.size w w' := by
  go_enter Tryz.func202, Tryz.ntmps202
  go_wp2
  go_ret
  exact ⟨rfl, (Below.refl _ _).alloc (Nat.le_refl _) _⟩
theorem above_any (a b : Int) (w : World) :
    Calls Tryz.prog 199 #[.int .i64 a, .int .i64 b] w fun e w' => e = .returned (.bool (decide (b < a))) ∧ w' = w := by
  by_cases h : b < a
  · have N1 := Lib.hid (decide_eq_true h)
    go_enter Tryz.func199, Tryz.ntmps199
    go_wp2
    go_ret
    exact ⟨ret_bool (by first | exact N1.out.symm | (rw [N1.out]; first | exact decide_eq_false (by omega) | exact decide_eq_true (by omega))), rfl⟩
  · have N1 := Lib.hid (decide_eq_false h)
    go_enter Tryz.func199, Tryz.ntmps199
    go_wp2
    go_ret
    exact ⟨ret_bool (by first | exact N1.out.symm | (rw [N1.out]; first | exact decide_eq_false (by omega) | exact decide_eq_true (by omega))), rfl⟩
/-- Is a weekday ahead of another? -/
def wltB (a b : Int × Int) : Bool := decide (a.2 < b.2 ∨ (a.2 = b.2 ∧ a.1 < b.1))
theorem behind_any (x y : Int × Int) (w : World) :
    Calls Tryz.prog 200 #[.agg #[.int .i64 x.1, .int .i64 x.2], .agg #[.int .i64 y.1, .int .i64 y.2]] w fun e w' => e = .returned (.bool (wltB y x)) ∧ Below w.heap.size w w' := by
  obtain ⟨n, k⟩ := x
  obtain ⟨m, j⟩ := y
  show Calls Tryz.prog 200 #[.agg #[.int .i64 n, .int .i64 k], .agg #[.int .i64 m, .int .i64 j]] w fun e w' => e = .returned (.bool (wltB (m, j) (n, k))) ∧ Below w.heap.size w w'
  by_cases h : j < k ∨ (j = k ∧ m < n)
  · have N1 : Hid (wltB (m, j) (n, k) = true) := Lib.hid (decide_eq_true h)
    rcases h with a | ⟨a, b⟩
    · go_enter Tryz.func200, Tryz.ntmps200
      go_wp2
      go_ret
      exact ⟨ret_bool (by first | exact N1.out.symm | (rw [N1.out]; first | exact decide_eq_false (by omega) | exact decide_eq_true (by omega))), ((Below.refl _ _).alloc (Nat.le_refl _) _).alloc (by simp) _⟩
    · subst a
      go_enter Tryz.func200, Tryz.ntmps200
      go_wp2
      go_ret
      exact ⟨ret_bool (by first | exact N1.out.symm | (rw [N1.out]; first | exact decide_eq_false (by omega) | exact decide_eq_true (by omega))), ((Below.refl _ _).alloc (Nat.le_refl _) _).alloc (by simp) _⟩
  · have N1 : Hid (wltB (m, j) (n, k) = false) := Lib.hid (decide_eq_false h)
    rcases (by omega : (j = k ∧ n ≤ m) ∨ k < j) with ⟨a, b⟩ | a
    · subst a
      go_enter Tryz.func200, Tryz.ntmps200
      go_wp2
      go_ret
      exact ⟨ret_bool (by first | exact N1.out.symm | (rw [N1.out]; first | exact decide_eq_false (by omega) | exact decide_eq_true (by omega))), ((Below.refl _ _).alloc (Nat.le_refl _) _).alloc (by simp) _⟩
    · have b : (k == j) = false := by simp; omega
      go_enter Tryz.func200, Tryz.ntmps200
      go_wp2
      go_ret
      exact ⟨ret_bool (by first | exact N1.out.symm | (rw [N1.out]; first | exact decide_eq_false (by omega) | exact decide_eq_true (by omega))), ((Below.refl _ _).alloc (Nat.le_refl _) _).alloc (by simp) _⟩
/-- All are so, as far as a place. -/
theorem all_take {α : Type} (p : α → Bool) (l : List α) (k : Nat) (d : α) (h : k < l.length) (ha : (l.take k).all p = true) (hp : p (l.getD k d) = true) : (l.take (k + 1)).all p = true := by
  rw [List.take_succ_eq_append_getElem h, List.all_append, ha, List.all_cons, List.all_nil]
  rw [List.getD_eq_getElem?_getD, List.getElem?_eq_getElem h] at hp
  simpa using hp
theorem all_not {α : Type} (p : α → Bool) (l : List α) (k : Nat) (d : α) (h : k < l.length) (hp : p (l.getD k d) = false) : l.all p = false := by
  rw [List.getD_eq_getElem?_getD, List.getElem?_eq_getElem h] at hp
  rcases e : l.all p with _ | _
  · rfl
  · have := List.all_eq_true.1 e _ (List.getElem_mem h)
    simp only [Option.getD_some] at hp
    rw [hp] at this; cases this
theorem all_end {α : Type} (p : α → Bool) (l : List α) (k : Nat) (h : ¬ k < l.length) (ha : (l.take k).all p = true) : l.all p = true := by
  rwa [List.take_of_length_le (by omega)] at ha
set_option maxHeartbeats 1000000 in
theorem all_int (g : FuncId) (p : Int → Bool) (eg : ∀ args w, (callFunc g args).run Tryz.prog w = .ok (.enter g args) w)
    (hg : ∀ n W, Calls Tryz.prog g #[.int .i64 n] W fun e w' => e = .returned (.bool (p n)) ∧ w' = W) (v : Value) (l : List Int) (w : World) (hv : Ints w v l) (hl : l.length ≤ 1000) :
    Calls Tryz.prog 146 #[v, .func (.func g) #[] #[]] w fun e w' => e = .returned (.bool (l.all p)) ∧ w' = w := by
  obtain ⟨a, cap, rfl, hc⟩ := hv
  rcases hc with rfl | ⟨b, off, rfl, hc⟩
  · go_enter Tryz.func146, Tryz.ntmps146
    go_wp2
    go_loop [9] (fun i => i = .int .i64 0) (fun _ => 0)
    case atStart => rfl
    case round =>
      subst hrel
      go_wp2
      go_ret
      exact ⟨rfl, rfl⟩
  · have HC := Lib.hid hc
    have HG := Lib.hid hg
    clear hc hg
    go_enter Tryz.func146, Tryz.ntmps146
    go_wp2
    go_loop [9] (fun i => ∃ k : Nat, k ≤ l.length ∧ i = .int .i64 k ∧ (l.take k).all p = true) (fun i => l.length - (intOf i).toNat)
    case atStart => exact ⟨0, Nat.zero_le _, rfl, rfl⟩
    case round =>
      obtain ⟨k, hk, rfl, hF⟩ := hrel
      have HF := Lib.hid hF
      clear hF
      by_cases hlt : k < l.length
      · have ck := HC.out k hlt
        obtain ⟨x, hx⟩ : ∃ x, x = l.getD k 0 := ⟨_, rfl⟩
        rw [← hx] at ck
        have HX := Lib.hid hx
        clear hx
        go_wp2_with fail
        refine (HG.out x _).mono ?_
        rintro e w' ⟨rfl, hw⟩
        subst hw
        rcases hp : p x with _ | _
        · have N0 : Hid (l.all p = false) := Lib.hid (all_not p l k 0 hlt (by rw [← HX.out]; exact hp))
          go_wp2
          go_ret
          exact ⟨ret_bool N0.out.symm, rfl⟩
        · have N1 : Hid ((l.take (k + 1)).all p = true) := Lib.hid (all_take p l k 0 hlt HF.out (by rw [← HX.out]; exact hp))
          go_wp2
          go_round
          case rel => exact ⟨k + 1, by omega, by go_num, N1.out⟩
          case measure => simp [intOf]; omega
      · have N1 : Hid (l.all p = true) := Lib.hid (all_end p l k hlt HF.out)
        go_wp2
        go_ret
        exact ⟨ret_bool N1.out.symm, rfl⟩
end Go.Proofs.YthdohcjingfpoaaGreatDoor
namespace Go.Proofs.YthdohcjingfpoaaGreatDoor
open Go.RowKit Cal Txt

set_option maxHeartbeats 1000000 in
theorem all_nth (g : FuncId) (p : Int × Int → Bool) (eg : ∀ args w, (callFunc g args).run Tryz.prog w = .ok (.enter g args) w)
    (hg : ∀ (x : Int × Int) W, Calls Tryz.prog g #[.agg #[.int .i64 x.1, .int .i64 x.2]] W fun e w' => e = .returned (.bool (p x)) ∧ Below W.heap.size W w') (v : Value) (l : List (Int × Int)) (w : World) (hv : Nths w v l) (hl : l.length ≤ 1000) :
    Calls Tryz.prog 198 #[v, .func (.func g) #[] #[]] w fun e w' => e = .returned (.bool (l.all p)) ∧ Below w.heap.size w w' := by
  have HV := Lib.hid hv
  obtain ⟨a, cap, rfl, hc⟩ := hv
  rcases hc with rfl | ⟨b, off, rfl, hc⟩
  · go_enter Tryz.func198, Tryz.ntmps198
    go_wp2
    go_loop [9] (fun i => i = .int .i64 0) (fun _ => 0)
    case atStart => rfl
    case round =>
      subst hrel
      go_wp2
      go_ret
      exact ⟨rfl, Below.refl _ _⟩
  · have HG := Lib.hid hg
    clear hc hg
    go_enter Tryz.func198, Tryz.ntmps198
    go_wp2
    go_loopw [9] (fun i wr => ∃ k : Nat, k ≤ l.length ∧ i = .int .i64 k ∧ (l.take k).all p = true ∧ Below w.heap.size w wr) (fun i _ => l.length - (intOf i).toNat)
    case atStart => exact ⟨0, Nat.zero_le _, rfl, rfl, Below.refl _ _⟩
    case round =>
      obtain ⟨k, hk, rfl, hF, hB⟩ := hrel
      have HF := Lib.hid hF
      clear hF
      by_cases hlt : k < l.length
      · obtain ⟨a', c', e', hc⟩ := HV.out.on hB
        rcases hc with hc | ⟨b', off', ea, hc⟩
        · rw [hc] at hlt; simp at hlt
        obtain ⟨⟨rfl, rfl⟩, rfl⟩ : (b = b' ∧ off = off') ∧ cap = c' := by simpa [ea] using e'
        obtain ⟨k1, k2⟩ := hc k hlt
        obtain ⟨x, hx⟩ : ∃ x, x = l.getD k (0, 0) := ⟨_, rfl⟩
        rw [← hx] at k1 k2
        have HX := Lib.hid hx
        clear hx hc ea e'
        go_wp2_with fail
        refine (HG.out x _).mono ?_
        rintro e w' ⟨rfl, hb⟩
        have hB2 := (hB.alloc hB.size _).trans (hb.mono (hB.alloc hB.size _).size)
        clear hb
        rcases hp : p x with _ | _
        · have N0 : Hid (l.all p = false) := Lib.hid (all_not p l k (0, 0) hlt (by rw [← HX.out]; exact hp))
          go_wp2
          go_ret
          exact ⟨ret_bool N0.out.symm, hB2⟩
        · have N1 : Hid ((l.take (k + 1)).all p = true) := Lib.hid (all_take p l k (0, 0) hlt HF.out (by rw [← HX.out]; exact hp))
          go_wp2
          go_roundw
          case rel => exact ⟨k + 1, by omega, by go_num, N1.out, hB2⟩
          case measure => simp [intOf]; omega
      · have N1 : Hid (l.all p = true) := Lib.hid (all_end p l k hlt HF.out)
        go_wp2
        go_ret
        exact ⟨ret_bool N1.out.symm, hB⟩
set_option maxHeartbeats 1000000 in
theorem rises_int (v : Value) (l : List Int) (w : World) (hv : Ints w v l) (hl : l.length ≤ 1000) :
    Calls Tryz.prog 148 #[v, .func (.func 199) #[] #[]] w fun e w' => e = .returned (.bool (risB l)) ∧ Below w.heap.size w w' := by
  obtain ⟨a, cap, rfl, hc⟩ := hv
  rcases hc with rfl | ⟨b, off, rfl, hc⟩
  · go_enter Tryz.func148, Tryz.ntmps148
    go_wp2
    go_loop [5] (fun i => i = .int .i64 1) (fun _ => 0)
    case atStart => rfl
    case round =>
      subst hrel
      go_wp2
      go_ret
      exact ⟨rfl, Below.refl _ _⟩
  · have HC := Lib.hid hc
    clear hc
    go_enter Tryz.func148, Tryz.ntmps148
    go_wp2
    go_loopw [5] (fun i wr => ∃ k : Nat, 1 ≤ k ∧ (k ≤ l.length ∨ k = 1) ∧ i = .int .i64 k ∧ Below w.heap.size w wr ∧ (∀ i, i < l.length → wr.cell? ⟨b, off + i, none⟩ = some (.int .i64 (l.getD i 0))) ∧ ∀ j, j + 1 < k → l.getD j 0 < l.getD (j + 1) 0) (fun i _ => l.length - (intOf i).toNat)
    case atStart => exact ⟨1, by omega, Or.inr rfl, rfl, Below.refl _ _, HC.out, fun j hj => by omega⟩
    case round =>
      obtain ⟨k, k1, hk, rfl, hB, hc, hF⟩ := hrel
      have HF := Lib.hid hF
      have HK := Lib.hid hc
      clear hF hc
      by_cases hlt : k < l.length
      · have ck := HK.out k hlt
        have cj := HK.out (k - 1) (by omega)
        obtain ⟨x, hx⟩ : ∃ x, x = l.getD k 0 := ⟨_, rfl⟩
        obtain ⟨y, hy⟩ : ∃ y, y = l.getD (k - 1) 0 := ⟨_, rfl⟩
        rw [← hx] at ck
        rw [← hy] at cj
        have HX := Lib.hid hx
        have HY := Lib.hid hy
        clear hx hy hk
        have i1 : (0 : Int) ≤ (k : Int) - 1 := by omega
        have i2 : (k : Int) - 1 < (l.length : Int) := by omega
        have i3 : ((k : Int) - 1).toNat = k - 1 := by omega
        by_cases c : y < x
        · have N1 : Hid (∀ j, j + 1 < k + 1 → l.getD j 0 < l.getD (j + 1) 0) := Lib.hid (fun j hj => by
            rcases Nat.lt_or_ge (j + 1) k with g | g
            · exact HF.out j g
            · obtain rfl : j = k - 1 := by omega
              rw [show k - 1 + 1 = k by omega, ← HX.out, ← HY.out]; exact c)
          go_wp2_with fail
          go_quiet ((go_at_call 199; exact Calls.quiet_of_same (above_any _ _ _)))
          go_wp2
          go_roundw
          case rel => exact ⟨k + 1, by omega, Or.inl (by omega), by go_num, below_drewN hB _, HK.out, N1.out⟩
          case measure => simp [intOf]; omega
        · have N0 : Hid (risB l = false) := Lib.hid (risB_not (k - 1) (by omega) (by rw [show k - 1 + 1 = k by omega, ← HX.out, ← HY.out]; exact c))
          have c' : decide (y < x) = false := decide_eq_false c
          clear c
          go_wp2_with fail
          go_quiet ((go_at_call 199; exact Calls.quiet_of_same (above_any _ _ _)))
          go_wp2
          go_ret
          exact ⟨ret_bool N0.out.symm, below_drewN hB _⟩
      · have N1 : Hid (risB l = true) := Lib.hid (risB_iff.2 (fun j hj => HF.out j (by omega)))
        clear hk
        go_wp2
        go_ret
        exact ⟨ret_bool N1.out.symm, hB⟩
theorem wri_next {l : List (Int × Int)} {k : Nat} (k1 : 1 ≤ k) (hF : ∀ j, j + 1 < k → wltB (l.getD j (0, 0)) (l.getD (j + 1) (0, 0)) = true) (h : wltB (l.getD (k - 1) (0, 0)) (l.getD k (0, 0)) = true) : ∀ j, j + 1 < k + 1 → wltB (l.getD j (0, 0)) (l.getD (j + 1) (0, 0)) = true := fun j hj => by
  rcases Nat.lt_or_ge (j + 1) k with g | g
  · exact hF j g
  · obtain rfl : j = k - 1 := by omega
    rw [show k - 1 + 1 = k by omega]; exact h
theorem wri_not {l : List (Int × Int)} {k : Nat} (k1 : 1 ≤ k) (hk : k < l.length) (h : wltB (l.getD (k - 1) (0, 0)) (l.getD k (0, 0)) = false) : wriB l = false := by
  rcases e : wriB l with _ | _
  · rfl
  · have := wriB_iff.1 e (k - 1) (by omega)
    rw [show k - 1 + 1 = k by omega] at this
    have h2 := of_decide_eq_false h
    exact absurd this h2
theorem wri_yes {l : List (Int × Int)} {k : Nat} (hk : ¬ k < l.length) (hF : ∀ j, j + 1 < k → wltB (l.getD j (0, 0)) (l.getD (j + 1) (0, 0)) = true) : wriB l = true :=
  wriB_iff.2 (fun j hj => by have := hF j (by omega); unfold wltB at this; simpa [wlt] using this)
set_option maxRecDepth 100000 in
set_option maxHeartbeats 2000000 in
theorem rises_nth (v : Value) (l : List (Int × Int)) (w : World) (hv : Nths w v l) (hl : l.length ≤ 1000) :
    Calls Tryz.prog 201 #[v, .func (.func 200) #[] #[]] w fun e w' => e = .returned (.bool (wriB l)) ∧ Below w.heap.size w w' := by
  have HV := Lib.hid hv
  obtain ⟨a, cap, rfl, hc⟩ := hv
  rcases hc with rfl | ⟨b, off, rfl, hc⟩
  · go_enter Tryz.func201, Tryz.ntmps201
    go_wp2
    go_loop [5] (fun i => i = .int .i64 1) (fun _ => 0)
    case atStart => rfl
    case round =>
      subst hrel
      go_wp2
      go_ret
      exact ⟨rfl, Below.refl _ _⟩
  · clear hc
    go_enter Tryz.func201, Tryz.ntmps201
    go_wp2
    go_loopw [5] (fun i wr => ∃ k : Nat, 1 ≤ k ∧ (k ≤ l.length ∨ k = 1) ∧ i = .int .i64 k ∧ Below w.heap.size w wr ∧ ∀ j, j + 1 < k → wltB (l.getD j (0, 0)) (l.getD (j + 1) (0, 0)) = true) (fun i _ => l.length - (intOf i).toNat)
    case atStart => exact ⟨1, by omega, Or.inr rfl, rfl, Below.refl _ _, fun j hj => by omega⟩
    case round =>
      obtain ⟨k, k1, hk, rfl, hB, hF⟩ := hrel
      have HF := Lib.hid hF
      clear hF
      by_cases hlt : k < l.length
      · obtain ⟨a', c', e', hc⟩ := HV.out.on hB
        rcases hc with hc | ⟨b', off', ea, hc⟩
        · rw [hc] at hlt; simp at hlt
        obtain ⟨⟨rfl, rfl⟩, rfl⟩ : (b = b' ∧ off = off') ∧ cap = c' := by simpa [ea] using e'
        obtain ⟨q1, q2⟩ := hc k hlt
        obtain ⟨q3, q4⟩ := hc (k - 1) (by omega)
        obtain ⟨x, hx⟩ : ∃ x, x = l.getD k (0, 0) := ⟨_, rfl⟩
        obtain ⟨y, hy⟩ : ∃ y, y = l.getD (k - 1) (0, 0) := ⟨_, rfl⟩
        rw [← hx] at q1 q2
        rw [← hy] at q3 q4
        have HX := Lib.hid hx
        have HY := Lib.hid hy
        clear hx hy hk hc ea e'
        have i1 : (0 : Int) ≤ (k : Int) - 1 := by omega
        have i2 : (k : Int) - 1 < (l.length : Int) := by omega
        have i3 : ((k : Int) - 1).toNat = k - 1 := by omega
        have i0 : (1 : Int) ≤ (k : Int) := by omega
        have i4 : IntKind.i64.wrap ((k : Int) - 1) = (k : Int) - 1 := by rw [IntKind.wrap_i64]; omega
        have r1 := cell_regrown q1
        have r2 := cell_regrown q2
        have r3 := cell_regrown q3
        have r4 := cell_regrown q4
        rcases c : wltB y x with _ | _
        · have N0 : Hid (wriB l = false) := Lib.hid (wri_not k1 hlt (by rw [← HX.out, ← HY.out]; exact c))
          go_wp2_with fail
          refine wp_region_quiet_below (by kernel_rfl) (by kernel_rfl) ?_
          repeat (quiet_step ((go_at_call 200; exact Calls.regrown_of (behind_any x y _))))
          refine wpQuiet_nil ?_
          intro _ hw'
          obtain ⟨⟨dq, osq⟩, hw''⟩ := hw'
          subst hw''
          have hB2 := hB.trans ((below_regrown wr dq osq).mono hB.size)
          generalize Sort.grow (redrawn wr dq) osq = W3 at hB2 ⊢
          clear r1 r2 r3 r4 q1 q2 q3 q4
          go_wp2
          go_ret
          exact ⟨ret_bool N0.out.symm, hB2⟩
        · have N1 := Lib.hid (wri_next k1 HF.out (by rw [← HX.out, ← HY.out]; exact c))
          go_wp2_with fail
          refine wp_region_quiet_below (by kernel_rfl) (by kernel_rfl) ?_
          repeat (quiet_step ((go_at_call 200; exact Calls.regrown_of (behind_any x y _))))
          refine wpQuiet_nil ?_
          intro _ hw'
          obtain ⟨⟨dq, osq⟩, hw''⟩ := hw'
          subst hw''
          have hB2 := hB.trans ((below_regrown wr dq osq).mono hB.size)
          generalize Sort.grow (redrawn wr dq) osq = W3 at hB2 ⊢
          clear r1 r2 r3 r4 q1 q2 q3 q4
          go_wp2
          go_roundw
          case rel => exact ⟨k + 1, by omega, Or.inl (by omega), by go_num, hB2, N1.out⟩
          case measure => simp [intOf]; omega
      · have N1 := Lib.hid (wri_yes hlt HF.out)
        clear hk
        go_wp2
        go_ret
        exact ⟨ret_bool N1.out.symm, hB⟩
end Go.Proofs.YthdohcjingfpoaaGreatDoor
namespace Go.Proofs.YthdohcjingfpoaaGreatDoor
open Go.RowKit Cal Txt

theorem ok1_ways {r : Rl} (h : ok1 r = false) : r.freq < 1 ∨ (1 ≤ r.freq ∧ 4 < r.freq) ∨ (1 ≤ r.freq ∧ r.freq ≤ 4 ∧ r.every < 1) ∨ (1 ≤ r.freq ∧ r.freq ≤ 4 ∧ 1 ≤ r.every ∧ 50 < r.every) ∨ (1 ≤ r.freq ∧ r.freq ≤ 4 ∧ 1 ≤ r.every ∧ r.every ≤ 50 ∧ r.count < 0) ∨ (1 ≤ r.freq ∧ r.freq ≤ 4 ∧ 1 ≤ r.every ∧ r.every ≤ 50 ∧ 0 ≤ r.count ∧ 200 < r.count) ∨ (1 ≤ r.freq ∧ r.freq ≤ 4 ∧ 1 ≤ r.every ∧ r.every ≤ 50 ∧ 0 ≤ r.count ∧ r.count ≤ 200 ∧ r.till < 0) ∨ (1 ≤ r.freq ∧ r.freq ≤ 4 ∧ 1 ≤ r.every ∧ r.every ≤ 50 ∧ 0 ≤ r.count ∧ r.count ≤ 200 ∧ 0 ≤ r.till ∧ 109573 < r.till) := by
  have := of_decide_eq_false h
  omega
set_option maxHeartbeats 2000000 in
theorem hasNumbers_any (r : Rl) (am ad aw ap : Option Addr) (cm cd cw cp : Nat) (w : World) :
    Calls Tryz.prog 176 #[.agg #[.int .i64 r.freq, .int .i64 r.every, .int .i64 r.count, .int .i64 r.till, .slice am r.months.length cm, .slice ad r.days.length cd, .slice aw r.weeks.length cw, .slice ap r.pick.length cp]] w fun e w' => e = .returned (.bool (ok1 r)) ∧ Below w.heap.size w w' := by
  have B0 : Below w.heap.size w (w.alloc (.cells #[.int .i64 r.freq, .int .i64 r.every, .int .i64 r.count, .int .i64 r.till, .slice am r.months.length cm, .slice ad r.days.length cd, .slice aw r.weeks.length cw, .slice ap r.pick.length cp] 37)) := (Below.refl _ _).alloc (Nat.le_refl _) _
  have HB := Lib.hid B0
  clear B0
  rcases h : ok1 r with _ | _
  · have N1 := Lib.hid h
    rcases ok1_ways h with a | ⟨a, b⟩ | ⟨a, b, c⟩ | ⟨a, b, c, d⟩ | ⟨a, b, c, d, e⟩ | ⟨a, b, c, d, e, f⟩ | ⟨a, b, c, d, e, f, g⟩ | ⟨a, b, c, d, e, f, g, i⟩
    all_goals
      clear h
      go_enter Tryz.func176, Tryz.ntmps176
      go_wp2_with fail
      first
        | (go_ret
           exact ⟨ret_bool (by first | rfl | exact decide_eq_false (by omega)), HB.out⟩)
        | (first
             | have q1 : decide (0 ≤ r.count) = false := decide_eq_false (by omega)
             | (have q1 : decide (0 ≤ r.count) = true := decide_eq_true (by omega)
                first
                  | have q2 : decide (r.count ≤ 200) = false := decide_eq_false (by omega)
                  | (have q2 : decide (r.count ≤ 200) = true := decide_eq_true (by omega)
                     first
                       | have q3 : decide (0 ≤ r.till) = false := decide_eq_false (by omega)
                       | (have q3 : decide (0 ≤ r.till) = true := decide_eq_true (by omega)
                          have q4 : decide (r.till ≤ 109573) = false := decide_eq_false (by omega))))
           go_quiet ((go_at_call 22; exact Calls.quiet_of_same (last_any _)))
           go_wp2
           go_ret
           exact ⟨ret_bool (by first | rfl | exact decide_eq_false (by omega)), below_drewN HB.out _⟩)
  · have N1 := Lib.hid h
    obtain ⟨⟨a, b⟩, ⟨c, d⟩, ⟨e, f⟩, g, i⟩ := of_decide_eq_true h
    clear h
    go_enter Tryz.func176, Tryz.ntmps176
    go_wp2_with fail
    go_quiet ((go_at_call 22; exact Calls.quiet_of_same (last_any _)))
    go_wp2
    go_ret
    exact ⟨ret_bool (by first | rfl | exact decide_eq_true (by omega)), below_drewN HB.out _⟩
theorem ok2_ways {r : Rl} (h : ok2 r = false) : (12 : Int) < r.months.length ∨ ((r.months.length : Int) ≤ 12 ∧ (31 : Int) < r.days.length) ∨ ((r.months.length : Int) ≤ 12 ∧ (r.days.length : Int) ≤ 31 ∧ (20 : Int) < r.weeks.length) ∨ ((r.months.length : Int) ≤ 12 ∧ (r.days.length : Int) ≤ 31 ∧ (r.weeks.length : Int) ≤ 20 ∧ (20 : Int) < r.pick.length) := by
  have := of_decide_eq_false h
  omega
theorem ok2_yes {r : Rl} (h : ok2 r = true) : (r.months.length : Int) ≤ 12 ∧ (r.days.length : Int) ≤ 31 ∧ (r.weeks.length : Int) ≤ 20 ∧ (r.pick.length : Int) ≤ 20 := by
  have := of_decide_eq_true h
  omega
set_option maxHeartbeats 2000000 in
theorem isTooLong_any (r : Rl) (am ad aw ap : Option Addr) (cm cd cw cp : Nat) (w : World) :
    Calls Tryz.prog 177 #[.agg #[.int .i64 r.freq, .int .i64 r.every, .int .i64 r.count, .int .i64 r.till, .slice am r.months.length cm, .slice ad r.days.length cd, .slice aw r.weeks.length cw, .slice ap r.pick.length cp]] w fun e w' => e = .returned (.bool (!ok2 r)) ∧ Below w.heap.size w w' := by
  have B0 : Below w.heap.size w (w.alloc (.cells #[.int .i64 r.freq, .int .i64 r.every, .int .i64 r.count, .int .i64 r.till, .slice am r.months.length cm, .slice ad r.days.length cd, .slice aw r.weeks.length cw, .slice ap r.pick.length cp] 37)) := (Below.refl _ _).alloc (Nat.le_refl _) _
  have HB := Lib.hid B0
  clear B0
  rcases h : ok2 r with _ | _
  · rcases ok2_ways h with a | ⟨a, b⟩ | ⟨a, b, c⟩ | ⟨a, b, c, d⟩
    all_goals
      clear h
      go_enter Tryz.func177, Tryz.ntmps177
      go_wp2
      go_ret
      exact ⟨ret_bool (by first | rfl | (simp; omega)), HB.out⟩
  · obtain ⟨a, b, c, d⟩ := ok2_yes h
    clear h
    go_enter Tryz.func177, Tryz.ntmps177
    go_wp2
    go_ret
    exact ⟨ret_bool (by first | rfl | (simp; omega)), HB.out⟩
/-- Whether all numbers of the lists are ones that may be. -/
def itemsB (r : Rl) : Bool := r.months.all monP && r.days.all plaP && r.weeks.all wkP && r.pick.all plaP
theorem itemsB_eq (r : Rl) : itemsB r = (ok3 r && wkB r.weeks) := by
  have e1 : r.months.all monP = inB 1 12 r.months := by
    unfold inB monP
    congr 1
    funext x
    exact decide_eq_decide.2 (by omega)
  have e2 : r.days.all plaP = inB (-31) 31 r.days := rfl
  have e3 : r.pick.all plaP = inB (-31) 31 r.pick := rfl
  have e4 : r.weeks.all wkP = wkB r.weeks := rfl
  unfold itemsB ok3
  rw [e1, e2, e3, e4]
  cases inB 1 12 r.months <;> cases inB (-31) 31 r.days <;> cases inB (-31) 31 r.pick <;> cases wkB r.weeks <;> rfl
theorem f1 : ∀ args w, (callFunc 195 args).run Tryz.prog w = .ok (.enter 195 args) w := enters_of Tryz.func195 (by kernel_rfl) rfl
theorem f2 : ∀ args w, (callFunc 196 args).run Tryz.prog w = .ok (.enter 196 args) w := enters_of Tryz.func196 (by kernel_rfl) rfl
theorem f3 : ∀ args w, (callFunc 197 args).run Tryz.prog w = .ok (.enter 197 args) w := enters_of Tryz.func197 (by kernel_rfl) rfl
set_option maxHeartbeats 2000000 in
theorem hasItems_any (r : Rl) (am ad aw ap : Option Addr) (cm cd cw cp : Nat) (w : World) (hm : Ints w (.slice am r.months.length cm) r.months) (hd : Ints w (.slice ad r.days.length cd) r.days) (hw : Nths w (.slice aw r.weeks.length cw) r.weeks) (hp : Ints w (.slice ap r.pick.length cp) r.pick) (hl : ok2 r = true) :
    Calls Tryz.prog 178 #[.agg #[.int .i64 r.freq, .int .i64 r.every, .int .i64 r.count, .int .i64 r.till, .slice am r.months.length cm, .slice ad r.days.length cd, .slice aw r.weeks.length cw, .slice ap r.pick.length cp]] w fun e w' => e = .returned (.bool (itemsB r)) ∧ Below w.heap.size w w' := by
  obtain ⟨l1, l2, l3, l4⟩ := ok2_yes hl
  clear hl
  have B0 : Below w.heap.size w (w.alloc (.cells #[.int .i64 r.freq, .int .i64 r.every, .int .i64 r.count, .int .i64 r.till, .slice am r.months.length cm, .slice ad r.days.length cd, .slice aw r.weeks.length cw, .slice ap r.pick.length cp] 37)) := (Below.refl _ _).alloc (Nat.le_refl _) _
  have HR := Lib.hid (RBox.new w r.freq r.every r.count r.till (.slice am r.months.length cm) (.slice ad r.days.length cd) (.slice aw r.weeks.length cw) (.slice ap r.pick.length cp) 37)
  have HB := Lib.hid B0
  have HM := Lib.hid (hm.on B0)
  have HD := Lib.hid (hd.on B0)
  have HW := Lib.hid (hw.on B0)
  have HP := Lib.hid (hp.on B0)
  clear B0 hm hd hw hp
  go_enter Tryz.func178, Tryz.ntmps178
  go_wp2_with fail
  refine (all_int _ _ f1 items1_any _ _ _ HM.out (by omega)).mono ?_
  rintro e w1 ⟨rfl, hx⟩
  subst hx
  rcases h1 : r.months.all monP with _ | _
  · have N0 : Hid (itemsB r = false) := Lib.hid (by unfold itemsB; rw [h1]; rfl)
    go_wp2
    go_ret
    exact ⟨ret_bool N0.out.symm, HB.out⟩
  go_wp2_with fail
  refine (all_int _ _ f2 items2_any _ _ _ HD.out (by omega)).mono ?_
  rintro e w1 ⟨rfl, hx⟩
  subst hx
  rcases h2 : r.days.all plaP with _ | _
  · have N0 : Hid (itemsB r = false) := Lib.hid (by unfold itemsB; rw [h1, h2]; rfl)
    go_wp2
    go_ret
    exact ⟨ret_bool N0.out.symm, HB.out⟩
  go_wp2_with fail
  refine (all_nth _ _ f3 items3_any _ _ _ HW.out (by omega)).mono ?_
  rintro e w1 ⟨rfl, hx⟩
  have HB1 := Lib.hid (HB.out.trans (hx.mono HB.out.size))
  have HP1 := Lib.hid (HP.out.on hx)
  obtain ⟨R0, R1, R2, R3, R4, R5, R6, R7⟩ := HR.out.on hx
  clear hx HB HP HR HM HD HW
  rcases h3 : r.weeks.all wkP with _ | _
  · have N0 : Hid (itemsB r = false) := Lib.hid (by unfold itemsB; rw [h1, h2, h3]; rfl)
    go_wp2
    go_ret
    exact ⟨ret_bool N0.out.symm, HB1.out⟩
  go_wp2_with fail
  refine (all_int _ _ f2 items2_any _ _ _ HP1.out (by omega)).mono ?_
  rintro e w2 ⟨rfl, hx⟩
  subst hx
  have N0 : Hid (itemsB r = r.pick.all plaP) := Lib.hid (by unfold itemsB; rw [h1, h2, h3]; rfl)
  clear h1 h2 h3
  go_wp2
  go_ret
  exact ⟨ret_bool N0.out.symm, HB1.out⟩
/-- Whether each list rises. -/
theorem ok4_eq (r : Rl) : ok4 r = (risB r.months && risB r.days && wriB r.weeks && risB r.pick) := by
  unfold ok4
  cases risB r.months <;> cases risB r.days <;> cases wriB r.weeks <;> cases risB r.pick <;> rfl
set_option maxHeartbeats 2000000 in
theorem isRising_any (r : Rl) (am ad aw ap : Option Addr) (cm cd cw cp : Nat) (w : World) (hm : Ints w (.slice am r.months.length cm) r.months) (hd : Ints w (.slice ad r.days.length cd) r.days) (hw : Nths w (.slice aw r.weeks.length cw) r.weeks) (hp : Ints w (.slice ap r.pick.length cp) r.pick) (hl : ok2 r = true) :
    Calls Tryz.prog 179 #[.agg #[.int .i64 r.freq, .int .i64 r.every, .int .i64 r.count, .int .i64 r.till, .slice am r.months.length cm, .slice ad r.days.length cd, .slice aw r.weeks.length cw, .slice ap r.pick.length cp]] w fun e w' => e = .returned (.bool (ok4 r)) ∧ Below w.heap.size w w' := by
  obtain ⟨l1, l2, l3, l4⟩ := ok2_yes hl
  clear hl
  have B0 : Below w.heap.size w (w.alloc (.cells #[.int .i64 r.freq, .int .i64 r.every, .int .i64 r.count, .int .i64 r.till, .slice am r.months.length cm, .slice ad r.days.length cd, .slice aw r.weeks.length cw, .slice ap r.pick.length cp] 37)) := (Below.refl _ _).alloc (Nat.le_refl _) _
  have HR := Lib.hid (RBox.new w r.freq r.every r.count r.till (.slice am r.months.length cm) (.slice ad r.days.length cd) (.slice aw r.weeks.length cw) (.slice ap r.pick.length cp) 37)
  have HB := Lib.hid B0
  have HM := Lib.hid (hm.on B0)
  have HD := Lib.hid (hd.on B0)
  have HW := Lib.hid (hw.on B0)
  have HP := Lib.hid (hp.on B0)
  clear B0 hm hd hw hp
  go_enter Tryz.func179, Tryz.ntmps179
  go_wp2_with fail
  refine (rises_int _ _ _ HM.out (by omega)).mono ?_
  rintro e w1 ⟨rfl, hx⟩
  have HB1 := Lib.hid (HB.out.trans (hx.mono HB.out.size))
  have HD1 := Lib.hid (HD.out.on hx)
  have HW1 := Lib.hid (HW.out.on hx)
  have HP1 := Lib.hid (HP.out.on hx)
  have HR1 := Lib.hid (HR.out.on hx)
  clear hx HB HP HR HM HD HW
  rcases h1 : risB r.months with _ | _
  · have N0 : Hid (ok4 r = false) := Lib.hid (by rw [ok4_eq, h1]; rfl)
    go_wp2
    go_ret
    exact ⟨ret_bool N0.out.symm, HB1.out⟩
  obtain ⟨R0, R1, R2, R3, R4, R5, R6, R7⟩ := id HR1.out
  go_wp2_with fail
  clear R0 R1 R2 R3 R4 R5 R6 R7
  refine (rises_int _ _ _ HD1.out (by omega)).mono ?_
  rintro e w2 ⟨rfl, hx⟩
  have HB2 := Lib.hid (HB1.out.trans (hx.mono HB1.out.size))
  have HW2 := Lib.hid (HW1.out.on hx)
  have HP2 := Lib.hid (HP1.out.on hx)
  have HR2 := Lib.hid (HR1.out.on hx)
  clear hx HB1 HP1 HR1 HD1 HW1
  rcases h2 : risB r.days with _ | _
  · have N0 : Hid (ok4 r = false) := Lib.hid (by rw [ok4_eq, h1, h2]; rfl)
    go_wp2
    go_ret
    exact ⟨ret_bool N0.out.symm, HB2.out⟩
  obtain ⟨R0, R1, R2, R3, R4, R5, R6, R7⟩ := id HR2.out
  go_wp2_with fail
  clear R0 R1 R2 R3 R4 R5 R6 R7
  refine (rises_nth _ _ _ HW2.out (by omega)).mono ?_
  rintro e w3 ⟨rfl, hx⟩
  have HB3 := Lib.hid (HB2.out.trans (hx.mono HB2.out.size))
  have HP3 := Lib.hid (HP2.out.on hx)
  have HR3 := Lib.hid (HR2.out.on hx)
  clear hx HB2 HP2 HR2 HW2
  rcases h3 : wriB r.weeks with _ | _
  · have N0 : Hid (ok4 r = false) := Lib.hid (by rw [ok4_eq, h1, h2, h3]; rfl)
    go_wp2
    go_ret
    exact ⟨ret_bool N0.out.symm, HB3.out⟩
  obtain ⟨R0, R1, R2, R3, R4, R5, R6, R7⟩ := id HR3.out
  go_wp2_with fail
  clear R0 R1 R2 R3 R4 R5 R6 R7
  refine (rises_int _ _ _ HP3.out (by omega)).mono ?_
  rintro e w4 ⟨rfl, hx⟩
  have HB4 := Lib.hid (HB3.out.trans (hx.mono HB3.out.size))
  have N0 : Hid (ok4 r = risB r.pick) := Lib.hid (by rw [ok4_eq, h1, h2, h3]; rfl)
  clear h1 h2 h3 hx
  go_wp2
  go_ret
  exact ⟨ret_bool N0.out.symm, HB4.out⟩
end Go.Proofs.YthdohcjingfpoaaGreatDoor
namespace Go.Proofs.YthdohcjingfpoaaGreatDoor
open Go.RowKit Cal Txt

theorem fE : ∀ args w, (callFunc 202 args).run Tryz.prog w = .ok (.enter 202 args) w := enters_of Tryz.func202 (by kernel_rfl) rfl
theorem each_all (l : List (Int × Int)) : l.all (fun x => x.1 == 0) = !anyN l := by
  unfold anyN
  rw [Bool.eq_iff_iff]
  simp
/-- What does not go together, by what there is. -/
def odd5 (f : Int) (a : Bool) (m d x p : Nat) : Bool := (a && decide (f ≤ 2)) || (decide (0 < d) && decide (f = 2)) || (decide (f = 4) && decide (m = 0) && decide (0 < d + x)) || (decide (0 < p) && decide (m + d + x = 0))
theorem odd_eq (r : Rl) : oddB r = odd5 r.freq (anyN r.weeks) r.months.length r.days.length r.weeks.length r.pick.length := rfl
set_option maxRecDepth 100000 in
set_option maxHeartbeats 4000000 in
theorem goes_1 (ev c u : Int) (m d x p : Nat) (a : Bool) (am ad aw ap : Option Addr) (cm cd cw cp : Nat) (w : World) (l1 : (m : Int) ≤ 12) (l2 : (d : Int) ≤ 31) (l3 : (x : Int) ≤ 20) (l4 : (p : Int) ≤ 20)
    (hall : ∀ W, Below w.heap.size w W → Calls Tryz.prog 198 #[.slice aw x cw, .func (.func 202) #[] #[]] W fun e w' => e = .returned (.bool (!a)) ∧ Below W.heap.size W w') :
    Calls Tryz.prog 180 #[.agg #[.int .i64 1, .int .i64 ev, .int .i64 c, .int .i64 u, .slice am m cm, .slice ad d cd, .slice aw x cw, .slice ap p cp]] w fun e w' => e = .returned (.bool (!odd5 1 a m d x p)) ∧ Below w.heap.size w w' := by
  have B0 : Below w.heap.size w (w.alloc (.cells #[.int .i64 1, .int .i64 ev, .int .i64 c, .int .i64 u, .slice am m cm, .slice ad d cd, .slice aw x cw, .slice ap p cp] 37)) := (Below.refl _ _).alloc (Nat.le_refl _) _
  have HR := Lib.hid (RBox.new w 1 ev c u (.slice am m cm) (.slice ad d cd) (.slice aw x cw) (.slice ap p cp) 37)
  have HB := Lib.hid B0
  have HA := Lib.hid hall
  clear B0 hall
  go_enter Tryz.func180, Tryz.ntmps180
  go_wp2_with fail
  go_quiet (fail)
  have HB1 := Lib.hid (below_drewN HB.out nq)
  have HR1 := Lib.hid (HR.out.on (below_drewN (Below.refl _ _) nq))
  clear HB HR
  generalize World.drewN (w.alloc (.cells #[.int .i64 1, .int .i64 ev, .int .i64 c, .int .i64 u, .slice am m cm, .slice ad d cd, .slice aw x cw, .slice ap p cp] 37)) nq = W at HB1 HR1 ⊢
  obtain ⟨R0, R1, R2, R3, R4, R5, R6, R7⟩ := id HR1.out
  go_wp2_with fail
  clear R0 R1 R2 R3 R4 R5 R6 R7
  refine (HA.out _ HB1.out).mono ?_
  rintro e w1 ⟨rfl, hx⟩
  have HB2 := Lib.hid (HB1.out.trans (hx.mono HB1.out.size))
  obtain ⟨R0, R1, R2, R3, R4, R5, R6, R7⟩ := HR1.out.on hx
  clear hx HB1 HR1 HA
  rcases a with _ | _
  all_goals
    go_wp2
    all_goals
      go_ret
      exact ⟨ret_bool (by unfold odd5; rw [Bool.eq_iff_iff]; simp; try omega), HB2.out⟩
set_option maxRecDepth 100000 in
set_option maxHeartbeats 4000000 in
theorem goes_2 (ev c u : Int) (m d x p : Nat) (a : Bool) (am ad aw ap : Option Addr) (cm cd cw cp : Nat) (w : World) (l1 : (m : Int) ≤ 12) (l2 : (d : Int) ≤ 31) (l3 : (x : Int) ≤ 20) (l4 : (p : Int) ≤ 20)
    (hall : ∀ W, Below w.heap.size w W → Calls Tryz.prog 198 #[.slice aw x cw, .func (.func 202) #[] #[]] W fun e w' => e = .returned (.bool (!a)) ∧ Below W.heap.size W w') :
    Calls Tryz.prog 180 #[.agg #[.int .i64 2, .int .i64 ev, .int .i64 c, .int .i64 u, .slice am m cm, .slice ad d cd, .slice aw x cw, .slice ap p cp]] w fun e w' => e = .returned (.bool (!odd5 2 a m d x p)) ∧ Below w.heap.size w w' := by
  have B0 : Below w.heap.size w (w.alloc (.cells #[.int .i64 2, .int .i64 ev, .int .i64 c, .int .i64 u, .slice am m cm, .slice ad d cd, .slice aw x cw, .slice ap p cp] 37)) := (Below.refl _ _).alloc (Nat.le_refl _) _
  have HR := Lib.hid (RBox.new w 2 ev c u (.slice am m cm) (.slice ad d cd) (.slice aw x cw) (.slice ap p cp) 37)
  have HB := Lib.hid B0
  have HA := Lib.hid hall
  clear B0 hall
  go_enter Tryz.func180, Tryz.ntmps180
  go_wp2_with fail
  go_quiet (fail)
  have HB1 := Lib.hid (below_drewN HB.out nq)
  have HR1 := Lib.hid (HR.out.on (below_drewN (Below.refl _ _) nq))
  clear HB HR
  generalize World.drewN (w.alloc (.cells #[.int .i64 2, .int .i64 ev, .int .i64 c, .int .i64 u, .slice am m cm, .slice ad d cd, .slice aw x cw, .slice ap p cp] 37)) nq = W at HB1 HR1 ⊢
  obtain ⟨R0, R1, R2, R3, R4, R5, R6, R7⟩ := id HR1.out
  go_wp2_with fail
  clear R0 R1 R2 R3 R4 R5 R6 R7
  refine (HA.out _ HB1.out).mono ?_
  rintro e w1 ⟨rfl, hx⟩
  have HB2 := Lib.hid (HB1.out.trans (hx.mono HB1.out.size))
  obtain ⟨R0, R1, R2, R3, R4, R5, R6, R7⟩ := HR1.out.on hx
  clear hx HB1 HR1 HA
  rcases a with _ | _
  all_goals
    go_wp2
    all_goals
      go_ret
      exact ⟨ret_bool (by unfold odd5; rw [Bool.eq_iff_iff]; simp; try omega), HB2.out⟩
set_option maxRecDepth 100000 in
set_option maxHeartbeats 4000000 in
theorem goes_3 (ev c u : Int) (m d x p : Nat) (a : Bool) (am ad aw ap : Option Addr) (cm cd cw cp : Nat) (w : World) (l1 : (m : Int) ≤ 12) (l2 : (d : Int) ≤ 31) (l3 : (x : Int) ≤ 20) (l4 : (p : Int) ≤ 20)
    (hall : ∀ W, Below w.heap.size w W → Calls Tryz.prog 198 #[.slice aw x cw, .func (.func 202) #[] #[]] W fun e w' => e = .returned (.bool (!a)) ∧ Below W.heap.size W w') :
    Calls Tryz.prog 180 #[.agg #[.int .i64 3, .int .i64 ev, .int .i64 c, .int .i64 u, .slice am m cm, .slice ad d cd, .slice aw x cw, .slice ap p cp]] w fun e w' => e = .returned (.bool (!odd5 3 a m d x p)) ∧ Below w.heap.size w w' := by
  have B0 : Below w.heap.size w (w.alloc (.cells #[.int .i64 3, .int .i64 ev, .int .i64 c, .int .i64 u, .slice am m cm, .slice ad d cd, .slice aw x cw, .slice ap p cp] 37)) := (Below.refl _ _).alloc (Nat.le_refl _) _
  have HR := Lib.hid (RBox.new w 3 ev c u (.slice am m cm) (.slice ad d cd) (.slice aw x cw) (.slice ap p cp) 37)
  have HB := Lib.hid B0
  have HA := Lib.hid hall
  clear B0 hall
  go_enter Tryz.func180, Tryz.ntmps180
  go_wp2_with fail
  go_quiet (fail)
  have HB1 := Lib.hid (below_drewN HB.out nq)
  have HR1 := Lib.hid (HR.out.on (below_drewN (Below.refl _ _) nq))
  clear HB HR
  generalize World.drewN (w.alloc (.cells #[.int .i64 3, .int .i64 ev, .int .i64 c, .int .i64 u, .slice am m cm, .slice ad d cd, .slice aw x cw, .slice ap p cp] 37)) nq = W at HB1 HR1 ⊢
  obtain ⟨R0, R1, R2, R3, R4, R5, R6, R7⟩ := id HR1.out
  go_wp2
  all_goals
    go_ret
    exact ⟨ret_bool (by unfold odd5; rw [Bool.eq_iff_iff]; simp; try omega), HB1.out⟩
set_option maxRecDepth 100000 in
set_option maxHeartbeats 4000000 in
theorem goes_4 (ev c u : Int) (m d x p : Nat) (a : Bool) (am ad aw ap : Option Addr) (cm cd cw cp : Nat) (w : World) (l1 : (m : Int) ≤ 12) (l2 : (d : Int) ≤ 31) (l3 : (x : Int) ≤ 20) (_l4 : (p : Int) ≤ 20)
    (hall : ∀ W, Below w.heap.size w W → Calls Tryz.prog 198 #[.slice aw x cw, .func (.func 202) #[] #[]] W fun e w' => e = .returned (.bool (!a)) ∧ Below W.heap.size W w') :
    Calls Tryz.prog 180 #[.agg #[.int .i64 4, .int .i64 ev, .int .i64 c, .int .i64 u, .slice am m cm, .slice ad d cd, .slice aw x cw, .slice ap p cp]] w fun e w' => e = .returned (.bool (!odd5 4 a m d x p)) ∧ Below w.heap.size w w' := by
  have B0 : Below w.heap.size w (w.alloc (.cells #[.int .i64 4, .int .i64 ev, .int .i64 c, .int .i64 u, .slice am m cm, .slice ad d cd, .slice aw x cw, .slice ap p cp] 37)) := (Below.refl _ _).alloc (Nat.le_refl _) _
  have HR := Lib.hid (RBox.new w 4 ev c u (.slice am m cm) (.slice ad d cd) (.slice aw x cw) (.slice ap p cp) 37)
  have HB := Lib.hid B0
  have HA := Lib.hid hall
  clear B0 hall
  go_enter Tryz.func180, Tryz.ntmps180
  go_wp2_with fail
  go_quiet (fail)
  have HB1 := Lib.hid (below_drewN HB.out nq)
  have HR1 := Lib.hid (HR.out.on (below_drewN (Below.refl _ _) nq))
  clear HB HR
  generalize World.drewN (w.alloc (.cells #[.int .i64 4, .int .i64 ev, .int .i64 c, .int .i64 u, .slice am m cm, .slice ad d cd, .slice aw x cw, .slice ap p cp] 37)) nq = W at HB1 HR1 ⊢
  obtain ⟨R0, R1, R2, R3, R4, R5, R6, R7⟩ := id HR1.out
  rcases (by omega : (d = 0 ∧ x = 0 ∧ m = 0) ∨ (d = 0 ∧ x = 0 ∧ 0 < m) ∨ (0 < d ∧ m = 0) ∨ (0 < d ∧ 0 < m) ∨ (d = 0 ∧ 0 < x ∧ m = 0) ∨ (d = 0 ∧ 0 < x ∧ 0 < m)) with ⟨rfl, rfl, rfl⟩ | ⟨rfl, rfl, i2⟩ | ⟨i1, rfl⟩ | ⟨i1, i2⟩ | ⟨rfl, i1, rfl⟩ | ⟨rfl, i1, i2⟩
  all_goals
    go_wp2
    all_goals
      go_ret
      exact ⟨ret_bool (by unfold odd5; rw [Bool.eq_iff_iff]; simp <;> omega), HB1.out⟩
theorem goes_any (r : Rl) (am ad aw ap : Option Addr) (cm cd cw cp : Nat) (w : World) (hw : Nths w (.slice aw r.weeks.length cw) r.weeks) (hl : ok2 r = true) (h1 : 1 ≤ r.freq) (h4 : r.freq ≤ 4) :
    Calls Tryz.prog 180 #[.agg #[.int .i64 r.freq, .int .i64 r.every, .int .i64 r.count, .int .i64 r.till, .slice am r.months.length cm, .slice ad r.days.length cd, .slice aw r.weeks.length cw, .slice ap r.pick.length cp]] w fun e w' => e = .returned (.bool (!oddB r)) ∧ Below w.heap.size w w' := by
  obtain ⟨l1, l2, l3, l4⟩ := ok2_yes hl
  have hall : ∀ W, Below w.heap.size w W → Calls Tryz.prog 198 #[.slice aw r.weeks.length cw, .func (.func 202) #[] #[]] W fun e w' => e = .returned (.bool (!anyN r.weeks)) ∧ Below W.heap.size W w' := fun W hW => by
    have := all_nth _ _ fE each_any _ _ _ (hw.on hW) (by omega)
    rwa [each_all] at this
  rw [odd_eq]
  rcases (by omega : r.freq = 1 ∨ r.freq = 2 ∨ r.freq = 3 ∨ r.freq = 4) with e | e | e | e
  all_goals rw [e]
  · exact goes_1 _ _ _ _ _ _ _ _ _ _ _ _ _ _ _ _ _ l1 l2 l3 l4 hall
  · exact goes_2 _ _ _ _ _ _ _ _ _ _ _ _ _ _ _ _ _ l1 l2 l3 l4 hall
  · exact goes_3 _ _ _ _ _ _ _ _ _ _ _ _ _ _ _ _ _ l1 l2 l3 l4 hall
  · exact goes_4 _ _ _ _ _ _ _ _ _ _ _ _ _ _ _ _ _ l1 l2 l3 l4 hall
end Go.Proofs.YthdohcjingfpoaaGreatDoor
namespace Go.Proofs.YthdohcjingfpoaaGreatDoor
open Go.RowKit Cal Txt

theorem rf_1 {r : Rl} (h : ok1 r = false) : rf r = 1 := by unfold rf; rw [if_pos h]
theorem rf_3 {r : Rl} (h1 : ok1 r = true) (h : ¬ r.count = 0 ∧ ¬ r.till = 0) : rf r = 3 := by unfold rf; rw [if_neg (by rw [h1]; decide), if_pos h]
theorem rf_4 {r : Rl} (h1 : ok1 r = true) (h : ¬ (¬ r.count = 0 ∧ ¬ r.till = 0)) (h2 : ok2 r = false) : rf r = 4 := by unfold rf; rw [if_neg (by rw [h1]; decide), if_neg h, if_pos h2]
theorem rf_5 {r : Rl} (h1 : ok1 r = true) (h : ¬ (¬ r.count = 0 ∧ ¬ r.till = 0)) (h2 : ok2 r = true) (h3 : itemsB r = false) : rf r = 1 := by
  rw [itemsB_eq] at h3
  unfold rf; rw [if_neg (by rw [h1]; decide), if_neg h, if_neg (by rw [h2]; decide)]
  rcases e : ok3 r with _ | _
  · rw [if_pos rfl]
  · rw [e] at h3; simp at h3
    rw [if_neg (by decide), if_pos h3]
theorem rf_7 {r : Rl} (h1 : ok1 r = true) (h : ¬ (¬ r.count = 0 ∧ ¬ r.till = 0)) (h2 : ok2 r = true) (h3 : itemsB r = true) (h4 : ok4 r = false) : rf r = 7 := by
  rw [itemsB_eq] at h3; simp at h3
  unfold rf; rw [if_neg (by rw [h1]; decide), if_neg h, if_neg (by rw [h2]; decide), if_neg (by rw [h3.1]; decide), if_neg (by rw [h3.2]; decide), if_pos h4]
theorem rf_8 {r : Rl} (h1 : ok1 r = true) (h : ¬ (¬ r.count = 0 ∧ ¬ r.till = 0)) (h2 : ok2 r = true) (h3 : itemsB r = true) (h4 : ok4 r = true) (h5 : oddB r = true) : rf r = 3 := by
  rw [itemsB_eq] at h3; simp at h3
  unfold rf; rw [if_neg (by rw [h1]; decide), if_neg h, if_neg (by rw [h2]; decide), if_neg (by rw [h3.1]; decide), if_neg (by rw [h3.2]; decide), if_neg (by rw [h4]; decide), if_pos h5]
theorem rf_0 {r : Rl} (h1 : ok1 r = true) (h : ¬ (¬ r.count = 0 ∧ ¬ r.till = 0)) (h2 : ok2 r = true) (h3 : itemsB r = true) (h4 : ok4 r = true) (h5 : oddB r = false) : rf r = 0 := by
  rw [itemsB_eq] at h3; simp at h3
  unfold rf; rw [if_neg (by rw [h1]; decide), if_neg h, if_neg (by rw [h2]; decide), if_neg (by rw [h3.1]; decide), if_neg (by rw [h3.2]; decide), if_neg (by rw [h4]; decide), if_neg (by rw [h5]; decide)]
theorem ret_fault {v : Value} {k : Int} (h : v = fault k) : Ending.returned v = .returned (fault k) := by rw [h]
theorem both_ways (c u : Int) : ((c != 0) = false ∧ ¬ (¬ c = 0 ∧ ¬ u = 0)) ∨ ((c != 0) = true ∧ (u != 0) = false ∧ ¬ (¬ c = 0 ∧ ¬ u = 0)) ∨ ((c != 0) = true ∧ (u != 0) = true ∧ (¬ c = 0 ∧ ¬ u = 0)) := by
  by_cases hc : c = 0
  · exact Or.inl ⟨by simp [hc], fun k => k.1 hc⟩
  · by_cases hu : u = 0
    · exact Or.inr (Or.inl ⟨by simp [hc], by simp [hu], fun k => k.2 hu⟩)
    · exact Or.inr (Or.inr ⟨by simp [hc], by simp [hu], hc, hu⟩)
set_option maxRecDepth 100000 in
set_option maxHeartbeats 4000000 in
theorem check_walk (r : Rl) (am ad aw ap : Option Addr) (cm cd cw cp : Nat) (w : World) (hm : Ints w (.slice am r.months.length cm) r.months) (hd : Ints w (.slice ad r.days.length cd) r.days) (hw : Nths w (.slice aw r.weeks.length cw) r.weeks) (hp : Ints w (.slice ap r.pick.length cp) r.pick) :
    Calls Tryz.prog 141 #[.agg #[.int .i64 r.freq, .int .i64 r.every, .int .i64 r.count, .int .i64 r.till, .slice am r.months.length cm, .slice ad r.days.length cd, .slice aw r.weeks.length cw, .slice ap r.pick.length cp]] w fun e w' => e = .returned (fault (rf r)) ∧ Below w.heap.size w w' := by
  have B0 : Below w.heap.size w (w.alloc (.cells #[.int .i64 r.freq, .int .i64 r.every, .int .i64 r.count, .int .i64 r.till, .slice am r.months.length cm, .slice ad r.days.length cd, .slice aw r.weeks.length cw, .slice ap r.pick.length cp] 37)) := (Below.refl _ _).alloc (Nat.le_refl _) _
  have HR := Lib.hid (RBox.new w r.freq r.every r.count r.till (.slice am r.months.length cm) (.slice ad r.days.length cd) (.slice aw r.weeks.length cw) (.slice ap r.pick.length cp) 37)
  have HB := Lib.hid B0
  have HM := Lib.hid (hm.on B0)
  have HD := Lib.hid (hd.on B0)
  have HW := Lib.hid (hw.on B0)
  have HP := Lib.hid (hp.on B0)
  clear B0 hm hd hw hp
  go_enter Tryz.func141, Tryz.ntmps141
  go_wp2_with fail
  refine (hasNumbers_any r _ _ _ _ _ _ _ _ _).mono ?_
  rintro e w1 ⟨rfl, hx⟩
  have HR1 := Lib.hid (HR.out.on hx)
  have HB1 := Lib.hid (HB.out.trans (hx.mono HB.out.size))
  have HM1 := Lib.hid (HM.out.on hx)
  have HD1 := Lib.hid (HD.out.on hx)
  have HW1 := Lib.hid (HW.out.on hx)
  have HP1 := Lib.hid (HP.out.on hx)
  clear hx HR HB HM HD HW HP
  rcases h1 : ok1 r with _ | _
  · have N := Lib.hid (rf_1 h1)
    go_wp2
    go_ret
    exact ⟨ret_fault (by rw [N.out]; rfl), HB1.out⟩
  have O1 := Lib.hid h1
  obtain ⟨R0, R1, R2, R3, R4, R5, R6, R7⟩ := id HR1.out
  rcases both_ways r.count r.till with ⟨b1, b2⟩ | ⟨b1, b2, b3⟩ | ⟨b1, b2, b3⟩
  case inr.inr =>
    have N := Lib.hid (rf_3 O1.out b3)
    clear b3
    go_wp2
    go_ret
    exact ⟨ret_fault (by rw [N.out]; rfl), HB1.out⟩
  all_goals
    first
      | have C2 := Lib.hid b3
      | have C2 := Lib.hid b2
    first
      | clear b3
      | clear b2
    go_wp2_with fail
    clear R0 R1 R2 R3 R4 R5 R6 R7
    refine (isTooLong_any r _ _ _ _ _ _ _ _ _).mono ?_
    rintro e w2 ⟨rfl, hx⟩
    have HR2 := Lib.hid (HR1.out.on hx)
    have HB2 := Lib.hid (HB1.out.trans (hx.mono HB1.out.size))
    have HM2 := Lib.hid (HM1.out.on hx)
    have HD2 := Lib.hid (HD1.out.on hx)
    have HW2 := Lib.hid (HW1.out.on hx)
    have HP2 := Lib.hid (HP1.out.on hx)
    clear hx HR1 HB1 HM1 HD1 HW1 HP1
    rcases h2 : ok2 r with _ | _
    · have N := Lib.hid (rf_4 O1.out C2.out h2)
      go_wp2
      go_ret
      exact ⟨ret_fault (by rw [N.out]; rfl), HB2.out⟩
    have O2 := Lib.hid h2
    obtain ⟨R0, R1, R2, R3, R4, R5, R6, R7⟩ := id HR2.out
    go_wp2_with fail
    clear R0 R1 R2 R3 R4 R5 R6 R7
    refine (hasItems_any r _ _ _ _ _ _ _ _ _ HM2.out HD2.out HW2.out HP2.out O2.out).mono ?_
    rintro e w3 ⟨rfl, hx⟩
    have HR3 := Lib.hid (HR2.out.on hx)
    have HB3 := Lib.hid (HB2.out.trans (hx.mono HB2.out.size))
    have HM3 := Lib.hid (HM2.out.on hx)
    have HD3 := Lib.hid (HD2.out.on hx)
    have HW3 := Lib.hid (HW2.out.on hx)
    have HP3 := Lib.hid (HP2.out.on hx)
    clear hx HR2 HB2 HM2 HD2 HW2 HP2
    rcases h3 : itemsB r with _ | _
    · have N := Lib.hid (rf_5 O1.out C2.out O2.out h3)
      go_wp2
      go_ret
      exact ⟨ret_fault (by rw [N.out]; rfl), HB3.out⟩
    have O3 := Lib.hid h3
    obtain ⟨R0, R1, R2, R3, R4, R5, R6, R7⟩ := id HR3.out
    go_wp2_with fail
    clear R0 R1 R2 R3 R4 R5 R6 R7
    refine (isRising_any r _ _ _ _ _ _ _ _ _ HM3.out HD3.out HW3.out HP3.out O2.out).mono ?_
    rintro e w4 ⟨rfl, hx⟩
    have HR4 := Lib.hid (HR3.out.on hx)
    have HB4 := Lib.hid (HB3.out.trans (hx.mono HB3.out.size))
    have HW4 := Lib.hid (HW3.out.on hx)
    clear hx HR3 HB3 HM3 HD3 HW3 HP3
    rcases h4 : ok4 r with _ | _
    · have N := Lib.hid (rf_7 O1.out C2.out O2.out O3.out h4)
      go_wp2
      go_ret
      exact ⟨ret_fault (by rw [N.out]; rfl), HB4.out⟩
    have O4 := Lib.hid h4
    obtain ⟨R0, R1, R2, R3, R4, R5, R6, R7⟩ := id HR4.out
    go_wp2_with fail
    clear R0 R1 R2 R3 R4 R5 R6 R7
    refine (goes_any r _ _ _ _ _ _ _ _ _ HW4.out O2.out (of_decide_eq_true O1.out).1.1 (of_decide_eq_true O1.out).1.2).mono ?_
    rintro e w5 ⟨rfl, hx⟩
    have HB5 := Lib.hid (HB4.out.trans (hx.mono HB4.out.size))
    clear hx HR4 HB4 HW4
    rcases h5 : oddB r with _ | _
    · have N := Lib.hid (rf_0 O1.out C2.out O2.out O3.out O4.out h5)
      go_wp2
      go_ret
      exact ⟨ret_fault (by rw [N.out]; rfl), HB5.out⟩
    · have N := Lib.hid (rf_8 O1.out C2.out O2.out O3.out O4.out h5)
      go_wp2
      go_ret
      exact ⟨ret_fault (by rw [N.out]; rfl), HB5.out⟩
/-- Check, of any rule in memory. -/
theorem check_any (r : Rl) (v : Value) (w : World) (hv : RuleIn w v r) :
    Calls Tryz.prog 141 #[v] w fun e w' => e = .returned (fault (rf r)) ∧ Below w.heap.size w w' := by
  obtain ⟨vm, vd, vw, vp, rfl, hm, hd, hw, hp⟩ := hv
  obtain ⟨am, cm, rfl, x1⟩ := id hm
  obtain ⟨ad, cd, rfl, x2⟩ := id hd
  obtain ⟨aw, cw, rfl, x3⟩ := id hw
  obtain ⟨ap, cp, rfl, x4⟩ := id hp
  exact check_walk r am ad aw ap cm cd cw cp w hm hd hw hp
end Go.Proofs.YthdohcjingfpoaaGreatDoor
