/-
  What is proved here: what package rule's closures and its all answer (contracts over the translation).
  What is proved here: what package rule's all of weekdays and its rises answer (contracts over the translation).
-/
import Derived.Test.YtpplfcfhjpfckaaGreatDoorRuleF
import Derived.BigQuiet
import Derived.Lib.QuietBelow
import Derived.Shelf.Abstract
namespace Go.Proofs.YtpplfcfhjpfckaaGreatDoor
open Go.RowKit Cal Txt

/-- Is a number a month? -/
def monP (n : Int) : Bool := decide (1 ≤ n ∧ n ≤ 12)
/-- Is a number a place? -/
def plaP (n : Int) : Bool := decide (¬ n = 0 ∧ -31 ≤ n ∧ n ≤ 31)
theorem items1_any (n : Int) (w : World) :
    Calls Tryz.prog 103 #[.int .i64 n] w fun e w' => e = .returned (.bool (monP n)) ∧ w' = w := by
  by_cases h : 1 ≤ n ∧ n ≤ 12
  · have N1 : Hid (monP n = true) := Lib.hid (decide_eq_true h)
    obtain ⟨a, b⟩ := h
    go_enter Tryz.func103, Tryz.ntmps103
    go_wp2
    go_ret
    exact ⟨ret_bool (by first | exact N1.out.symm | (rw [N1.out]; first | exact decide_eq_false (by omega) | exact decide_eq_true (by omega))), rfl⟩
  · have N1 : Hid (monP n = false) := Lib.hid (decide_eq_false h)
    rcases (by omega : n < 1 ∨ (1 ≤ n ∧ 12 < n)) with a | ⟨a, b⟩
    all_goals
      go_enter Tryz.func103, Tryz.ntmps103
      go_wp2
      go_ret
      exact ⟨ret_bool (by first | exact N1.out.symm | (rw [N1.out]; first | exact decide_eq_false (by omega) | exact decide_eq_true (by omega))), rfl⟩
theorem items2_any (n : Int) (w : World) :
    Calls Tryz.prog 104 #[.int .i64 n] w fun e w' => e = .returned (.bool (plaP n)) ∧ w' = w := by
  by_cases h : ¬ n = 0 ∧ -31 ≤ n ∧ n ≤ 31
  · have N1 : Hid (plaP n = true) := Lib.hid (decide_eq_true h)
    obtain ⟨c, a, b⟩ := h
    have c' : (n != 0) = true := by simp [c]
    clear c
    go_enter Tryz.func104, Tryz.ntmps104
    go_wp2
    go_ret
    exact ⟨ret_bool (by first | exact N1.out.symm | (rw [N1.out]; first | exact decide_eq_false (by omega) | exact decide_eq_true (by omega))), rfl⟩
  · have N1 : Hid (plaP n = false) := Lib.hid (decide_eq_false h)
    have e0 : (n != 0) = false ↔ n = 0 := by simp
    have e1 : (n != 0) = true ↔ ¬ n = 0 := by simp
    rcases (by rw [e0, e1]; omega : (n != 0) = false ∨ ((n != 0) = true ∧ n < -31) ∨ ((n != 0) = true ∧ -31 ≤ n ∧ 31 < n)) with a | ⟨a, b⟩ | ⟨a, b, c⟩
    all_goals
      clear e0 e1 h
      go_enter Tryz.func104, Tryz.ntmps104
      go_wp2
      go_ret
      exact ⟨ret_bool (by first | exact N1.out.symm | (rw [N1.out]; first | exact decide_eq_false (by omega) | exact decide_eq_true (by omega))), rfl⟩
/-- Is a weekday one that may be? -/
def wkP (x : Int × Int) : Bool := decide (1 ≤ x.2 ∧ x.2 ≤ 7 ∧ -5 ≤ x.1 ∧ x.1 ≤ 5)
theorem items3_any (x : Int × Int) (w : World) :
    Calls Tryz.prog 105 #[.agg #[.int .i64 x.1, .int .i64 x.2]] w fun e w' => e = .returned (.bool (wkP x)) ∧ Below w.heap.size w w' := by
  obtain ⟨n, k⟩ := x
  show Calls Tryz.prog 105 #[.agg #[.int .i64 n, .int .i64 k]] w fun e w' => e = .returned (.bool (wkP (n, k))) ∧ Below w.heap.size w w'
  by_cases h : 1 ≤ k ∧ k ≤ 7 ∧ -5 ≤ n ∧ n ≤ 5
  · have N1 : Hid (wkP (n, k) = true) := Lib.hid (decide_eq_true h)
    obtain ⟨a, b, c, d⟩ := h
    go_enter Tryz.func105, Tryz.ntmps105
    go_wp2
    go_ret
    exact ⟨ret_bool (by first | exact N1.out.symm | (rw [N1.out]; first | exact decide_eq_false (by omega) | exact decide_eq_true (by omega))), (Below.refl _ _).alloc (Nat.le_refl _) _⟩
  · have N1 : Hid (wkP (n, k) = false) := Lib.hid (decide_eq_false h)
    rcases (by omega : k < 1 ∨ (1 ≤ k ∧ 7 < k) ∨ (1 ≤ k ∧ k ≤ 7 ∧ n < -5) ∨ (1 ≤ k ∧ k ≤ 7 ∧ -5 ≤ n ∧ 5 < n)) with a | ⟨a, b⟩ | ⟨a, b, c⟩ | ⟨a, b, c, d⟩
    all_goals
      go_enter Tryz.func105, Tryz.ntmps105
      go_wp2
      go_ret
      exact ⟨ret_bool (by first | exact N1.out.symm | (rw [N1.out]; first | exact decide_eq_false (by omega) | exact decide_eq_true (by omega))), (Below.refl _ _).alloc (Nat.le_refl _) _⟩
theorem each_any (x : Int × Int) (w : World) :
    Calls Tryz.prog 110 #[.agg #[.int .i64 x.1, .int .i64 x.2]] w fun e w' => e = .returned (.bool (x.1 == 0)) ∧ Below w.heap.size w w' := by
  go_enter Tryz.func110, Tryz.ntmps110
  go_wp2
  go_ret
  exact ⟨rfl, (Below.refl _ _).alloc (Nat.le_refl _) _⟩
theorem above_any (a b : Int) (w : World) :
    Calls Tryz.prog 107 #[.int .i64 a, .int .i64 b] w fun e w' => e = .returned (.bool (decide (b < a))) ∧ w' = w := by
  by_cases h : b < a
  · have N1 := Lib.hid (decide_eq_true h)
    go_enter Tryz.func107, Tryz.ntmps107
    go_wp2
    go_ret
    exact ⟨ret_bool (by first | exact N1.out.symm | (rw [N1.out]; first | exact decide_eq_false (by omega) | exact decide_eq_true (by omega))), rfl⟩
  · have N1 := Lib.hid (decide_eq_false h)
    go_enter Tryz.func107, Tryz.ntmps107
    go_wp2
    go_ret
    exact ⟨ret_bool (by first | exact N1.out.symm | (rw [N1.out]; first | exact decide_eq_false (by omega) | exact decide_eq_true (by omega))), rfl⟩
/-- Is a weekday ahead of another? -/
def wltB (a b : Int × Int) : Bool := decide (a.2 < b.2 ∨ (a.2 = b.2 ∧ a.1 < b.1))
theorem behind_any (x y : Int × Int) (w : World) :
    Calls Tryz.prog 108 #[.agg #[.int .i64 x.1, .int .i64 x.2], .agg #[.int .i64 y.1, .int .i64 y.2]] w fun e w' => e = .returned (.bool (wltB y x)) ∧ Below w.heap.size w w' := by
  obtain ⟨n, k⟩ := x
  obtain ⟨m, j⟩ := y
  show Calls Tryz.prog 108 #[.agg #[.int .i64 n, .int .i64 k], .agg #[.int .i64 m, .int .i64 j]] w fun e w' => e = .returned (.bool (wltB (m, j) (n, k))) ∧ Below w.heap.size w w'
  by_cases h : j < k ∨ (j = k ∧ m < n)
  · have N1 : Hid (wltB (m, j) (n, k) = true) := Lib.hid (decide_eq_true h)
    rcases h with a | ⟨a, b⟩
    · go_enter Tryz.func108, Tryz.ntmps108
      go_wp2
      go_ret
      exact ⟨ret_bool (by first | exact N1.out.symm | (rw [N1.out]; first | exact decide_eq_false (by omega) | exact decide_eq_true (by omega))), ((Below.refl _ _).alloc (Nat.le_refl _) _).alloc (by simp) _⟩
    · subst a
      go_enter Tryz.func108, Tryz.ntmps108
      go_wp2
      go_ret
      exact ⟨ret_bool (by first | exact N1.out.symm | (rw [N1.out]; first | exact decide_eq_false (by omega) | exact decide_eq_true (by omega))), ((Below.refl _ _).alloc (Nat.le_refl _) _).alloc (by simp) _⟩
  · have N1 : Hid (wltB (m, j) (n, k) = false) := Lib.hid (decide_eq_false h)
    rcases (by omega : (j = k ∧ n ≤ m) ∨ k < j) with ⟨a, b⟩ | a
    · subst a
      go_enter Tryz.func108, Tryz.ntmps108
      go_wp2
      go_ret
      exact ⟨ret_bool (by first | exact N1.out.symm | (rw [N1.out]; first | exact decide_eq_false (by omega) | exact decide_eq_true (by omega))), ((Below.refl _ _).alloc (Nat.le_refl _) _).alloc (by simp) _⟩
    · have b : (k == j) = false := by simp; omega
      go_enter Tryz.func108, Tryz.ntmps108
      go_wp2
      go_ret
      exact ⟨ret_bool (by first | exact N1.out.symm | (rw [N1.out]; first | exact decide_eq_false (by omega) | exact decide_eq_true (by omega))), ((Below.refl _ _).alloc (Nat.le_refl _) _).alloc (by simp) _⟩
/-- All are so, as far as a place. -/
theorem all_take {α : Type} (p : α → Bool) (l : List α) (k : Nat) (d : α) (h : k < l.length) (ha : (l.take k).all p = true) (hp : p (l.getD k d) = true) : (l.take (k + 1)).all p = true := by
  rw [List.take_succ_eq_append_getElem h, List.all_append, ha, List.all_cons, List.all_nil]
  rw [List.getD_eq_getElem?_getD, List.getElem?_eq_getElem h] at hp
  simpa using hp
theorem all_not {α : Type} (p : α → Bool) (l : List α) (k : Nat) (d : α) (h : k < l.length) (hp : p (l.getD k d) = false) : l.all p = false := by
  rw [List.getD_eq_getElem?_getD, List.getElem?_eq_getElem h] at hp
  rcases e : l.all p with _ | _
  · rfl
  · have := List.all_eq_true.1 e _ (List.getElem_mem h)
    simp only [Option.getD_some] at hp
    rw [hp] at this; cases this
theorem all_end {α : Type} (p : α → Bool) (l : List α) (k : Nat) (h : ¬ k < l.length) (ha : (l.take k).all p = true) : l.all p = true := by
  rwa [List.take_of_length_le (by omega)] at ha
set_option maxHeartbeats 1000000 in
theorem all_int (g : FuncId) (p : Int → Bool) (eg : ∀ args w, (callFunc g args).run Tryz.prog w = .ok (.enter g args) w)
    (hg : ∀ n W, Calls Tryz.prog g #[.int .i64 n] W fun e w' => e = .returned (.bool (p n)) ∧ w' = W) (v : Value) (l : List Int) (w : World) (hv : Ints w v l) (hl : l.length ≤ 1000) :
    Calls Tryz.prog 51 #[v, .func (.func g) #[] #[]] w fun e w' => e = .returned (.bool (l.all p)) ∧ w' = w := by
  obtain ⟨a, cap, rfl, hc⟩ := hv
  rcases hc with rfl | ⟨b, off, rfl, hc⟩
  · go_enter Tryz.func51, Tryz.ntmps51
    go_wp2
    go_loop [9] (fun i => i = .int .i64 0) (fun _ => 0)
    case atStart => rfl
    case round =>
      subst hrel
      go_wp2
      go_ret
      exact ⟨rfl, rfl⟩
  · have HC := Lib.hid hc
    have HG := Lib.hid hg
    clear hc hg
    go_enter Tryz.func51, Tryz.ntmps51
    go_wp2
    go_loop [9] (fun i => ∃ k : Nat, k ≤ l.length ∧ i = .int .i64 k ∧ (l.take k).all p = true) (fun i => l.length - (intOf i).toNat)
    case atStart => exact ⟨0, Nat.zero_le _, rfl, rfl⟩
    case round =>
      obtain ⟨k, hk, rfl, hF⟩ := hrel
      have HF := Lib.hid hF
      clear hF
      by_cases hlt : k < l.length
      · have ck := HC.out k hlt
        obtain ⟨x, hx⟩ : ∃ x, x = l.getD k 0 := ⟨_, rfl⟩
        rw [← hx] at ck
        have HX := Lib.hid hx
        clear hx
        go_wp2_with fail
        refine (HG.out x _).mono ?_
        rintro e w' ⟨rfl, hw⟩
        subst hw
        rcases hp : p x with _ | _
        · have N0 : Hid (l.all p = false) := Lib.hid (all_not p l k 0 hlt (by rw [← HX.out]; exact hp))
          go_wp2
          go_ret
          exact ⟨ret_bool N0.out.symm, rfl⟩
        · have N1 : Hid ((l.take (k + 1)).all p = true) := Lib.hid (all_take p l k 0 hlt HF.out (by rw [← HX.out]; exact hp))
          go_wp2
          go_round
          case rel => exact ⟨k + 1, by omega, by go_num, N1.out⟩
          case measure => simp [intOf]; omega
      · have N1 : Hid (l.all p = true) := Lib.hid (all_end p l k hlt HF.out)
        go_wp2
        go_ret
        exact ⟨ret_bool N1.out.symm, rfl⟩
end Go.Proofs.YtpplfcfhjpfckaaGreatDoor
namespace Go.Proofs.YtpplfcfhjpfckaaGreatDoor
open Go.RowKit Cal Txt

set_option maxHeartbeats 1000000 in
theorem all_nth (g : FuncId) (p : Int × Int → Bool) (eg : ∀ args w, (callFunc g args).run Tryz.prog w = .ok (.enter g args) w)
    (hg : ∀ (x : Int × Int) W, Calls Tryz.prog g #[.agg #[.int .i64 x.1, .int .i64 x.2]] W fun e w' => e = .returned (.bool (p x)) ∧ Below W.heap.size W w') (v : Value) (l : List (Int × Int)) (w : World) (hv : Nths w v l) (hl : l.length ≤ 1000) :
    Calls Tryz.prog 106 #[v, .func (.func g) #[] #[]] w fun e w' => e = .returned (.bool (l.all p)) ∧ Below w.heap.size w w' := by
  have HV := Lib.hid hv
  obtain ⟨a, cap, rfl, hc⟩ := hv
  rcases hc with rfl | ⟨b, off, rfl, hc⟩
  · go_enter Tryz.func106, Tryz.ntmps106
    go_wp2
    go_loop [9] (fun i => i = .int .i64 0) (fun _ => 0)
    case atStart => rfl
    case round =>
      subst hrel
      go_wp2
      go_ret
      exact ⟨rfl, Below.refl _ _⟩
  · have HG := Lib.hid hg
    clear hc hg
    go_enter Tryz.func106, Tryz.ntmps106
    go_wp2
    go_loopw [9] (fun i wr => ∃ k : Nat, k ≤ l.length ∧ i = .int .i64 k ∧ (l.take k).all p = true ∧ Below w.heap.size w wr) (fun i _ => l.length - (intOf i).toNat)
    case atStart => exact ⟨0, Nat.zero_le _, rfl, rfl, Below.refl _ _⟩
    case round =>
      obtain ⟨k, hk, rfl, hF, hB⟩ := hrel
      have HF := Lib.hid hF
      clear hF
      by_cases hlt : k < l.length
      · obtain ⟨a', c', e', hc⟩ := HV.out.on hB
        rcases hc with hc | ⟨b', off', ea, hc⟩
        · rw [hc] at hlt; simp at hlt
        obtain ⟨⟨rfl, rfl⟩, rfl⟩ : (b = b' ∧ off = off') ∧ cap = c' := by simpa [ea] using e'
        obtain ⟨k1, k2⟩ := hc k hlt
        obtain ⟨x, hx⟩ : ∃ x, x = l.getD k (0, 0) := ⟨_, rfl⟩
        rw [← hx] at k1 k2
        have HX := Lib.hid hx
        clear hx hc ea e'
        go_wp2_with fail
        refine (HG.out x _).mono ?_
        rintro e w' ⟨rfl, hb⟩
        have hB2 := (hB.alloc hB.size _).trans (hb.mono (hB.alloc hB.size _).size)
        clear hb
        rcases hp : p x with _ | _
        · have N0 : Hid (l.all p = false) := Lib.hid (all_not p l k (0, 0) hlt (by rw [← HX.out]; exact hp))
          go_wp2
          go_ret
          exact ⟨ret_bool N0.out.symm, hB2⟩
        · have N1 : Hid ((l.take (k + 1)).all p = true) := Lib.hid (all_take p l k (0, 0) hlt HF.out (by rw [← HX.out]; exact hp))
          go_wp2
          go_roundw
          case rel => exact ⟨k + 1, by omega, by go_num, N1.out, hB2⟩
          case measure => simp [intOf]; omega
      · have N1 : Hid (l.all p = true) := Lib.hid (all_end p l k hlt HF.out)
        go_wp2
        go_ret
        exact ⟨ret_bool N1.out.symm, hB⟩
set_option maxHeartbeats 1000000 in
theorem rises_int (v : Value) (l : List Int) (w : World) (hv : Ints w v l) (hl : l.length ≤ 1000) :
    Calls Tryz.prog 53 #[v, .func (.func 107) #[] #[]] w fun e w' => e = .returned (.bool (risB l)) ∧ Below w.heap.size w w' := by
  obtain ⟨a, cap, rfl, hc⟩ := hv
  rcases hc with rfl | ⟨b, off, rfl, hc⟩
  · go_enter Tryz.func53, Tryz.ntmps53
    go_wp2
    go_loop [5] (fun i => i = .int .i64 1) (fun _ => 0)
    case atStart => rfl
    case round =>
      subst hrel
      go_wp2
      go_ret
      exact ⟨rfl, Below.refl _ _⟩
  · have HC := Lib.hid hc
    clear hc
    go_enter Tryz.func53, Tryz.ntmps53
    go_wp2
    go_loopw [5] (fun i wr => ∃ k : Nat, 1 ≤ k ∧ (k ≤ l.length ∨ k = 1) ∧ i = .int .i64 k ∧ Below w.heap.size w wr ∧ (∀ i, i < l.length → wr.cell? ⟨b, off + i, none⟩ = some (.int .i64 (l.getD i 0))) ∧ ∀ j, j + 1 < k → l.getD j 0 < l.getD (j + 1) 0) (fun i _ => l.length - (intOf i).toNat)
    case atStart => exact ⟨1, by omega, Or.inr rfl, rfl, Below.refl _ _, HC.out, fun j hj => by omega⟩
    case round =>
      obtain ⟨k, k1, hk, rfl, hB, hc, hF⟩ := hrel
      have HF := Lib.hid hF
      have HK := Lib.hid hc
      clear hF hc
      by_cases hlt : k < l.length
      · have ck := HK.out k hlt
        have cj := HK.out (k - 1) (by omega)
        obtain ⟨x, hx⟩ : ∃ x, x = l.getD k 0 := ⟨_, rfl⟩
        obtain ⟨y, hy⟩ : ∃ y, y = l.getD (k - 1) 0 := ⟨_, rfl⟩
        rw [← hx] at ck
        rw [← hy] at cj
        have HX := Lib.hid hx
        have HY := Lib.hid hy
        clear hx hy hk
        have i1 : (0 : Int) ≤ (k : Int) - 1 := by omega
        have i2 : (k : Int) - 1 < (l.length : Int) := by omega
        have i3 : ((k : Int) - 1).toNat = k - 1 := by omega
        by_cases c : y < x
        · have N1 : Hid (∀ j, j + 1 < k + 1 → l.getD j 0 < l.getD (j + 1) 0) := Lib.hid (fun j hj => by
            rcases Nat.lt_or_ge (j + 1) k with g | g
            · exact HF.out j g
            · obtain rfl : j = k - 1 := by omega
              rw [show k - 1 + 1 = k by omega, ← HX.out, ← HY.out]; exact c)
          go_wp2_with fail
          go_quiet ((go_at_call 107; exact Calls.quiet_of_same (above_any _ _ _)))
          go_wp2
          go_roundw
          case rel => exact ⟨k + 1, by omega, Or.inl (by omega), by go_num, below_drewN hB _, HK.out, N1.out⟩
          case measure => simp [intOf]; omega
        · have N0 : Hid (risB l = false) := Lib.hid (risB_not (k - 1) (by omega) (by rw [show k - 1 + 1 = k by omega, ← HX.out, ← HY.out]; exact c))
          have c' : decide (y < x) = false := decide_eq_false c
          clear c
          go_wp2_with fail
          go_quiet ((go_at_call 107; exact Calls.quiet_of_same (above_any _ _ _)))
          go_wp2
          go_ret
          exact ⟨ret_bool N0.out.symm, below_drewN hB _⟩
      · have N1 : Hid (risB l = true) := Lib.hid (risB_iff.2 (fun j hj => HF.out j (by omega)))
        clear hk
        go_wp2
        go_ret
        exact ⟨ret_bool N1.out.symm, hB⟩
theorem wri_next {l : List (Int × Int)} {k : Nat} (k1 : 1 ≤ k) (hF : ∀ j, j + 1 < k → wltB (l.getD j (0, 0)) (l.getD (j + 1) (0, 0)) = true) (h : wltB (l.getD (k - 1) (0, 0)) (l.getD k (0, 0)) = true) : ∀ j, j + 1 < k + 1 → wltB (l.getD j (0, 0)) (l.getD (j + 1) (0, 0)) = true := fun j hj => by
  rcases Nat.lt_or_ge (j + 1) k with g | g
  · exact hF j g
  · obtain rfl : j = k - 1 := by omega
    rw [show k - 1 + 1 = k by omega]; exact h
theorem wri_not {l : List (Int × Int)} {k : Nat} (k1 : 1 ≤ k) (hk : k < l.length) (h : wltB (l.getD (k - 1) (0, 0)) (l.getD k (0, 0)) = false) : wriB l = false := by
  rcases e : wriB l with _ | _
  · rfl
  · have := wriB_iff.1 e (k - 1) (by omega)
    rw [show k - 1 + 1 = k by omega] at this
    have h2 := of_decide_eq_false h
    exact absurd this h2
theorem wri_yes {l : List (Int × Int)} {k : Nat} (hk : ¬ k < l.length) (hF : ∀ j, j + 1 < k → wltB (l.getD j (0, 0)) (l.getD (j + 1) (0, 0)) = true) : wriB l = true :=
  wriB_iff.2 (fun j hj => by have := hF j (by omega); unfold wltB at this; simpa [wlt] using this)
set_option maxRecDepth 100000 in
set_option maxHeartbeats 2000000 in
theorem rises_nth (v : Value) (l : List (Int × Int)) (w : World) (hv : Nths w v l) (hl : l.length ≤ 1000) :
    Calls Tryz.prog 109 #[v, .func (.func 108) #[] #[]] w fun e w' => e = .returned (.bool (wriB l)) ∧ Below w.heap.size w w' := by
  have HV := Lib.hid hv
  obtain ⟨a, cap, rfl, hc⟩ := hv
  rcases hc with rfl | ⟨b, off, rfl, hc⟩
  · go_enter Tryz.func109, Tryz.ntmps109
    go_wp2
    go_loop [5] (fun i => i = .int .i64 1) (fun _ => 0)
    case atStart => rfl
    case round =>
      subst hrel
      go_wp2
      go_ret
      exact ⟨rfl, Below.refl _ _⟩
  · clear hc
    go_enter Tryz.func109, Tryz.ntmps109
    go_wp2
    go_loopw [5] (fun i wr => ∃ k : Nat, 1 ≤ k ∧ (k ≤ l.length ∨ k = 1) ∧ i = .int .i64 k ∧ Below w.heap.size w wr ∧ ∀ j, j + 1 < k → wltB (l.getD j (0, 0)) (l.getD (j + 1) (0, 0)) = true) (fun i _ => l.length - (intOf i).toNat)
    case atStart => exact ⟨1, by omega, Or.inr rfl, rfl, Below.refl _ _, fun j hj => by omega⟩
    case round =>
      obtain ⟨k, k1, hk, rfl, hB, hF⟩ := hrel
      have HF := Lib.hid hF
      clear hF
      by_cases hlt : k < l.length
      · obtain ⟨a', c', e', hc⟩ := HV.out.on hB
        rcases hc with hc | ⟨b', off', ea, hc⟩
        · rw [hc] at hlt; simp at hlt
        obtain ⟨⟨rfl, rfl⟩, rfl⟩ : (b = b' ∧ off = off') ∧ cap = c' := by simpa [ea] using e'
        obtain ⟨q1, q2⟩ := hc k hlt
        obtain ⟨q3, q4⟩ := hc (k - 1) (by omega)
        obtain ⟨x, hx⟩ : ∃ x, x = l.getD k (0, 0) := ⟨_, rfl⟩
        obtain ⟨y, hy⟩ : ∃ y, y = l.getD (k - 1) (0, 0) := ⟨_, rfl⟩
        rw [← hx] at q1 q2
        rw [← hy] at q3 q4
        have HX := Lib.hid hx
        have HY := Lib.hid hy
        clear hx hy hk hc ea e'
        have i1 : (0 : Int) ≤ (k : Int) - 1 := by omega
        have i2 : (k : Int) - 1 < (l.length : Int) := by omega
        have i3 : ((k : Int) - 1).toNat = k - 1 := by omega
        have i0 : (1 : Int) ≤ (k : Int) := by omega
        have i4 : IntKind.i64.wrap ((k : Int) - 1) = (k : Int) - 1 := by rw [IntKind.wrap_i64]; omega
        have r1 := cell_regrown q1
        have r2 := cell_regrown q2
        have r3 := cell_regrown q3
        have r4 := cell_regrown q4
        rcases c : wltB y x with _ | _
        · have N0 : Hid (wriB l = false) := Lib.hid (wri_not k1 hlt (by rw [← HX.out, ← HY.out]; exact c))
          go_wp2_with fail
          refine wp_region_quiet_below (by kernel_rfl) (by kernel_rfl) ?_
          repeat (quiet_step ((go_at_call 108; exact Calls.regrown_of (behind_any x y _))))
          refine wpQuiet_nil ?_
          intro _ hw'
          obtain ⟨⟨dq, osq⟩, hw''⟩ := hw'
          subst hw''
          have hB2 := hB.trans ((below_regrown wr dq osq).mono hB.size)
          generalize Sort.grow (redrawn wr dq) osq = W3 at hB2 ⊢
          clear r1 r2 r3 r4 q1 q2 q3 q4
          go_wp2
          go_ret
          exact ⟨ret_bool N0.out.symm, hB2⟩
        · have N1 := Lib.hid (wri_next k1 HF.out (by rw [← HX.out, ← HY.out]; exact c))
          go_wp2_with fail
          refine wp_region_quiet_below (by kernel_rfl) (by kernel_rfl) ?_
          repeat (quiet_step ((go_at_call 108; exact Calls.regrown_of (behind_any x y _))))
          refine wpQuiet_nil ?_
          intro _ hw'
          obtain ⟨⟨dq, osq⟩, hw''⟩ := hw'
          subst hw''
          have hB2 := hB.trans ((below_regrown wr dq osq).mono hB.size)
          generalize Sort.grow (redrawn wr dq) osq = W3 at hB2 ⊢
          clear r1 r2 r3 r4 q1 q2 q3 q4
          go_wp2
          go_roundw
          case rel => exact ⟨k + 1, by omega, Or.inl (by omega), by go_num, hB2, N1.out⟩
          case measure => simp [intOf]; omega
      · have N1 := Lib.hid (wri_yes hlt HF.out)
        clear hk
        go_wp2
        go_ret
        exact ⟨ret_bool N1.out.symm, hB⟩
end Go.Proofs.YtpplfcfhjpfckaaGreatDoor
