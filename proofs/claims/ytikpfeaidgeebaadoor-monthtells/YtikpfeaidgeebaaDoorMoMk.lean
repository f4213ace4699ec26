/-
  What is proved here: what package month's Marks answers of any list of days (contracts over the translation); the table of months is asked as a premise.
-/
import Derived.Test.YtikpfeaidgeebaaDoorMoMon
import Derived.Test.YtikpfeaidgeebaaDoorRefIn
namespace Go.Proofs.YtikpfeaidgeebaaDoor.Mo
open Go.RowKit Cal Txt

/-- Which days are marked. -/
def mk (l : List Int) : Int → Bool := fun n => l.contains n
theorem mk_nil : mk [] = none0 := by funext n; rfl
/-- Is a day one of the month? -/
def inM (F T n : Int) : Bool := decide (F ≤ n ∧ n ≤ T)
/-- A number in a block of its own. -/
def Nb (w : World) (b : Nat) (n : Int) : Prop := w.cell? ⟨b, 0, none⟩ = some (.int .i64 n)
theorem Nb.on {w w' : World} {b : Nat} {n : Int} (h : Nb w b n) (q : Below w.heap.size w w') : Nb w' b n := (q.cell (p := ⟨b, 0, none⟩) (cin h)).trans h
theorem in_any (F T n : Int) (b1 b2 : Nat) (w : World) (h1 : Nb w b1 F) (h2 : Nb w b2 T) :
    Calls Tryd.prog 29 #[.int .i64 n, .pointer (some ⟨b1, 0, none⟩), .pointer (some ⟨b2, 0, none⟩)] w fun e w' => e = .returned (.bool (inM F T n)) ∧ w' = w := by
  unfold Nb at h1 h2
  have l1 := cin h1
  have l2 := cin h2
  by_cases h : F ≤ n
  · by_cases g : n ≤ T
    · have N : Hid (inM F T n = true) := Lib.hid (decide_eq_true ⟨h, g⟩)
      generalize inM F T n = R at N ⊢
      go_enter Tryd.func29, Tryd.ntmps29
      go_wp2
      go_ret
      exact ⟨ret_bool N.out.symm, rfl⟩
    · have N : Hid (inM F T n = false) := Lib.hid (decide_eq_false (fun q => g q.2))
      generalize inM F T n = R at N ⊢
      go_enter Tryd.func29, Tryd.ntmps29
      go_wp2
      go_ret
      exact ⟨ret_bool N.out.symm, rfl⟩
  · have N : Hid (inM F T n = false) := Lib.hid (decide_eq_false (fun q => h q.1))
    generalize inM F T n = R at N ⊢
    go_enter Tryd.func29, Tryd.ntmps29
    go_wp2
    go_ret
    exact ⟨ret_bool N.out.symm, rfl⟩
theorem above_any (a b : Int) (w : World) :
    Calls Tryd.prog 31 #[.int .i64 a, .int .i64 b] w fun e w' => e = .returned (.bool (decide (b < a))) ∧ w' = w := by
  by_cases h : b < a
  all_goals
    go_enter Tryd.func31, Tryd.ntmps31
    go_wp2
    go_ret
    exact ⟨ret_bool (by first | exact (decide_eq_true h).symm | exact (decide_eq_false h).symm | (simp [h])), rfl⟩
/-- What is answered of where a number stands. -/
def IdxA (l : List Int) (x : Int) (e : Ending) : Prop := ∃ i : Int, e = .returned (.int .i64 i) ∧ decide (i ≥ 0) = l.contains x
set_option maxHeartbeats 1000000 in
theorem index_any (v : Value) (l : List Int) (x : Int) (w : World) (hv : Ints w v l) (hl : l.length ≤ 1000000000) :
    Calls Tryd.prog 42 #[v, .int .i64 x] w fun e w' => IdxA l x e ∧ w' = w := by
  obtain ⟨a, cap, rfl, hc⟩ := hv
  rcases hc with rfl | ⟨b, off, rfl, hc⟩
  · go_enter Tryd.func42, Tryd.ntmps42
    go_wp2
    go_loop [8] (fun i => i = .int .i64 0) (fun _ => 0)
    case atStart => rfl
    case round =>
      subst hrel
      go_wp2
      go_ret
      exact ⟨⟨_, rfl, rfl⟩, rfl⟩
  · have HC := Lib.hid hc
    clear hc
    go_enter Tryd.func42, Tryd.ntmps42
    go_wp2
    go_loop [8] (fun i => ∃ k : Nat, k ≤ l.length ∧ i = .int .i64 k ∧ (l.take k).contains x = false) (fun i => l.length - (intOf i).toNat)
    case atStart => exact ⟨0, Nat.zero_le _, rfl, rfl⟩
    case round =>
      obtain ⟨k, hk, rfl, hF⟩ := hrel
      have HF := Lib.hid hF
      clear hF
      by_cases hlt : k < l.length
      · have ck := HC.out k hlt
        obtain ⟨y, hy⟩ : ∃ y, y = l.getD k 0 := ⟨_, rfl⟩
        rw [← hy] at ck
        have HX := Lib.hid hy
        clear hy
        rcases he : (x == y) with _ | _
        · have N1 := Lib.hid (Zo.has_take hlt HF.out (x := x) (by rw [← HX.out]; intro q; rw [q] at he; simp at he))
          go_wp2
          go_round
          case rel => exact ⟨k + 1, by omega, by go_num, N1.out⟩
          case measure => simp [intOf]; omega
        · have N0 := Lib.hid (Zo.has_hit hlt (x := x) (by rw [← HX.out]; exact (beq_iff_eq.1 he).symm))
          go_wp2
          go_ret
          exact ⟨⟨_, rfl, by rw [N0.out]; exact decide_eq_true (by omega)⟩, rfl⟩
      · have N1 : Hid (l.contains x = false) := Lib.hid (by have := HF.out; rwa [List.take_of_length_le (by omega)] at this)
        go_wp2
        go_ret
        exact ⟨⟨_, rfl, by rw [N1.out]; decide⟩, rfl⟩
theorem contains_any (v : Value) (l : List Int) (x : Int) (w : World) (hv : Ints w v l) (hl : l.length ≤ 1000000000) :
    Calls Tryd.prog 33 #[v, .int .i64 x] w fun e w' => e = .returned (.bool (l.contains x)) ∧ w' = w := by
  have K := Lib.hid (index_any v l x w hv hl)
  obtain ⟨a, cap, rfl, _⟩ := hv
  go_enter Tryd.func33, Tryd.ntmps33
  go_wp2_with fail
  refine K.out.mono ?_
  rintro e w1 ⟨⟨i, rfl, hi⟩, hw⟩
  subst hw
  have HI := Lib.hid hi
  clear hi
  go_wp2
  go_ret
  exact ⟨ret_bool (by rw [← HI.out]), rfl⟩
/-- All are so, as far as a place. -/
theorem all_take {α : Type} (p : α → Bool) (l : List α) (k : Nat) (d : α) (h : k < l.length) (ha : (l.take k).all p = true) (hp : p (l.getD k d) = true) : (l.take (k + 1)).all p = true := by
  rw [List.take_succ_eq_append_getElem h, List.all_append, ha, List.all_cons, List.all_nil]
  rw [List.getD_eq_getElem?_getD, List.getElem?_eq_getElem h] at hp
  simpa using hp
theorem all_not {α : Type} (p : α → Bool) (l : List α) (k : Nat) (d : α) (h : k < l.length) (hp : p (l.getD k d) = false) : l.all p = false := by
  rw [List.getD_eq_getElem?_getD, List.getElem?_eq_getElem h] at hp
  rcases e : l.all p with _ | _
  · rfl
  · have := List.all_eq_true.1 e _ (List.getElem_mem h)
    simp only [Option.getD_some] at hp
    rw [hp] at this; cases this
theorem all_end {α : Type} (p : α → Bool) (l : List α) (k : Nat) (h : ¬ k < l.length) (ha : (l.take k).all p = true) : l.all p = true := by
  rwa [List.take_of_length_le (by omega)] at ha
set_option maxHeartbeats 1000000 in
theorem all_two (g : FuncId) (b1 b2 : Nat) (p : Int → Bool) (eg : ∀ args w, (callFunc g args).run Tryd.prog w = .ok (.enter g args) w)
    (v : Value) (l : List Int) (w : World) (hg : ∀ n, Calls Tryd.prog g #[.int .i64 n, .pointer (some ⟨b1, 0, none⟩), .pointer (some ⟨b2, 0, none⟩)] w fun e w' => e = .returned (.bool (p n)) ∧ w' = w) (hv : Ints w v l) (hl : l.length ≤ 1000) :
    Calls Tryd.prog 28 #[v, .func (.func g) #[] #[.pointer (some ⟨b1, 0, none⟩), .pointer (some ⟨b2, 0, none⟩)]] w fun e w' => e = .returned (.bool (l.all p)) ∧ w' = w := by
  obtain ⟨a, cap, rfl, hc⟩ := hv
  rcases hc with rfl | ⟨b, off, rfl, hc⟩
  · go_enter Tryd.func28, Tryd.ntmps28
    go_wp2
    go_loop [9] (fun i => i = .int .i64 0) (fun _ => 0)
    case atStart => rfl
    case round =>
      subst hrel
      go_wp2
      go_ret
      exact ⟨rfl, rfl⟩
  · have HC := Lib.hid hc
    have HG := Lib.hid hg
    clear hc hg
    go_enter Tryd.func28, Tryd.ntmps28
    go_wp2
    go_loop [9] (fun i => ∃ k : Nat, k ≤ l.length ∧ i = .int .i64 k ∧ (l.take k).all p = true) (fun i => l.length - (intOf i).toNat)
    case atStart => exact ⟨0, Nat.zero_le _, rfl, rfl⟩
    case round =>
      obtain ⟨k, hk, rfl, hF⟩ := hrel
      have HF := Lib.hid hF
      clear hF
      by_cases hlt : k < l.length
      · have ck := HC.out k hlt
        obtain ⟨x, hx⟩ : ∃ x, x = l.getD k 0 := ⟨_, rfl⟩
        rw [← hx] at ck
        have HX := Lib.hid hx
        clear hx
        go_wp2_with fail
        refine (HG.out x).mono ?_
        rintro e w' ⟨rfl, hw⟩
        subst hw
        rcases hp : p x with _ | _
        · have N0 : Hid (l.all p = false) := Lib.hid (all_not p l k 0 hlt (by rw [← HX.out]; exact hp))
          go_wp2
          go_ret
          exact ⟨ret_bool N0.out.symm, rfl⟩
        · have N1 : Hid ((l.take (k + 1)).all p = true) := Lib.hid (all_take p l k 0 hlt HF.out (by rw [← HX.out]; exact hp))
          go_wp2
          go_round
          case rel => exact ⟨k + 1, by omega, by go_num, N1.out⟩
          case measure => simp [intOf]; omega
      · have N1 : Hid (l.all p = true) := Lib.hid (all_end p l k hlt HF.out)
        go_wp2
        go_ret
        exact ⟨ret_bool N1.out.symm, rfl⟩
set_option maxHeartbeats 1000000 in
theorem rises_int (v : Value) (l : List Int) (w : World) (hv : Ints w v l) (hl : l.length ≤ 1000) :
    Calls Tryd.prog 30 #[v, .func (.func 31) #[] #[]] w fun e w' => e = .returned (.bool (risB l)) ∧ Below w.heap.size w w' := by
  obtain ⟨a, cap, rfl, hc⟩ := hv
  rcases hc with rfl | ⟨b, off, rfl, hc⟩
  · go_enter Tryd.func30, Tryd.ntmps30
    go_wp2
    go_loop [5] (fun i => i = .int .i64 1) (fun _ => 0)
    case atStart => rfl
    case round =>
      subst hrel
      go_wp2
      go_ret
      exact ⟨rfl, Below.refl _ _⟩
  · have HC := Lib.hid hc
    clear hc
    go_enter Tryd.func30, Tryd.ntmps30
    go_wp2
    go_loopw [5] (fun i wr => ∃ k : Nat, 1 ≤ k ∧ (k ≤ l.length ∨ k = 1) ∧ i = .int .i64 k ∧ Below w.heap.size w wr ∧ (∀ i, i < l.length → wr.cell? ⟨b, off + i, none⟩ = some (.int .i64 (l.getD i 0))) ∧ ∀ j, j + 1 < k → l.getD j 0 < l.getD (j + 1) 0) (fun i _ => l.length - (intOf i).toNat)
    case atStart => exact ⟨1, by omega, Or.inr rfl, rfl, Below.refl _ _, HC.out, fun j hj => by omega⟩
    case round =>
      obtain ⟨k, k1, hk, rfl, hB, hc, hF⟩ := hrel
      have HF := Lib.hid hF
      have HK := Lib.hid hc
      clear hF hc
      by_cases hlt : k < l.length
      · have ck := HK.out k hlt
        have cj := HK.out (k - 1) (by omega)
        obtain ⟨x, hx⟩ : ∃ x, x = l.getD k 0 := ⟨_, rfl⟩
        obtain ⟨y, hy⟩ : ∃ y, y = l.getD (k - 1) 0 := ⟨_, rfl⟩
        rw [← hx] at ck
        rw [← hy] at cj
        have HX := Lib.hid hx
        have HY := Lib.hid hy
        clear hx hy hk
        have i1 : (0 : Int) ≤ (k : Int) - 1 := by omega
        have i2 : (k : Int) - 1 < (l.length : Int) := by omega
        have i3 : ((k : Int) - 1).toNat = k - 1 := by omega
        by_cases c : y < x
        · have N1 : Hid (∀ j, j + 1 < k + 1 → l.getD j 0 < l.getD (j + 1) 0) := Lib.hid (fun j hj => by
            rcases Nat.lt_or_ge (j + 1) k with g | g
            · exact HF.out j g
            · obtain rfl : j = k - 1 := by omega
              rw [show k - 1 + 1 = k by omega, ← HX.out, ← HY.out]; exact c)
          go_wp2_with fail
          go_quiet ((go_at_call 31; exact Calls.quiet_of_same (above_any _ _ _)))
          go_wp2
          go_roundw
          case rel => exact ⟨k + 1, by omega, Or.inl (by omega), by go_num, below_drewN hB _, HK.out, N1.out⟩
          case measure => simp [intOf]; omega
        · have N0 : Hid (risB l = false) := Lib.hid (risB_not (k - 1) (by omega) (by rw [show k - 1 + 1 = k by omega, ← HX.out, ← HY.out]; exact c))
          have c' : decide (y < x) = false := decide_eq_false c
          clear c
          go_wp2_with fail
          go_quiet ((go_at_call 31; exact Calls.quiet_of_same (above_any _ _ _)))
          go_wp2
          go_ret
          exact ⟨ret_bool N0.out.symm, below_drewN hB _⟩
      · have N1 : Hid (risB l = true) := Lib.hid (risB_iff.2 (fun j hj => HF.out j (by omega)))
        clear hk
        go_wp2
        go_ret
        exact ⟨ret_bool N1.out.symm, hB⟩
theorem has_any (l : List Int) (v : Value) (d : Nat) (n : Int) (w : World) (hd : w.cell? ⟨d, 0, none⟩ = some v) (hv : Ints w v l) (hl : l.length ≤ 1000) :
    Calls Tryd.prog 32 #[.int .i64 n, .pointer (some ⟨d, 0, none⟩)] w fun e w' => e = .returned (.bool (mk l n)) ∧ Below w.heap.size w w' := by
  have K := Lib.hid (contains_any v l n w hv (by omega))
  have dl := cin hd
  clear hv
  go_enter Tryd.func32, Tryd.ntmps32
  go_wp2_with fail
  refine K.out.mono ?_
  rintro e w1 ⟨rfl, hw⟩
  subst hw
  go_wp2
  go_ret
  exact ⟨ret_bool (by unfold mk; rw [List.contains_eq_mem]), Below.refl _ _⟩
end Go.Proofs.YtikpfeaidgeebaaDoor.Mo
