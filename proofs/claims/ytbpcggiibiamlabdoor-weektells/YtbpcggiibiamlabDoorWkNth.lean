/-
  What is proved here: what week.isNth, Nth and Which answer, for every input (contracts over the translation); the table of months is asked as a premise.
-/
import Derived.Test.YtbpcggiibiamlabDoorWkDay
namespace Go.Proofs.YtbpcggiibiamlabDoor
open Go.RowKit Cal

/-- A weekday with its number lies in a block. -/
def Two (W : World) (b : Nat) (N k : Int) : Prop := W.cell? ⟨b, 0, none⟩ = some (.int .i64 N) ∧ W.cell? ⟨b, 1, none⟩ = some (.int .i64 k)
theorem Two.lt {W : World} {b : Nat} {N k : Int} (h : Two W b N k) : b < W.heap.size := by
  have k := h.1
  rcases Nat.lt_or_ge b W.heap.size with q | q
  · exact q
  · simp [World.cell?, Array.getElem?_eq_none q] at k
theorem Two.on {W W' : World} {b : Nat} {N k : Int} (h : Two W b N k) (q : Below W.heap.size W W') : Two W' b N k :=
  ⟨(q.cell (p := ⟨b, 0, none⟩) h.lt).trans h.1, (q.cell (p := ⟨b, 1, none⟩) h.lt).trans h.2⟩
theorem Two.new (W : World) (N k : Int) (t : TypeId) : Two (W.alloc (.cells #[.int .i64 N, .int .i64 k] t)) W.heap.size N k := ⟨by simp, by simp⟩

/-- May a weekday be asked for so? -/
def isN (N k : Int) : Prop := 1 ≤ k ∧ k ≤ 7 ∧ ¬ N = 0 ∧ -5 ≤ N ∧ N ≤ 5
theorem isNth_yes (N k : Int) (w : World) (h : isN N k) :
    Calls Tryd.prog 29 #[.agg #[.int .i64 N, .int .i64 k]] w fun e w' => e = .returned (.bool true) ∧ Below w.heap.size w w' := by
  obtain ⟨h1, h2, h3, h4, h5⟩ := h
  have h6 : (N != 0) = true := by simp [h3]
  go_enter Tryd.func29, Tryd.ntmps29
  go_wp2
  go_ret
  exact ⟨rfl, (Below.refl _ _).alloc (Nat.le_refl _) _⟩
theorem isNth_no (N k : Int) (w : World) (h : ¬ isN N k) :
    Calls Tryd.prog 29 #[.agg #[.int .i64 N, .int .i64 k]] w fun e w' => e = .returned (.bool false) ∧ Below w.heap.size w w' := by
  have hc : k < 1 ∨ (1 ≤ k ∧ 7 < k) ∨ (1 ≤ k ∧ k ≤ 7 ∧ (N != 0) = false) ∨ (1 ≤ k ∧ k ≤ 7 ∧ (N != 0) = true ∧ N < -5) ∨ (1 ≤ k ∧ k ≤ 7 ∧ (N != 0) = true ∧ -5 ≤ N ∧ 5 < N) := by
    unfold isN at h
    have e : (N != 0) = false ↔ N = 0 := by simp
    have e' : (N != 0) = true ↔ ¬ N = 0 := by simp
    rw [e, e']; omega
  clear h
  rcases hc with c | ⟨c, d⟩ | ⟨c, d, e⟩ | ⟨c, d, e, f⟩ | ⟨c, d, e, f, g⟩
  all_goals
    go_enter Tryd.func29, Tryd.ntmps29
    go_wp2
    go_ret
    first
      | exact ⟨rfl, (Below.refl _ _).alloc (Nat.le_refl _) _⟩
      | exact ⟨ret_bool (by simp; omega), (Below.refl _ _).alloc (Nat.le_refl _) _⟩
theorem weekday_wd (n : Int) (w : World) (h1 : 1 ≤ n) (h2 : n ≤ 109573) :
    Calls Tryd.prog 21 #[.int .i64 n] w fun e w' => e = .returned (.tuple #[.int .i64 (wd n), .nilIface]) ∧ w' = w := weekday_yes n w h1 h2
theorem nth_bad (y m N k : Int) (w : World) (hT : Tab w) (h : ¬ (1900 ≤ y ∧ y ≤ 2199 ∧ 1 ≤ m ∧ m ≤ 12 ∧ isN N k)) :
    Calls Tryd.prog 15 #[.int .i64 y, .int .i64 m, .agg #[.int .i64 N, .int .i64 k]] w fun e w' => e = .returned (.tuple #[.int .i64 0, errRange]) ∧ Below w.heap.size w w' := by
  by_cases hd : 1900 ≤ y ∧ y ≤ 2199 ∧ 1 ≤ m ∧ m ≤ 12
  · have HN := Lib.hid (show ¬ isN N k from fun q => h ⟨hd.1, hd.2.1, hd.2.2.1, hd.2.2.2, q⟩)
    obtain ⟨h1, h2, h3, h4⟩ := hd
    clear h
    have T0 := hT.alloc (.cells #[.int .i64 N, .int .i64 k] 23)
    go_enter Tryd.func15, Tryd.ntmps15
    go_wp2_with fail
    refine (days_yes y m _ T0 h1 h2 h3 h4).mono ?_
    rintro e w1 ⟨rfl, hw⟩
    subst hw
    go_wp2_with fail
    refine (isNth_no N k _ HN.out).mono ?_
    rintro e w2 ⟨rfl, hb⟩
    go_wp2
    go_ret2
    exact ⟨rfl, ((Below.refl _ _).alloc (Nat.le_refl _) _).trans (hb.mono (by simp))⟩
  · have H := Lib.hid hd
    clear h hd
    go_enter Tryd.func15, Tryd.ntmps15
    go_wp2_with fail
    refine (days_no y m _ H.out).mono ?_
    rintro e w1 ⟨rfl, hw⟩
    subst hw
    go_wp2
    go_ret2
    exact ⟨rfl, (Below.refl _ _).alloc (Nat.le_refl _) _⟩
set_option maxHeartbeats 2000000 in
theorem nth_walk (y m N k : Int) (w : World) (hT : Tab w) (h1 : 1900 ≤ y) (h2 : y ≤ 2199) (h3 : 1 ≤ m) (h4 : m ≤ 12) (h5 : isN N k) :
    Calls Tryd.prog 15 #[.int .i64 y, .int .i64 m, .agg #[.int .i64 N, .int .i64 k]] w fun e w' => ((hasW (num y m 1) (ml y m) N k ∧ e = .returned (.tuple #[.int .i64 (nthW (num y m 1) (ml y m) N k), .nilIface])) ∨ (¬ hasW (num y m 1) (ml y m) N k ∧ e = .returned (.tuple #[.int .i64 0, .iface 52 (.int .i64 5)]))) ∧ Below w.heap.size w w' := by
  have HN := Lib.hid h5
  obtain ⟨k1, k7, _, n5, n5'⟩ := h5
  have ok := ok_first h1 h2 h3 h4
  have nb := num_bd ok
  have lb := ml_bd y m
  have wb := wd_bd (num y m 1)
  have T0 := hT.alloc (.cells #[.int .i64 N, .int .i64 k] 23)
  have P0 := Two.new w N k 23
  go_enter Tryd.func15, Tryd.ntmps15
  go_wp2_with fail
  refine (days_yes y m _ T0 h1 h2 h3 h4).mono ?_
  rintro e w1 ⟨rfl, hw⟩
  subst hw
  go_wp2_with fail
  refine (isNth_yes N k _ HN.out).mono ?_
  rintro e w2 ⟨rfl, hb⟩
  have T2 := T0.below hb
  have P2 := P0.on hb
  have B2 : Below w.heap.size w w2 := ((Below.refl _ _).alloc (Nat.le_refl _) _).trans (hb.mono (by simp))
  clear hb T0 P0
  go_wp2_with fail
  refine (of_yes y m 1 _ T2 ok).mono ?_
  rintro e w3 ⟨rfl, hb⟩
  have P3 := P2.on hb
  have B3 := B2.trans (hb.mono B2.size)
  clear hb T2 P2 B2
  go_wp2_with fail
  refine (weekday_wd (num y m 1) _ nb.1 nb.2).mono ?_
  rintro e w4 ⟨rfl, hw⟩
  subst hw
  obtain ⟨P_0, P_1⟩ := P3
  clear HN
  by_cases hH : hasW (num y m 1) (ml y m) N k
  · have HH := Lib.hid hH
    obtain ⟨g1, g2⟩ := hH
    have E : Hid (nthW (num y m 1) (ml y m) N k = num y m 1 + ahd (num y m 1) k + (trn N (cnt (ml y m) (ahd (num y m 1) k)) - 1) * 7) := Lib.hid rfl
    by_cases hN : N < 0
    · rw [trn_neg hN] at g1 g2 E
      unfold cnt ahd at g1 g2 E
      go_wp2
      go_ret2
      exact ⟨Or.inl ⟨HH.out, by rw [E.out]; rfl⟩, B3⟩
    · rw [trn_pos hN] at g1 g2 E
      unfold cnt ahd at g2
      unfold ahd at E
      go_wp2
      go_ret2
      exact ⟨Or.inl ⟨HH.out, by rw [E.out]; rfl⟩, B3⟩
  · have HH := Lib.hid hH
    have hc : trn N (cnt (ml y m) (ahd (num y m 1) k)) < 1 ∨ (1 ≤ trn N (cnt (ml y m) (ahd (num y m 1) k)) ∧ cnt (ml y m) (ahd (num y m 1) k) < trn N (cnt (ml y m) (ahd (num y m 1) k))) := by unfold hasW at hH; omega
    clear hH
    by_cases hN : N < 0
    · rw [trn_neg hN] at hc
      unfold cnt ahd at hc
      rcases hc with c | ⟨c, c'⟩
      all_goals first
        | (exfalso; omega)
        | (go_wp2
           go_ret2
           exact ⟨Or.inr ⟨HH.out, rfl⟩, B3⟩)
    · rw [trn_pos hN] at hc
      unfold cnt ahd at hc
      rcases hc with c | ⟨c, c'⟩
      all_goals first
        | (exfalso; omega)
        | (go_wp2
           go_ret2
           exact ⟨Or.inr ⟨HH.out, rfl⟩, B3⟩)
end Go.Proofs.YtbpcggiibiamlabDoor
