/-
  What is proved here: what the functions of the document's answer for which weekday (package chimeref1: Ends, NthOf) tell, as contracts over the translation.
-/
import Derived.Test.YtbpcggiibiamlabDoorRefWk
namespace Go.Proofs.YtbpcggiibiamlabDoor
open Go.RowKit Cal

set_option maxHeartbeats 1000000 in
theorem refEnds_yes (n : Int) (w : World) (h1 : 1 ≤ n) (h2 : n ≤ 109573) :
    Calls Tryd.prog 17 #[.int .i64 n] w fun e w' => e = .returned (.tuple #[.int .i64 ((da n - 1) / 7 + 1), .int .i64 (-((ml (yr n) (mo n) - da n) / 7 + 1))]) ∧ Below w.heap.size w w' := by
  obtain ⟨y1, y2, m1, m2, d1, d2⟩ := date_ok h1 h2
  have lb := ml_bd (yr n) (mo n)
  go_enter Tryd.func17, Tryd.ntmps17
  go_wp2_with fail
  refine (refDate_yes n _ h1 h2).mono ?_
  rintro e w1 ⟨rfl, hb⟩
  go_wp2_with fail
  refine (refDays_yes (yr n) (mo n) _ y1 y2 m1 m2).mono ?_
  rintro e w2 ⟨rfl, hw⟩
  subst hw
  go_wp2_with fail
  go_quiet (fail)
  go_wp2
  go_ret2
  exact ⟨rfl, below_drewN (hb.trans ((Below.refl _ _).alloc hb.size _)) _⟩
theorem refEnds_at {y m d : Int} (w : World) (h : okD y m d) :
    Calls Tryd.prog 17 #[.int .i64 (num y m d)] w fun e w' => e = .returned (.tuple #[.int .i64 ((d - 1) / 7 + 1), .int .i64 (-((ml y m - d) / 7 + 1))]) ∧ Below w.heap.size w w' := by
  have b := num_bd h
  obtain ⟨e1, e2, e3⟩ := date_of h rfl
  have := refEnds_yes (num y m d) w b.1 b.2
  rwa [e1, e2, e3] at this
theorem refWeekday_wd (n : Int) (w : World) (h1 : 1 ≤ n) (h2 : n ≤ 109573) :
    Calls Tryd.prog 18 #[.int .i64 n] w fun e w' => e = .returned (.int .i64 (wd n)) ∧ w' = w := refWeekday_any n w h1 h2
theorem beq_t {a b : Int} (h : (a == b) = true) : a = b := beq_iff_eq.1 h
theorem beq_f {a b : Int} (h : (a == b) = false) : ¬ a = b := fun e => by rw [e] at h; simp at h
theorem refNth_bad (y m N k : Int) (w : World) (h : ¬ (1900 ≤ y ∧ y ≤ 2199 ∧ 1 ≤ m ∧ m ≤ 12 ∧ isN N k)) :
    Calls Tryd.prog 14 #[.int .i64 y, .int .i64 m, .agg #[.int .i64 N, .int .i64 k]] w fun e w' => e = .returned (.tuple #[.int .i64 0, .int .i64 1]) ∧ Below w.heap.size w w' := by
  by_cases hd : 1900 ≤ y ∧ y ≤ 2199 ∧ 1 ≤ m ∧ m ≤ 12
  · have hc : k < 1 ∨ (1 ≤ k ∧ 7 < k) ∨ (1 ≤ k ∧ k ≤ 7 ∧ (N == 0) = true) ∨ (1 ≤ k ∧ k ≤ 7 ∧ (N == 0) = false ∧ N < -5) ∨ (1 ≤ k ∧ k ≤ 7 ∧ (N == 0) = false ∧ -5 ≤ N ∧ 5 < N) := by
      have hn : ¬ isN N k := fun q => h ⟨hd.1, hd.2.1, hd.2.2.1, hd.2.2.2, q⟩
      unfold isN at hn
      have e : (N == 0) = false ↔ ¬ N = 0 := by simp
      have e' : (N == 0) = true ↔ N = 0 := by simp
      rw [e, e']; omega
    obtain ⟨h1, h2, h3, h4⟩ := hd
    have lb := ml_bd y m
    clear h
    rcases hc with c | ⟨c, d⟩ | ⟨c, d, e⟩ | ⟨c, d, e, f⟩ | ⟨c, d, e, f, g⟩
    all_goals
      go_enter Tryd.func14, Tryd.ntmps14
      go_wp2_with fail
      refine (refDays_yes y m _ h1 h2 h3 h4).mono ?_
      rintro e w1 ⟨rfl, hw⟩
      subst hw
      go_wp2
      go_ret2
      exact ⟨rfl, (Below.refl _ _).alloc (Nat.le_refl _) _⟩
  · have H := Lib.hid hd
    clear h hd
    go_enter Tryd.func14, Tryd.ntmps14
    go_wp2_with fail
    refine (refDays_no y m _ H.out).mono ?_
    rintro e w1 ⟨rfl, hw⟩
    subst hw
    go_wp2
    go_ret2
    exact ⟨rfl, (Below.refl _ _).alloc (Nat.le_refl _) _⟩
set_option maxHeartbeats 8000000 in
theorem refNth_walk (y m N k : Int) (w : World) (h1 : 1900 ≤ y) (h2 : y ≤ 2199) (h3 : 1 ≤ m) (h4 : m ≤ 12) (h5 : isN N k) :
    Calls Tryd.prog 14 #[.int .i64 y, .int .i64 m, .agg #[.int .i64 N, .int .i64 k]] w fun e w' => ((hasW (num y m 1) (ml y m) N k ∧ e = .returned (.tuple #[.int .i64 (nthW (num y m 1) (ml y m) N k), .int .i64 0])) ∨ (¬ hasW (num y m 1) (ml y m) N k ∧ e = .returned (.tuple #[.int .i64 0, .int .i64 5]))) ∧ Below w.heap.size w w' := by
  obtain ⟨k1, k7, n0, n5, n5'⟩ := h5
  have n0' : (N == 0) = false := by simp [n0]
  have lb := ml_bd y m
  go_enter Tryd.func14, Tryd.ntmps14
  go_wp2_with fail
  refine (refDays_yes y m _ h1 h2 h3 h4).mono ?_
  rintro e w1 ⟨rfl, hw⟩
  subst hw
  go_wp2
  go_loopw [9] (fun i wr => ∃ d : Int, 1 ≤ d ∧ d ≤ ml y m + 1 ∧ i = .int .i64 d ∧ Two wr w.heap.size N k ∧ Below w.heap.size w wr ∧ ∀ j, 1 ≤ j → j < d → ¬ fitW (num y m 1) (ml y m) N k j) (fun i _ => (40 - intOf i).toNat)
  case atStart => exact ⟨1, by omega, by omega, rfl, Two.new w N k 23, (Below.refl _ _).alloc (Nat.le_refl _) _, fun j a b => by omega⟩
  case round =>
    obtain ⟨d, d1, d2, rfl, hP, hB, hF⟩ := hrel
    have HF := Lib.hid hF
    clear hF
    by_cases hlt : d ≤ ml y m
    · have OK := Lib.hid (show okD y m d from ⟨h1, h2, h3, h4, d1, hlt⟩)
      have nb := num_bd OK.out
      have ND := Lib.hid (num_day y m d)
      go_wp2_with fail
      refine (refOf_yes y m d _ OK.out).mono ?_
      rintro e w2 ⟨rfl, hb⟩
      have P2 := hP.on hb
      have B2 := hB.trans (hb.mono hB.size)
      clear hb hP hB
      go_wp2_with fail
      refine (refEnds_at _ OK.out).mono ?_
      rintro e w3 ⟨rfl, hb⟩
      obtain ⟨P_0, P_1⟩ := P2.on hb
      have P3 := P2.on hb
      have B3 := B2.trans (hb.mono B2.size)
      clear hb P2 B2
      have fd : num y m 1 + d - 1 = num y m d := ND.out.symm
      rcases hA : (wd (num y m d) == k) with _ | _
      case' false =>
        have X : Hid (¬ fitW (num y m 1) (ml y m) N k d) := Lib.hid (fun q => beq_f hA (by rw [← fd]; exact q.1))
      case' true =>
        rcases hC : ((d - 1) / 7 + 1 == N) with _ | _
        case' true =>
          have X : Hid (fitW (num y m 1) (ml y m) N k d) := Lib.hid ⟨by rw [fd]; exact beq_t hA, Or.inl (beq_t hC)⟩
        case' false =>
          rcases hE : (-((ml y m - d) / 7 + 1) == N) with _ | _
          case' true =>
            have X : Hid (fitW (num y m 1) (ml y m) N k d) := Lib.hid ⟨by rw [fd]; exact beq_t hA, Or.inr (beq_t hE)⟩
          case' false =>
            have X : Hid (¬ fitW (num y m 1) (ml y m) N k d) := Lib.hid (fun q => q.2.elim (beq_f hC) (beq_f hE))
      all_goals
        clear fd
        go_wp2_with fail
        go_quiet ((go_at_call 18; exact Calls.quiet_of_same (refWeekday_wd _ _ nb.1 nb.2)))
        go_wp2_with fail
      all_goals first
        | (go_ret2
           have Z := nth_hit lb.1 lb.2 d1 hlt X.out
           exact ⟨Or.inl ⟨Z.1, by rw [Z.2, ← ND.out]; rfl⟩, below_drewN B3 _⟩)
        | (go_roundw
           case rel =>
             exact ⟨d + 1, by omega, by omega, rfl, P3.on (below_drewN (Below.refl _ _) _), below_drewN B3 _, fun j a b => by
               rcases Int.lt_or_le j d with g | g
               · exact HF.out j a g
               · obtain rfl : j = d := by omega
                 exact X.out⟩
           case measure => simp [intOf]; omega)
    · go_wp2
      go_ret2
      refine ⟨Or.inr ⟨fun H => ?_, rfl⟩, hB⟩
      have Z := nth_fit k1 k7 H
      exact HF.out _ Z.1 (by omega) Z.2.2
end Go.Proofs.YtbpcggiibiamlabDoor
