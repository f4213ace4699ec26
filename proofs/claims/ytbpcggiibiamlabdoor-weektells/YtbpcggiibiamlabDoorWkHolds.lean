/-
  What is proved here: the walk of chimelaw1.WeekHolds: it returns true for every number, and turns nothing that was there; the table of months is asked as a premise.
-/
import Derived.Test.YtbpcggiibiamlabDoorWkWhich
namespace Go.Proofs.YtbpcggiibiamlabDoor
open Go.RowKit Cal

/-- What a law carries from call to call. -/
def KeepW (w W : World) : Prop := Tab W ∧ Below w.heap.size w W
theorem KeepW.start {w : World} (hT : Tab w) : KeepW w w := ⟨hT, Below.refl _ _⟩
theorem KeepW.on {w W W' : World} (h : KeepW w W) (b : Below W.heap.size W W') : KeepW w W' := ⟨h.1.below b, h.2.trans (b.mono h.2.size)⟩
theorem KeepW.alloc {w W : World} (h : KeepW w W) (o : Obj) : KeepW w (W.alloc o) := h.on ((Below.refl _ _).alloc (Nat.le_refl _) _)
theorem Two.alloc {W : World} {b : Nat} {N k : Int} (h : Two W b N k) (o : Obj) : Two (W.alloc o) b N k := h.on ((Below.refl _ _).alloc (Nat.le_refl _) _)

theorem week_fact (w : World) (hT : Tab w) :
    Calls Tryd.prog 7 #[.int .i64 46340] w fun e w' => e = .returned (.tuple #[.int .i64 2026, .int .i64 46, .nilIface]) ∧ Below w.heap.size w w' := by
  have := week_yes 46340 w hT (by omega) (by unfold mon; omega) (by omega)
  rwa [show wky 46340 = 2026 by decide +kernel, show wkn 46340 = 46 by decide +kernel] at this
/-- By its weekday a day is found, from the beginning of its month and from its end. -/
theorem nth_self {n : Int} (h1 : 1 ≤ n) (h2 : n ≤ 109573) (N : Int) (hN : N = (da n - 1) / 7 + 1 ∨ N = -((ml (yr n) (mo n) - da n) / 7) - 1) (w : World) (hT : Tab w) :
    Calls Tryd.prog 15 #[.int .i64 (yr n), .int .i64 (mo n), .agg #[.int .i64 N, .int .i64 (wd n)]] w fun e w' => e = .returned (.tuple #[.int .i64 n, .nilIface]) ∧ Below w.heap.size w w' := by
  obtain ⟨y1, y2, m1, m2, d1, d2⟩ := date_ok h1 h2
  have lb := ml_bd (yr n) (mo n)
  have wb := wd_bd n
  have e : num (yr n) (mo n) 1 + da n - 1 = n := by rw [← num_day]; exact date_num
  have hF : fitW (num (yr n) (mo n) 1) (ml (yr n) (mo n)) N (wd n) (da n) := by
    have k := fit_self (num (yr n) (mo n) 1) (ml (yr n) (mo n)) (da n)
    rw [e] at k
    rcases hN with rfl | rfl
    · exact k.1
    · exact k.2
  obtain ⟨hh, hn⟩ := nth_hit lb.1 lb.2 d1 d2 hF
  have hI : isN N (wd n) := by
    unfold isN
    rcases hN with rfl | rfl <;> omega
  refine (nth_walk (yr n) (mo n) N (wd n) w hT y1 y2 m1 m2 hI).mono ?_
  rintro v w' ⟨⟨_, rfl⟩ | ⟨hx, _⟩, hb⟩
  · exact ⟨by rw [hn, e], hb⟩
  · exact absurd hh hx
theorem which_found {n : Int} (h1 : 1 ≤ n) (h2 : n ≤ 109573) : ∃ p q : Int, 0 < p ∧ q < 0 ∧
    (∀ w : World, Tab w → Calls Tryd.prog 19 #[.int .i64 n] w fun e w' => e = .returned (.tuple #[.agg #[.int .i64 p, .int .i64 (wd n)], .agg #[.int .i64 q, .int .i64 (wd n)], .nilIface]) ∧ Below w.heap.size w w') ∧
    (∀ w : World, Tab w → Calls Tryd.prog 15 #[.int .i64 (yr n), .int .i64 (mo n), .agg #[.int .i64 p, .int .i64 (wd n)]] w fun e w' => e = .returned (.tuple #[.int .i64 n, .nilIface]) ∧ Below w.heap.size w w') ∧
    (∀ w : World, Tab w → Calls Tryd.prog 15 #[.int .i64 (yr n), .int .i64 (mo n), .agg #[.int .i64 q, .int .i64 (wd n)]] w fun e w' => e = .returned (.tuple #[.int .i64 n, .nilIface]) ∧ Below w.heap.size w w') := by
  obtain ⟨_, _, _, _, d1, d2⟩ := date_ok h1 h2
  exact ⟨_, _, by omega, by omega, fun w hT => which_yes n w hT h1 h2, fun w hT => nth_self h1 h2 _ (Or.inl rfl) w hT, fun w hT => nth_self h1 h2 _ (Or.inr rfl) w hT⟩
theorem weekday_one (n : Int) (w : World) (h1 : 1 ≤ n) (h2 : n ≤ 109573) (h : wd n = 1) :
    Calls Tryd.prog 21 #[.int .i64 n] w fun e w' => e = .returned (.tuple #[.int .i64 1, .nilIface]) ∧ w' = w := by
  have := weekday_wd n w h1 h2
  rwa [h] at this
theorem first_week {n : Int} (h1 : 1 ≤ n) (h3 : mon n + 3 ≤ 109573) (w : World) (hT : Tab w) :
    Calls Tryd.prog 13 #[.int .i64 (wky n), .int .i64 (wkn n)] w fun e w' => e = .returned (.tuple #[.int .i64 (mon n), .nilIface]) ∧ Below w.heap.size w w' := by
  obtain ⟨a, b, c, d, e⟩ := week_in h1 h3
  have := first_yes (wky n) (wkn n) w hT a b c d
  rwa [e] at this
set_option maxRecDepth 100000 in
set_option maxHeartbeats 8000000 in
theorem wholds (n : Int) (w : World) (hT : Tab w) :
    Calls Tryd.prog 4 #[.int .i64 n] w fun e w' => e = .returned (.bool true) ∧ Below w.heap.size w w' := by
  have K := KeepW.start hT
  clear hT
  go_enter Tryd.func4, Tryd.ntmps4
  go_wp2_with fail
  refine (week_fact _ K.1).mono ?_
  rintro e w1 ⟨rfl, hb⟩
  have K1 := K.on hb
  clear hb K
  go_wp2_with fail
  by_cases hn : 1 ≤ n ∧ n ≤ 109573 ∧ mon n + 3 ≤ 109573
  case neg =>
    have mb := mon_bd n
    have hc : n < 4 ∨ (4 ≤ n ∧ 109569 < n) := by omega
    have H := Lib.hid hn
    clear hn mb
    refine (week_no n _ H.out).mono ?_
    rintro e w2 ⟨rfl, hb⟩
    have K2 := K1.on hb
    clear hb K1
    rcases hc with c | ⟨c, c'⟩
    all_goals
      go_wp2_with (go_at_call 20; refine (last_any _).mono ?_; rintro e w' ⟨rfl, rfl⟩)
      go_ret
      first | exact ⟨rfl, K2.2⟩ | exact ⟨ret_bool (by simp; omega), K2.2⟩ | exact ⟨ret_bool (by simp), K2.2⟩
  obtain ⟨h1, h2, h3⟩ := hn
  obtain ⟨a1, a2, a3, a4, a5⟩ := week_in h1 h3
  clear a5
  have mb := mon_bd n
  have m1 : 1 ≤ mon n := by unfold mon; omega
  refine (week_yes n _ K1.1 h1 h3 h2).mono ?_
  rintro e w2 ⟨rfl, hb⟩
  have K2 := K1.on hb
  clear hb K1
  go_wp2_with fail
  refine (weeks_yes (wky n) _ K2.1 a1 a2).mono ?_
  rintro e w3 ⟨rfl, hb⟩
  have K3 := K2.on hb
  clear hb K2
  go_wp2_with fail
  refine (first_week h1 h3 _ K3.1).mono ?_
  rintro e w4 ⟨rfl, hb⟩
  have K4 := K3.on hb
  clear hb K3
  go_wp2_with fail
  refine (weekday_one (mon n) _ m1 (by omega) (mon_wd n)).mono ?_
  rintro e w5 ⟨rfl, hw⟩
  subst hw
  go_wp2_with fail
  obtain ⟨p, q, p0, q0, hw, hp, hq⟩ := which_found h1 h2
  have HP := Lib.hid hp
  have HQ := Lib.hid hq
  clear hp hq
  refine (hw _ K4.1).mono ?_
  clear hw
  rintro e w6 ⟨rfl, hb⟩
  have K6 := ((K4.on hb).alloc (.cells #[.int .i64 p, .int .i64 (wd n)] 23)).alloc (.cells #[.int .i64 q, .int .i64 (wd n)] 23)
  have A6 := (Two.new w6 p (wd n) 23).alloc (.cells #[.int .i64 q, .int .i64 (wd n)] 23)
  have B6 : Two ((w6.alloc (.cells #[.int .i64 p, .int .i64 (wd n)] 23)).alloc (.cells #[.int .i64 q, .int .i64 (wd n)] 23)) (w6.heap.size + 1) q (wd n) := ⟨by simp, by simp⟩
  clear hb K4
  go_wp2_with fail
  refine (date_yes n _ K6.1 h1 h2).mono ?_
  rintro e w7 ⟨rfl, hb⟩
  have K7 := (K6.on hb).alloc (.cells #[.int .i64 (yr n), .int .i64 (mo n), .int .i64 (da n)] 36)
  have A7 := (A6.on hb).alloc (.cells #[.int .i64 (yr n), .int .i64 (mo n), .int .i64 (da n)] 36)
  have B7 := (B6.on hb).alloc (.cells #[.int .i64 (yr n), .int .i64 (mo n), .int .i64 (da n)] 36)
  have D7 := Dat.new w7 (yr n) (mo n) (da n) 36
  have l1 : w6.heap.size < w7.heap.size := by have := hb.size; simp at this; omega
  have l2 : w6.heap.size + 1 < w7.heap.size := by have := hb.size; simp at this; omega
  obtain ⟨A_0, A_1⟩ := A6.on hb
  clear hb K6 A6 B6
  go_wp2_with fail
  clear A_0 A_1
  refine (HP.out _ K7.1).mono ?_
  rintro e w8 ⟨rfl, hb⟩
  have K8 := K7.on hb
  have A8 := A7.on hb
  have B8 := B7.on hb
  have D8 := D7.on hb
  clear hb K7 A7 B7 D7
  obtain ⟨B_0, B_1⟩ := id B8
  obtain ⟨D_0, D_1, D_2⟩ := id D8
  go_wp2_with fail
  clear B_0 B_1 D_0 D_1 D_2
  refine (HQ.out _ K8.1).mono ?_
  rintro e w9 ⟨rfl, hb⟩
  have K9 := K8.on hb
  obtain ⟨A_0, A_1⟩ := A8.on hb
  obtain ⟨B_0, B_1⟩ := B8.on hb
  clear hb K8 A8 B8 D8 HP HQ
  go_wp2_with fail
  go_ret
  exact ⟨rfl, K9.2⟩
end Go.Proofs.YtbpcggiibiamlabDoor
