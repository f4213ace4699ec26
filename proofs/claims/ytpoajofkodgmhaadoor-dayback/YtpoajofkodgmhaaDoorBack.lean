/-
  What is proved here: the walk of chimelaw1.DayBack: it returns true for every date and number, and turns nothing that was there; the table of months is asked as a premise.
-/
import Derived.Test.YtpoajofkodgmhaaDoorDayOf
namespace Go.Proofs.YtpoajofkodgmhaaDoor
open Go.RowKit Cal

theorem bcell {W w1 : World} (hb : Below W.heap.size W w1) : (∀ b o, b < W.heap.size → w1.cell? ⟨b, o, none⟩ = W.cell? ⟨b, o, none⟩) ∧ (∀ b o, b < W.heap.size → w1.frozen? ⟨b, o, none⟩ = W.frozen? ⟨b, o, none⟩) :=
  ⟨fun b o h => hb.cell (p := ⟨b, o, none⟩) h, fun b o h => hb.frozen (p := ⟨b, o, none⟩) h⟩
theorem fact_ok : okD 2026 11 15 := by unfold okD; refine ⟨by decide, by decide, by decide, by decide, by decide, by decide⟩
theorem fact_num : num 2026 11 15 = 46340 := by decide
set_option maxRecDepth 100000 in
set_option maxHeartbeats 4000000 in
theorem back_yes (y m d n : Int) (w : World) (hT : Tab w) (hd : okD y m d) :
    Calls Tryd.prog 4 #[.agg #[.int .i64 y, .int .i64 m, .int .i64 d], .int .i64 n] w fun e w' => e = .returned (.bool true) ∧ Below w.heap.size w w' := by
  have F0 := fact_ok
  have F1 := fact_num
  go_enter Tryd.func4, Tryd.ntmps4
  go_wp2_with fail
  refine (of_yes 2026 11 15 _ (hT.alloc _) F0).mono ?_
  rintro e w1 ⟨rfl, hb1⟩
  clear F0
  go_wp2_with fail
  refine (weekday_yes 46340 _ (by omega) (by omega)).mono ?_
  rintro e w' ⟨rfl, rfl⟩
  obtain ⟨hc1, hf1⟩ := bcell hb1
  have hz1 : w.heap.size + 1 ≤ w'.heap.size := by have := hb1.size; simpa using this
  have hz1' : w.heap.size < w'.heap.size := by omega
  have N2 := num_bd hd
  obtain ⟨D1, D2, D3⟩ := date_of hd rfl
  go_wp2_with fail
  refine (of_yes y m d _ ((hT.alloc _).below hb1) hd).mono ?_
  rintro e w2 ⟨rfl, hb2⟩
  obtain ⟨hc2, hf2⟩ := bcell hb2
  have hz2 := hb2.size
  go_wp2_with fail
  refine (date_yes (num y m d) _ (((hT.alloc _).below hb1).below hb2) N2.1 N2.2).mono ?_
  rintro e w3 ⟨rfl, hb3⟩
  obtain ⟨hc3, hf3⟩ := bcell hb3
  have hz3 := hb3.size
  have hz2' : w.heap.size < w2.heap.size := by omega
  have hz3' : w.heap.size < w3.heap.size := by omega
  have hz3'' : w.heap.size ≠ w3.heap.size := by omega
  go_wp2_with fail
  have hTA := ((((hT.alloc (.cells #[.int .i64 y, .int .i64 m, .int .i64 d] 23)).below hb1).below hb2).below hb3).alloc (.cells #[.int .i64 y, .int .i64 m, .int .i64 d] 23)
  have hbA := ((((((Below.refl w.heap.size w).alloc (Nat.le_refl _) _).trans (hb1.mono (by simp))).trans (hb2.mono (by omega))).trans (hb3.mono (by omega)))).alloc (by omega) (.cells #[.int .i64 y, .int .i64 m, .int .i64 d] 23)
  generalize w3.alloc (.cells #[.int .i64 y, .int .i64 m, .int .i64 d] 23) = wA at hTA hbA ⊢
  clear hc1 hf1 hc2 hf2 hc3 hf3 hb1 hb2 hb3 hz1 hz1' hz2 hz2' hz3 hz3' hz3'' D1 D2 D3 N2 F1 hT hd
  -- from here on: the number n
  by_cases hn : 1 ≤ n ∧ n ≤ 109573
  case neg =>
    refine (date_no n _ hn).mono ?_
    rintro e w4 ⟨rfl, hb4⟩
    clear hn
    go_wp2
    go_ret
    exact ⟨rfl, (hbA.trans (hb4.mono hbA.size)).alloc (by have := hbA.size; have := hb4.size; omega) _⟩
  obtain ⟨n1, n2⟩ := hn
  have ON : Hid (okD (yr n) (mo n) (da n)) := date_ok n1 n2
  have NN : num (yr n) (mo n) (da n) = n := date_num
  obtain ⟨o1, o2, o3, o4, o5, o6⟩ := date_ok n1 n2
  refine (date_yes n _ hTA n1 n2).mono ?_
  rintro e w4 ⟨rfl, hb4⟩
  have hTB := hTA.below hb4
  have hbB := hbA.trans (hb4.mono hbA.size)
  have hzA := hbB.size
  clear hb4 hbA hTA
  go_wp2_with fail
  refine (of_yes (yr n) (mo n) (da n) _ (hTB.alloc _) ON.out).mono ?_
  rintro e w5 ⟨rfl, hb5⟩
  obtain ⟨hc5, hf5⟩ := bcell hb5
  have hz5 : w4.heap.size + 1 ≤ w5.heap.size := by have := hb5.size; simpa using this
  have hz5' : w4.heap.size < w5.heap.size := by omega
  have hTC := (hTB.alloc _).below hb5
  have hbC := (hbB.alloc hzA _).trans (hb5.mono (by simp; omega))
  clear hb5 hbB hTB
  go_wp2_with fail
  refine (days_yes (yr n) (mo n) _ hTC o1 o2 o3 o4).mono ?_
  rintro e w' ⟨rfl, rfl⟩
  by_cases hl : n = 109573
  case pos =>
    have hq : ¬ (1 ≤ n + 1 ∧ n + 1 ≤ 109573) := by omega
    have hq2 : (n == 109573) = true := by simp [hl]
    clear hl
    go_wp2_with fail
    refine (date_no (n + 1) _ hq).mono ?_
    rintro e w6 ⟨rfl, hb6⟩
    clear hq
    go_wp2_with (go_at_call 17; refine (last_any _).mono ?_; rintro e w' ⟨rfl, rfl⟩)
    go_ret
    exact ⟨rfl, (hbC.trans (hb6.mono hbC.size)).alloc (by have := hbC.size; have := hb6.size; omega) _⟩
  have m1 : 1 ≤ n + 1 := by omega
  have m2 : n + 1 ≤ 109573 := by omega
  go_wp2_with fail
  refine (date_yes (n + 1) _ hTC m1 m2).mono ?_
  rintro e w6 ⟨rfl, hb6⟩
  obtain ⟨hc6, hf6⟩ := bcell hb6
  have hz6 := hb6.size
  have hz6' : w4.heap.size < w6.heap.size := by omega
  have hz6'' : w4.heap.size ≠ w6.heap.size := by omega
  have hbD := hbC.trans (hb6.mono hbC.size)
  have hzD := hbD.size
  have mlb := ml_bd (yr n) (mo n)
  clear hb6 hbC hTC
  have hwd : (n % 7 + 1 != ((n - 1) % 7 + 1) % 7 + 1) = false := by simp
  go_wp2_with fail
  refine (weekday_yes n _ n1 n2).mono ?_
  rintro e w7 ⟨rfl, hw7⟩
  subst hw7
  go_wp2_with fail
  refine (weekday_yes (n + 1) _ m1 m2).mono ?_
  rintro e w8 ⟨rfl, hw8⟩
  subst hw8
  by_cases c1 : da n < ml (yr n) (mo n)
  · obtain ⟨q1, q2, q3⟩ := next_in n1 m2 c1
    go_wp2
    go_ret
    exact ⟨rfl, hbD.alloc hzD _⟩
  by_cases c2 : mo n < 12
  · obtain ⟨q1, q2, q3⟩ := next_month n1 m2 c1 c2
    go_wp2
    go_ret
    exact ⟨rfl, hbD.alloc hzD _⟩
  · obtain ⟨q1, q2, q3⟩ := next_year n1 m2 c1 c2
    go_wp2
    go_ret
    exact ⟨rfl, hbD.alloc hzD _⟩
set_option maxRecDepth 100000 in
set_option maxHeartbeats 4000000 in
theorem back_no (y m d n : Int) (w : World) (hT : Tab w) (hd : ¬ okD y m d) :
    Calls Tryd.prog 4 #[.agg #[.int .i64 y, .int .i64 m, .int .i64 d], .int .i64 n] w fun e w' => e = .returned (.bool true) ∧ Below w.heap.size w w' := by
  have F0 := fact_ok
  have F1 := fact_num
  go_enter Tryd.func4, Tryd.ntmps4
  go_wp2_with fail
  refine (of_yes 2026 11 15 _ (hT.alloc _) F0).mono ?_
  rintro e w1 ⟨rfl, hb1⟩
  clear F0
  go_wp2_with fail
  refine (weekday_yes 46340 _ (by omega) (by omega)).mono ?_
  rintro e w' ⟨rfl, rfl⟩
  obtain ⟨hc1, hf1⟩ := bcell hb1
  have hz1 : w.heap.size + 1 ≤ w'.heap.size := by have := hb1.size; simpa using this
  have hz1' : w.heap.size < w'.heap.size := by omega
  go_wp2_with fail
  refine (of_no y m d _ ((hT.alloc _).below hb1) hd).mono ?_
  rintro e wA ⟨rfl, hb2⟩
  go_wp2_with fail
  have hTA := ((hT.alloc (.cells #[.int .i64 y, .int .i64 m, .int .i64 d] 23)).below hb1).below hb2
  have hbA := ((((Below.refl w.heap.size w).alloc (Nat.le_refl _) _).trans (hb1.mono (by simp))).trans (hb2.mono (by omega)))
  clear hc1 hf1 hb1 hb2 hz1 hz1' F1 hT hd
  -- from here on: the number n
  by_cases hn : 1 ≤ n ∧ n ≤ 109573
  case neg =>
    refine (date_no n _ hn).mono ?_
    rintro e w4 ⟨rfl, hb4⟩
    clear hn
    go_wp2
    go_ret
    exact ⟨rfl, (hbA.trans (hb4.mono hbA.size)).alloc (by have := hbA.size; have := hb4.size; omega) _⟩
  obtain ⟨n1, n2⟩ := hn
  have ON : Hid (okD (yr n) (mo n) (da n)) := date_ok n1 n2
  have NN : num (yr n) (mo n) (da n) = n := date_num
  obtain ⟨o1, o2, o3, o4, o5, o6⟩ := date_ok n1 n2
  refine (date_yes n _ hTA n1 n2).mono ?_
  rintro e w4 ⟨rfl, hb4⟩
  have hTB := hTA.below hb4
  have hbB := hbA.trans (hb4.mono hbA.size)
  have hzA := hbB.size
  clear hb4 hbA hTA
  go_wp2_with fail
  refine (of_yes (yr n) (mo n) (da n) _ (hTB.alloc _) ON.out).mono ?_
  rintro e w5 ⟨rfl, hb5⟩
  obtain ⟨hc5, hf5⟩ := bcell hb5
  have hz5 : w4.heap.size + 1 ≤ w5.heap.size := by have := hb5.size; simpa using this
  have hz5' : w4.heap.size < w5.heap.size := by omega
  have hTC := (hTB.alloc _).below hb5
  have hbC := (hbB.alloc hzA _).trans (hb5.mono (by simp; omega))
  clear hb5 hbB hTB
  go_wp2_with fail
  refine (days_yes (yr n) (mo n) _ hTC o1 o2 o3 o4).mono ?_
  rintro e w' ⟨rfl, rfl⟩
  by_cases hl : n = 109573
  case pos =>
    have hq : ¬ (1 ≤ n + 1 ∧ n + 1 ≤ 109573) := by omega
    have hq2 : (n == 109573) = true := by simp [hl]
    clear hl
    go_wp2_with fail
    refine (date_no (n + 1) _ hq).mono ?_
    rintro e w6 ⟨rfl, hb6⟩
    clear hq
    go_wp2_with (go_at_call 17; refine (last_any _).mono ?_; rintro e w' ⟨rfl, rfl⟩)
    go_ret
    exact ⟨rfl, (hbC.trans (hb6.mono hbC.size)).alloc (by have := hbC.size; have := hb6.size; omega) _⟩
  have m1 : 1 ≤ n + 1 := by omega
  have m2 : n + 1 ≤ 109573 := by omega
  go_wp2_with fail
  refine (date_yes (n + 1) _ hTC m1 m2).mono ?_
  rintro e w6 ⟨rfl, hb6⟩
  obtain ⟨hc6, hf6⟩ := bcell hb6
  have hz6 := hb6.size
  have hz6' : w4.heap.size < w6.heap.size := by omega
  have hz6'' : w4.heap.size ≠ w6.heap.size := by omega
  have hbD := hbC.trans (hb6.mono hbC.size)
  have hzD := hbD.size
  have mlb := ml_bd (yr n) (mo n)
  clear hb6 hbC hTC
  have hwd : (n % 7 + 1 != ((n - 1) % 7 + 1) % 7 + 1) = false := by simp
  go_wp2_with fail
  refine (weekday_yes n _ n1 n2).mono ?_
  rintro e w7 ⟨rfl, hw7⟩
  subst hw7
  go_wp2_with fail
  refine (weekday_yes (n + 1) _ m1 m2).mono ?_
  rintro e w8 ⟨rfl, hw8⟩
  subst hw8
  by_cases c1 : da n < ml (yr n) (mo n)
  · obtain ⟨q1, q2, q3⟩ := next_in n1 m2 c1
    go_wp2
    go_ret
    exact ⟨rfl, hbD.alloc hzD _⟩
  by_cases c2 : mo n < 12
  · obtain ⟨q1, q2, q3⟩ := next_month n1 m2 c1 c2
    go_wp2
    go_ret
    exact ⟨rfl, hbD.alloc hzD _⟩
  · obtain ⟨q1, q2, q3⟩ := next_year n1 m2 c1 c2
    go_wp2
    go_ret
    exact ⟨rfl, hbD.alloc hzD _⟩
end Go.Proofs.YtpoajofkodgmhaaDoor
