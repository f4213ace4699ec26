/-
  What is proved here: what the functions of the document's answer for weeks (package chimeref1: Monday, Week, Weeks, Ends, NthOf) tell, as contracts over the translation.
  What is proved here: what the document's Begin answers of a rule with nothing wrong and a day (a contract over the translation).
  What is proved here: what the functions of the document's answer for which weekday (package chimeref1: Ends, NthOf) tell, as contracts over the translation.
-/
import Derived.Test.YtoncfgfjdlgfcaaGreatDoorRF
import Derived.Test.YtoncfgfjdlgfcaaGreatDoorBB
import Derived.Test.YtoncfgfjdlgfcaaGreatDoorBC
namespace Go.Proofs.YtoncfgfjdlgfcaaGreatDoor
open Go.RowKit Cal

theorem refMonday_any (n : Int) (w : World) (h1 : 1 ≤ n) (h2 : n ≤ 109573) :
    Calls Tryz.prog 189 #[.int .i64 n] w fun e w' => e = .returned (.int .i64 (mon n)) ∧ w' = w := by
  go_enter Tryz.func189, Tryz.ntmps189
  go_wp2
  go_ret
  exact ⟨rfl, rfl⟩
theorem refOf_four (y : Int) (w : World) (h1 : 1900 ≤ y) (h2 : y ≤ 2199) :
    Calls Tryz.prog 55 #[.agg #[.int .i64 y, .int .i64 1, .int .i64 4]] w fun e w' => e = .returned (.int .i64 (bef y + 4)) ∧ Below w.heap.size w w' := by
  have := refOf_yes y 1 4 w (ok_four h1 h2)
  rwa [num_four] at this
theorem refOf_late (y : Int) (w : World) (h1 : 1900 ≤ y) (h2 : y ≤ 2199) :
    Calls Tryz.prog 55 #[.agg #[.int .i64 y, .int .i64 12, .int .i64 28]] w fun e w' => e = .returned (.int .i64 (bef (y + 1) - 3)) ∧ Below w.heap.size w w' := by
  have := refOf_yes y 12 28 w (ok_late h1 h2)
  rwa [num_late] at this
theorem refFirst (y : Int) (w : World) (h1 : 1900 ≤ y) (h2 : y ≤ 2199) :
    Calls Tryz.prog 189 #[.int .i64 (bef y + 4)] w fun e w' => e = .returned (.int .i64 (fst y)) ∧ w' = w := by
  have b := num_bd (ok_four h1 h2)
  rw [num_four] at b
  exact refMonday_any _ w b.1 b.2
end Go.Proofs.YtoncfgfjdlgfcaaGreatDoor
namespace Go.Proofs.YtoncfgfjdlgfcaaGreatDoor
open Go.RowKit Cal Txt

theorem rule_form {w : World} {v : Value} {r : Rl} (h : RuleIn w v r) : ∃ am ad aw ap cm cd cw cp, v = .agg #[.int .i64 r.freq, .int .i64 r.every, .int .i64 r.count, .int .i64 r.till, .slice am r.months.length cm, .slice ad r.days.length cd, .slice aw r.weeks.length cw, .slice ap r.pick.length cp] := by
  obtain ⟨vm, vd, vw, vp, rfl, m1, d1, k1, p1⟩ := h
  obtain ⟨am, cm, rfl, _⟩ := m1
  obtain ⟨ad, cd, rfl, _⟩ := d1
  obtain ⟨aw, cw, rfl, _⟩ := k1
  obtain ⟨ap, cp, rfl, _⟩ := p1
  exact ⟨am, ad, aw, ap, cm, cd, cw, cp, rfl⟩
/-- What is answered of where a period begins and ends. -/
def BgA (o : Option (Int × Int)) (e : Ending) : Prop :=
  ∃ (n m : Int) (b : Bool), e = .returned (.tuple #[.int .i64 n, .int .i64 m, .bool b]) ∧ ((o = none ∧ b = false) ∨ (b = true ∧ o = some (n, min m 109573)))
theorem cutL_le (f n : Int) : (cutL f n = none ∧ decide (f ≤ 109573) = false) ∨ (decide (f ≤ 109573) = true ∧ cutL f n = some (f, min (f + n - 1) 109573)) := by
  unfold cutL
  by_cases h : 109573 < f
  · exact Or.inl ⟨if_pos h, decide_eq_false (by omega)⟩
  · exact Or.inr ⟨decide_eq_true (by omega), if_neg h⟩
theorem pE_is {r : Rl} {s k : Int} (h1 : rf r = 0) (h2 : 0 ≤ k ∧ k ≤ 109573) (h3 : 1 ≤ s ∧ s ≤ 109573) : pE r s k = pEnds r.freq r.every s k := if_pos ⟨h1, h2, h3⟩
set_option maxRecDepth 100000 in
set_option maxHeartbeats 4000000 in
theorem refBegin_any (r : Rl) (v : Value) (s k : Int) (w : World) (hv : RuleIn w v r) (hz : rf r = 0) (s1 : 1 ≤ s) (s2 : s ≤ 109573) :
    Calls Tryz.prog 152 #[v, .int .i64 s, .int .i64 k] w fun e w' => BgA (pE r s k) e ∧ Below w.heap.size w w' := by
  obtain ⟨am, ad, aw, ap, cm, cd, cw, cp, rfl⟩ := rule_form hv
  have B0 := (Below.refl w.heap.size w).alloc (Nat.le_refl _) (.cells #[.int .i64 r.freq, .int .i64 r.every, .int .i64 r.count, .int .i64 r.till, .slice am r.months.length cm, .slice ad r.days.length cd, .slice aw r.weeks.length cw, .slice ap r.pick.length cp] 29)
  have HR := Lib.hid (RBox.new w r.freq r.every r.count r.till (.slice am r.months.length cm) (.slice ad r.days.length cd) (.slice aw r.weeks.length cw) (.slice ap r.pick.length cp) 29)
  have HB := Lib.hid B0
  clear B0 hv
  obtain ⟨⟨f1, f4⟩, e1, e50⟩ := rf_nums hz
  have HZ := Lib.hid hz
  clear hz
  by_cases hk : 0 ≤ k ∧ k ≤ 109573
  case neg =>
    have HE : Hid (pE r s k = none) := Lib.hid (if_neg (fun q => hk q.2.1))
    rcases (by omega : k < 0 ∨ (0 ≤ k ∧ 109573 < k)) with g | ⟨g, g'⟩
    all_goals
      clear hk
      go_enter Tryz.func152, Tryz.ntmps152
      go_wp2
      exact bodyPost_ret (v := .tuple #[.int .i64 0, .int .i64 0, .bool false]) (by simp [results, Tryz.results152, go_sem]) rfl ⟨⟨0, 0, false, rfl, Or.inl ⟨HE.out, rfl⟩⟩, HB.out⟩
  obtain ⟨k0, k1⟩ := hk
  obtain ⟨t0, t1⟩ := st_bd ⟨k0, k1⟩ ⟨e1, e50⟩
  obtain ⟨y1, y2, m1, m2, d1, d2⟩ := date_ok s1 s2
  rcases fr4 ⟨f1, f4⟩ with hf | hf | hf | hf
  · have HF := Lib.hid hf
    have HE : Hid (pE r s k = cutL (s + k * r.every) 1) := Lib.hid (by rw [pE_is HZ.out ⟨k0, k1⟩ ⟨s1, s2⟩]; unfold pEnds; rw [hf, if_neg (by decide), if_neg (by decide), if_neg (by decide)])
    clear hf
    go_enter Tryz.func152, Tryz.ntmps152
    go_wp2_with fail
    generalize w.alloc (.cells #[.int .i64 r.freq, .int .i64 r.every, .int .i64 r.count, .int .i64 r.till, .slice am r.months.length cm, .slice ad r.days.length cd, .slice aw r.weeks.length cw, .slice ap r.pick.length cp] 29) = W0 at HB HR ⊢
    refine (refDate_yes s _ s1 s2).mono ?_
    rintro e w2 ⟨rfl, hb⟩
    have B2 := HB.out.trans (hb.mono HB.out.size)
    have B3 := Lib.hid (B2.alloc B2.size (.cells #[.int .i64 (yr s), .int .i64 (mo s), .int .i64 (da s)] 88))
    obtain ⟨x0, x1, x2, x3, x4, x5, x6, x7⟩ := HR.out.on hb
    have ql := (HR.out.on hb).lt
    rw [HF.out] at x0
    clear hb B2
    rcases cutL_le (s + k * r.every) 1 with ⟨c1, c2⟩ | ⟨c1, c2⟩
    · have C := Lib.hid c1
      clear c1
      go_wp2
      exact bodyPost_ret (v := .tuple #[.int .i64 (s + k * r.every), .int .i64 (s + k * r.every), .bool false]) (by simp [results, Tryz.results152, go_sem]) rfl ⟨⟨_, _, _, rfl, Or.inl ⟨by rw [HE.out, C.out], rfl⟩⟩, B3.out⟩
    · have C := Lib.hid c2
      clear c2
      go_wp2
      exact bodyPost_ret (v := .tuple #[.int .i64 (s + k * r.every), .int .i64 (s + k * r.every), .bool true]) (by simp [results, Tryz.results152, go_sem]) rfl ⟨⟨_, _, _, rfl, Or.inr ⟨rfl, by rw [HE.out, C.out, show s + k * r.every + 1 - 1 = s + k * r.every by omega]⟩⟩, B3.out⟩
  · have HF := Lib.hid hf
    have HE : Hid (pE r s k = cutL (mon s + 7 * k * r.every) 7) := Lib.hid (by rw [pE_is HZ.out ⟨k0, k1⟩ ⟨s1, s2⟩]; unfold pEnds; rw [hf, if_pos rfl]; congr 1; rw [Int.mul_assoc 7, Int.mul_comm 7]; unfold wd mon; omega)
    clear hf
    have q7 : 7 * k * r.every = k * r.every * 7 := by rw [Int.mul_assoc 7, Int.mul_comm 7]
    have u0 : 0 ≤ 7 * k * r.every := by omega
    have u1 : 7 * k * r.every ≤ 38350550 := by omega
    have mb := mon_bd s
    have m0 : 1 ≤ mon s := by unfold mon; omega
    clear q7
    go_enter Tryz.func152, Tryz.ntmps152
    go_wp2_with fail
    generalize w.alloc (.cells #[.int .i64 r.freq, .int .i64 r.every, .int .i64 r.count, .int .i64 r.till, .slice am r.months.length cm, .slice ad r.days.length cd, .slice aw r.weeks.length cw, .slice ap r.pick.length cp] 29) = W0 at HB HR ⊢
    refine (refDate_yes s _ s1 s2).mono ?_
    rintro e w2 ⟨rfl, hb⟩
    have B2 := HB.out.trans (hb.mono HB.out.size)
    have B3 := Lib.hid (B2.alloc B2.size (.cells #[.int .i64 (yr s), .int .i64 (mo s), .int .i64 (da s)] 88))
    obtain ⟨x0, x1, x2, x3, x4, x5, x6, x7⟩ := HR.out.on hb
    have ql := (HR.out.on hb).lt
    rw [HF.out] at x0
    clear hb B2
    rcases cutL_le (mon s + 7 * k * r.every) 7 with ⟨c1, c2⟩ | ⟨c1, c2⟩
    · have C := Lib.hid c1
      clear c1
      go_wp2_with fail
      go_quiet ((go_at_call 189; exact Calls.quiet_of_same (refMonday_any _ _ s1 s2)))
      go_wp2
      exact bodyPost_ret (v := .tuple #[.int .i64 (mon s + 7 * k * r.every), .int .i64 (mon s + 7 * k * r.every + 6), .bool false]) (by simp [results, Tryz.results152, go_sem]) rfl ⟨⟨_, _, _, rfl, Or.inl ⟨by rw [HE.out, C.out], rfl⟩⟩, below_drewN B3.out _⟩
    · have C := Lib.hid c2
      clear c2
      go_wp2_with fail
      go_quiet ((go_at_call 189; exact Calls.quiet_of_same (refMonday_any _ _ s1 s2)))
      go_wp2
      exact bodyPost_ret (v := .tuple #[.int .i64 (mon s + 7 * k * r.every), .int .i64 (mon s + 7 * k * r.every + 6), .bool true]) (by simp [results, Tryz.results152, go_sem]) rfl ⟨⟨_, _, _, rfl, Or.inr ⟨rfl, by rw [HE.out, C.out, show mon s + 7 * k * r.every + 7 - 1 = mon s + 7 * k * r.every + 6 by omega]⟩⟩, below_drewN B3.out _⟩
  · have HF := Lib.hid hf
    obtain ⟨M, hM⟩ : ∃ M, M = yr s * 12 + mo s - 1 + k * r.every := ⟨_, rfl⟩
    have q1 : M.tdiv 12 = M / 12 := Int.tdiv_eq_ediv_of_nonneg (by omega)
    have q2 : M.tmod 12 = M % 12 := Int.tmod_eq_emod_of_nonneg (by omega)
    have HE : Hid (pE r s k = if M / 12 ≤ 2199 then cutL (num (M / 12) (M % 12 + 1) 1) (ml (M / 12) (M % 12 + 1)) else none) := Lib.hid (by
      rw [pE_is HZ.out ⟨k0, k1⟩ ⟨s1, s2⟩]
      unfold pEnds
      rw [hf, if_neg (by decide), if_pos rfl, show yr s + (mo s - 1 + k * r.every) / 12 = M / 12 by omega, show 1 + (mo s - 1 + k * r.every) % 12 = M % 12 + 1 by omega])
    clear hf
    have MB : 22800 ≤ M ∧ M ≤ 10000000 := by omega
    have HM := Lib.hid hM
    rw [hM] at q1 q2
    clear hM
    go_enter Tryz.func152, Tryz.ntmps152
    go_wp2_with fail
    generalize w.alloc (.cells #[.int .i64 r.freq, .int .i64 r.every, .int .i64 r.count, .int .i64 r.till, .slice am r.months.length cm, .slice ad r.days.length cd, .slice aw r.weeks.length cw, .slice ap r.pick.length cp] 29) = W0 at HB HR ⊢
    refine (refDate_yes s _ s1 s2).mono ?_
    rintro e w2 ⟨rfl, hb⟩
    have B2 := HB.out.trans (hb.mono HB.out.size)
    have B3 := Lib.hid (B2.alloc B2.size (.cells #[.int .i64 (yr s), .int .i64 (mo s), .int .i64 (da s)] 88))
    obtain ⟨x0, x1, x2, x3, x4, x5, x6, x7⟩ := HR.out.on hb
    have ql := (HR.out.on hb).lt
    rw [HF.out] at x0
    clear hb B2
    go_wp2_with fail
    rw [← HM.out] at q1 q2 ⊢
    generalize w2.alloc (.cells #[.int .i64 (yr s), .int .i64 (mo s), .int .i64 (da s)] 88) = W3 at B3 ⊢
    clear x0 x1 x2 x3 x4 x5 x6 x7 ql
    have Y0 : 1900 ≤ M / 12 := by omega
    by_cases hy : M / 12 ≤ 2199
    · have nb := num_bd (ok_first (m := M % 12 + 1) Y0 hy (by omega) (by omega))
      have lb := ml_bd (M / 12) (M % 12 + 1)
      have C : Hid (pE r s k = some (num (M / 12) (M % 12 + 1) 1, min (num (M / 12) (M % 12 + 1) 1 + ml (M / 12) (M % 12 + 1) - 1) 109573)) := Lib.hid (by rw [HE.out, if_pos hy]; exact if_neg (by omega))
      have p1 : ml (M / 12) (M % 12 + 1) > 0 := by omega
      refine (refDays_yes (M / 12) (M % 12 + 1) _ Y0 hy (by omega) (by omega)).mono ?_
      rintro e w4 ⟨rfl, hw⟩
      subst hw
      go_wp2_with fail
      refine (refOf_yes (M / 12) (M % 12 + 1) 1 _ (ok_first Y0 hy (by omega) (by omega))).mono ?_
      rintro e w5 ⟨rfl, hb⟩
      have B5 := Lib.hid (B3.out.trans (hb.mono B3.out.size))
      clear hb
      go_wp2
      exact bodyPost_ret (v := .tuple #[.int .i64 (num (M / 12) (M % 12 + 1) 1), .int .i64 (num (M / 12) (M % 12 + 1) 1 + ml (M / 12) (M % 12 + 1) - 1), .bool true]) (by simp [results, Tryz.results152, go_sem]) rfl ⟨⟨_, _, _, rfl, Or.inr ⟨rfl, C.out⟩⟩, B5.out⟩
    · have C := Lib.hid (HE.out.trans (if_neg hy))
      refine (refDays_no (M / 12) (M % 12 + 1) _ (fun q => hy q.2.1)).mono ?_
      rintro e w4 ⟨rfl, hw⟩
      subst hw
      go_wp2_with fail
      refine (refOf_no (M / 12) (M % 12 + 1) 1 _ (fun q => by have := q.2.1; omega)).mono ?_
      rintro e w5 ⟨rfl, hb⟩
      have B5 := Lib.hid (B3.out.trans (hb.mono B3.out.size))
      clear hb
      go_wp2
      exact bodyPost_ret (v := .tuple #[.int .i64 0, .int .i64 (-1), .bool false]) (by simp [results, Tryz.results152, go_sem]) rfl ⟨⟨_, _, _, rfl, Or.inl ⟨C.out, rfl⟩⟩, B5.out⟩
  · have HF := Lib.hid hf
    have HE : Hid (pE r s k = if yr s + k * r.every ≤ 2199 then some (num (yr s + k * r.every) 1 1, num (yr s + k * r.every) 12 31) else none) := Lib.hid (by rw [pE_is HZ.out ⟨k0, k1⟩ ⟨s1, s2⟩]; unfold pEnds; rw [hf, if_neg (by decide), if_neg (by decide), if_pos rfl])
    clear hf
    go_enter Tryz.func152, Tryz.ntmps152
    go_wp2_with fail
    generalize w.alloc (.cells #[.int .i64 r.freq, .int .i64 r.every, .int .i64 r.count, .int .i64 r.till, .slice am r.months.length cm, .slice ad r.days.length cd, .slice aw r.weeks.length cw, .slice ap r.pick.length cp] 29) = W0 at HB HR ⊢
    refine (refDate_yes s _ s1 s2).mono ?_
    rintro e w2 ⟨rfl, hb⟩
    have B2 := HB.out.trans (hb.mono HB.out.size)
    have B3 := Lib.hid (B2.alloc B2.size (.cells #[.int .i64 (yr s), .int .i64 (mo s), .int .i64 (da s)] 88))
    obtain ⟨x0, x1, x2, x3, x4, x5, x6, x7⟩ := HR.out.on hb
    have ql := (HR.out.on hb).lt
    rw [HF.out] at x0
    clear hb B2
    go_wp2_with fail
    generalize w2.alloc (.cells #[.int .i64 (yr s), .int .i64 (mo s), .int .i64 (da s)] 88) = W3 at B3 ⊢
    clear x0 x1 x2 x3 x4 x5 x6 x7 ql
    generalize hY : yr s + k * r.every = Y at HE ⊢
    have Y1 : 1900 ≤ Y := by omega
    have Y3 : Y ≤ 10000000 := by omega
    clear hY
    by_cases hy : Y ≤ 2199
    · have C := Lib.hid (HE.out.trans (if_pos hy))
      have n1 := num_bd (ok_first (m := 1) Y1 hy (by omega) (by omega))
      have n2 := num_bd (y := Y) (m := 12) (d := 31) ⟨Y1, hy, by omega, by omega, by omega, by simp [ml, md]⟩
      have p1 : num Y 1 1 > 0 := by omega
      refine (refOf_yes Y 1 1 _ (ok_first Y1 hy (by omega) (by omega))).mono ?_
      rintro e w4 ⟨rfl, hb⟩
      have B4 := Lib.hid (B3.out.trans (hb.mono B3.out.size))
      clear hb
      go_wp2_with fail
      refine (refOf_yes Y 12 31 _ ⟨Y1, hy, by omega, by omega, by omega, by simp [ml, md]⟩).mono ?_
      rintro e w5 ⟨rfl, hb⟩
      have B5 := Lib.hid (B4.out.trans (hb.mono B4.out.size))
      clear hb
      go_wp2
      exact bodyPost_ret (v := .tuple #[.int .i64 (num Y 1 1), .int .i64 (num Y 12 31), .bool true]) (by simp [results, Tryz.results152, go_sem]) rfl ⟨⟨_, _, _, rfl, Or.inr ⟨rfl, by rw [C.out, show min (num Y 12 31) 109573 = num Y 12 31 by omega]⟩⟩, B5.out⟩
    · have C := Lib.hid (HE.out.trans (if_neg hy))
      refine (refOf_no Y 1 1 _ (fun q => hy q.2.1)).mono ?_
      rintro e w4 ⟨rfl, hb⟩
      have B4 := Lib.hid (B3.out.trans (hb.mono B3.out.size))
      clear hb
      go_wp2_with fail
      refine (refOf_no Y 12 31 _ (fun q => by have := q.2.1; omega)).mono ?_
      rintro e w5 ⟨rfl, hb⟩
      have B5 := Lib.hid (B4.out.trans (hb.mono B4.out.size))
      clear hb
      go_wp2
      exact bodyPost_ret (v := .tuple #[.int .i64 0, .int .i64 0, .bool false]) (by simp [results, Tryz.results152, go_sem]) rfl ⟨⟨_, _, _, rfl, Or.inl ⟨C.out, rfl⟩⟩, B5.out⟩
end Go.Proofs.YtoncfgfjdlgfcaaGreatDoor
namespace Go.Proofs.YtoncfgfjdlgfcaaGreatDoor
open Go.RowKit Cal

set_option maxHeartbeats 1000000 in
theorem refEnds_yes (n : Int) (w : World) (h1 : 1 ≤ n) (h2 : n ≤ 109573) :
    Calls Tryz.prog 233 #[.int .i64 n] w fun e w' => e = .returned (.tuple #[.int .i64 ((da n - 1) / 7 + 1), .int .i64 (-((ml (yr n) (mo n) - da n) / 7 + 1))]) ∧ Below w.heap.size w w' := by
  obtain ⟨y1, y2, m1, m2, d1, d2⟩ := date_ok h1 h2
  have lb := ml_bd (yr n) (mo n)
  go_enter Tryz.func233, Tryz.ntmps233
  go_wp2_with fail
  refine (refDate_yes n _ h1 h2).mono ?_
  rintro e w1 ⟨rfl, hb⟩
  go_wp2_with fail
  refine (refDays_yes (yr n) (mo n) _ y1 y2 m1 m2).mono ?_
  rintro e w2 ⟨rfl, hw⟩
  subst hw
  go_wp2_with fail
  go_quiet (fail)
  go_wp2
  go_ret2
  exact ⟨rfl, below_drewN (hb.trans ((Below.refl _ _).alloc hb.size _)) _⟩
theorem refEnds_at {y m d : Int} (w : World) (h : okD y m d) :
    Calls Tryz.prog 233 #[.int .i64 (num y m d)] w fun e w' => e = .returned (.tuple #[.int .i64 ((d - 1) / 7 + 1), .int .i64 (-((ml y m - d) / 7 + 1))]) ∧ Below w.heap.size w w' := by
  have b := num_bd h
  obtain ⟨e1, e2, e3⟩ := date_of h rfl
  have := refEnds_yes (num y m d) w b.1 b.2
  rwa [e1, e2, e3] at this
theorem refWeekday_wd (n : Int) (w : World) (h1 : 1 ≤ n) (h2 : n ≤ 109573) :
    Calls Tryz.prog 234 #[.int .i64 n] w fun e w' => e = .returned (.int .i64 (wd n)) ∧ w' = w := refWeekday_any n w h1 h2
theorem beq_t {a b : Int} (h : (a == b) = true) : a = b := beq_iff_eq.1 h
theorem beq_f {a b : Int} (h : (a == b) = false) : ¬ a = b := fun e => by rw [e] at h; simp at h
end Go.Proofs.YtoncfgfjdlgfcaaGreatDoor
