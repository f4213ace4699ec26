/-
  What is proved here: what package period's stretch, weekEnds, monthEnds, yearEnds, ends and Begin answer (contracts over the translation); the table of months is asked as a premise.
-/
import Derived.Test.YtdiijpjfkgnjkadGreatDoorPer
import Derived.Test.YtdiijpjfkgnjkadGreatDoorBA
import Derived.Test.YtdiijpjfkgnjkadGreatDoorWkNth
import Derived.Test.YtdiijpjfkgnjkadGreatDoorRlCheck2
namespace Go.Proofs.YtdiijpjfkgnjkadGreatDoor
open Go.RowKit Cal Txt

theorem RuleIn.form {w : World} {v : Value} {r : Rl} (h : RuleIn w v r) : ∃ am ad aw ap cm cd cw cp, v = .agg #[.int .i64 r.freq, .int .i64 r.every, .int .i64 r.count, .int .i64 r.till, .slice am r.months.length cm, .slice ad r.days.length cd, .slice aw r.weeks.length cw, .slice ap r.pick.length cp] := by
  obtain ⟨vm, vd, vw, vp, rfl, m1, d1, k1, p1⟩ := h
  obtain ⟨am, cm, rfl, _⟩ := m1
  obtain ⟨ad, cd, rfl, _⟩ := d1
  obtain ⟨aw, cw, rfl, _⟩ := k1
  obtain ⟨ap, cp, rfl, _⟩ := p1
  exact ⟨am, ad, aw, ap, cm, cd, cw, cp, rfl⟩
theorem flt_zero {k : Int} (h : k = 0) : fault k = .nilIface := if_pos h
theorem flt_some {k : Int} (h : ¬ k = 0) : fault k = .iface 58 (.int .i64 k) := if_neg h
/-- What is answered of a stretch of days. -/
def EndA : Option (Int × Int) → Value
  | some (a, b) => .tuple #[.int .i64 a, .int .i64 b, .nilIface]
  | none => .tuple #[.int .i64 0, .int .i64 0, errRange]
theorem cutL_no {f n : Int} (h : 109573 < f) : cutL f n = none := if_pos h
theorem cutL_yes {f n : Int} (h : f ≤ 109573) : cutL f n = some (f, min (f + n - 1) 109573) := if_neg (by omega)
theorem stretch_any (f n : Int) (w : World) (h0 : 0 ≤ f) (h1 : f ≤ 1000000000) (n0 : 0 ≤ n) (n1 : n ≤ 400) :
    Calls Tryz.prog 138 #[.int .i64 f, .int .i64 n] w fun e w' => e = .returned (EndA (cutL f n)) ∧ w' = w := by
  by_cases h : 109573 < f
  · rw [cutL_no h]
    go_enter Tryz.func138, Tryz.ntmps138
    go_wp2_with (go_at_call 66; refine (last_any _).mono ?_; rintro e w' ⟨rfl, rfl⟩)
    exact bodyPost_ret (v := EndA none) (by simp [results, Tryz.results138, go_sem, EndA]) rfl ⟨rfl, rfl⟩
  · rw [cutL_yes (by omega)]
    by_cases hm : f + n - 1 ≤ 109573
    · rw [show min (f + n - 1) 109573 = f + n - 1 by omega]
      go_enter Tryz.func138, Tryz.ntmps138
      go_wp2_with (go_at_call 66; refine (last_any _).mono ?_; rintro e w' ⟨rfl, rfl⟩)
      exact bodyPost_ret (v := EndA (some (f, f + n - 1))) (by simp [results, Tryz.results138, go_sem, EndA]) rfl ⟨rfl, rfl⟩
    · rw [show min (f + n - 1) 109573 = 109573 by omega]
      go_enter Tryz.func138, Tryz.ntmps138
      go_wp2_with (go_at_call 66; refine (last_any _).mono ?_; rintro e w' ⟨rfl, rfl⟩)
      exact bodyPost_ret (v := EndA (some (f, 109573))) (by simp [results, Tryz.results138, go_sem, EndA]) rfl ⟨rfl, rfl⟩
theorem weekEnds_any (s st : Int) (w : World) (h1 : 1 ≤ s) (h2 : s ≤ 109573) (t0 : 0 ≤ st) (t1 : st ≤ 5478650) :
    Calls Tryz.prog 135 #[.int .i64 s, .int .i64 st] w fun e w' => e = .returned (EndA (cutL (s - wd s + 1 + st * 7) 7)) ∧ w' = w := by
  obtain ⟨a1, a7⟩ := wd_bd s
  have a2 : wd s ≤ s := by unfold wd; omega
  have K := Lib.hid (weekday_wd s w h1 h2)
  generalize wd s = x at a1 a7 a2 K ⊢
  go_enter Tryz.func135, Tryz.ntmps135
  go_wp2_with fail
  refine K.out.mono ?_
  rintro e w1 ⟨rfl, hw⟩
  subst hw
  go_wp2_with fail
  refine (stretch_any (s - x + 1 + st * 7) 7 _ (by omega) (by omega) (by omega) (by omega)).mono ?_
  rintro e w1 ⟨rfl, hw⟩
  subst hw
  rcases hq : cutL (s - x + 1 + st * 7) 7 with _ | ⟨a, b⟩
  · have HQ := Lib.hid hq
    clear hq
    simp only [EndA]
    go_wp2
    exact bodyPost_ret (v := EndA none) (by simp [results, Tryz.results135, go_sem, EndA]) rfl ⟨by rw [HQ.out], rfl⟩
  · have HQ := Lib.hid hq
    clear hq
    simp only [EndA]
    go_wp2
    exact bodyPost_ret (v := EndA (some (a, b))) (by simp [results, Tryz.results135, go_sem, EndA]) rfl ⟨by rw [HQ.out], rfl⟩
/-- First and last day of a month that lies so many behind another. -/
def monE (y m st : Int) : Option (Int × Int) := if y + (m - 1 + st) / 12 ≤ 2199 then cutL (num (y + (m - 1 + st) / 12) (1 + (m - 1 + st) % 12) 1) (ml (y + (m - 1 + st) / 12) (1 + (m - 1 + st) % 12)) else none
/-- First and last day of a year. -/
def yeaE (y : Int) : Option (Int × Int) := if y ≤ 2199 then some (num y 1 1, num y 12 31) else none
set_option maxRecDepth 100000 in
theorem monthEnds_any (y m d st : Int) (w : World) (hT : Tab w) (y1 : 1900 ≤ y) (y2 : y ≤ 2199) (m1 : 1 ≤ m) (m2 : m ≤ 12) (t0 : 0 ≤ st) (t1 : st ≤ 5478650) :
    Calls Tryz.prog 136 #[.agg #[.int .i64 y, .int .i64 m, .int .i64 d], .int .i64 st] w fun e w' => e = .returned (EndA (monE y m st)) ∧ Below w.heap.size w w' := by
  have q1 : (m - 1 + st).tdiv 12 = (m - 1 + st) / 12 := Int.tdiv_eq_ediv_of_nonneg (by omega)
  have q2 : (m - 1 + st).tmod 12 = (m - 1 + st) % 12 := Int.tmod_eq_emod_of_nonneg (by omega)
  have B0 := Lib.hid ((Below.refl w.heap.size w).alloc (Nat.le_refl _) (.cells #[.int .i64 y, .int .i64 m, .int .i64 d] 109))
  have T0 := Lib.hid (hT.alloc (.cells #[.int .i64 y, .int .i64 m, .int .i64 d] 109))
  clear hT
  by_cases hy : y + (m - 1 + st) / 12 ≤ 2199
  · have HE : Hid (monE y m st = cutL (num (y + (m - 1 + st) / 12) (1 + (m - 1 + st) % 12) 1) (ml (y + (m - 1 + st) / 12) (1 + (m - 1 + st) % 12))) := Lib.hid (if_pos hy)
    go_enter Tryz.func136, Tryz.ntmps136
    go_wp2_with fail
    generalize w.alloc (.cells #[.int .i64 y, .int .i64 m, .int .i64 d] 109) = W0 at T0 B0 ⊢
    obtain ⟨Y, hY⟩ : ∃ Y, Y = y + (m - 1 + st) / 12 := ⟨_, rfl⟩
    obtain ⟨M, hM⟩ : ∃ M, M = 1 + (m - 1 + st) % 12 := ⟨_, rfl⟩
    have Y1 : 1900 ≤ Y := by omega
    have Y2 : Y ≤ 2199 := by omega
    have M1 : 1 ≤ M := by omega
    have M2 : M ≤ 12 := by omega
    rw [← hY, ← hM] at HE
    rw [← hY, ← hM]
    have nb := num_bd (ok_first Y1 Y2 M1 M2)
    have lb := ml_bd Y M
    clear hY hM q1 q2 hy
    refine (days_yes Y M _ T0.out Y1 Y2 M1 M2).mono ?_
    rintro e w1 ⟨rfl, hw⟩
    subst hw
    go_wp2_with fail
    refine (of_yes Y M 1 _ T0.out (ok_first Y1 Y2 M1 M2)).mono ?_
    rintro e w2 ⟨rfl, hb⟩
    have B2 := Lib.hid (B0.out.trans (hb.mono B0.out.size))
    clear hb
    go_wp2_with fail
    refine (stretch_any (num Y M 1) (ml Y M) _ (by omega) (by omega) (by omega) (by omega)).mono ?_
    rintro e w1 ⟨rfl, hw⟩
    subst hw
    rcases hq : cutL (num Y M 1) (ml Y M) with _ | ⟨a, b⟩
    · have HQ := Lib.hid hq
      clear hq
      simp only [EndA]
      go_wp2
      exact bodyPost_ret (v := EndA none) (by simp [results, Tryz.results136, go_sem, EndA]) rfl ⟨by rw [HE.out, HQ.out], B2.out⟩
    · have HQ := Lib.hid hq
      clear hq
      simp only [EndA]
      go_wp2
      exact bodyPost_ret (v := EndA (some (a, b))) (by simp [results, Tryz.results136, go_sem, EndA]) rfl ⟨by rw [HE.out, HQ.out], B2.out⟩
  · have HE : Hid (monE y m st = none) := Lib.hid (if_neg hy)
    go_enter Tryz.func136, Tryz.ntmps136
    go_wp2_with fail
    refine (days_no _ _ _ (by omega)).mono ?_
    rintro e w1 ⟨rfl, hw⟩
    subst hw
    go_wp2
    exact bodyPost_ret (v := EndA none) (by simp [results, Tryz.results136, go_sem, EndA]) rfl ⟨by rw [HE.out], B0.out⟩
theorem ok_first1 {y : Int} (h1 : 1900 ≤ y) (h2 : y ≤ 2199) : okD y 1 1 := ok_first h1 h2 (by omega) (by omega)
theorem ok_last31 {y : Int} (h1 : 1900 ≤ y) (h2 : y ≤ 2199) : okD y 12 31 := ⟨h1, h2, by omega, by omega, by omega, by simp [ml, md]⟩
set_option maxRecDepth 100000 in
theorem yearEnds_any (y : Int) (w : World) (hT : Tab w) (y1 : 1900 ≤ y) (y2 : y ≤ 100000000) :
    Calls Tryz.prog 137 #[.int .i64 y] w fun e w' => e = .returned (EndA (yeaE y)) ∧ Below w.heap.size w w' := by
  by_cases hy : y ≤ 2199
  · have HE : Hid (yeaE y = some (num y 1 1, num y 12 31)) := Lib.hid (if_pos hy)
    go_enter Tryz.func137, Tryz.ntmps137
    go_wp2_with fail
    refine (of_yes y 1 1 _ hT (ok_first1 y1 hy)).mono ?_
    rintro e w1 ⟨rfl, hb⟩
    have T1 := Lib.hid (hT.below hb)
    have B1 := Lib.hid hb
    clear hb
    go_wp2_with fail
    refine (of_yes y 12 31 _ T1.out (ok_last31 y1 hy)).mono ?_
    rintro e w2 ⟨rfl, hb⟩
    have B2 := Lib.hid (B1.out.trans (hb.mono B1.out.size))
    clear hb
    go_wp2
    exact bodyPost_ret (v := EndA (some (num y 1 1, num y 12 31))) (by simp [results, Tryz.results137, go_sem, EndA]) rfl ⟨by rw [HE.out], B2.out⟩
  · have HE : Hid (yeaE y = none) := Lib.hid (if_neg hy)
    go_enter Tryz.func137, Tryz.ntmps137
    go_wp2_with fail
    refine (of_no y 1 1 _ hT (fun q => by have := q.2.1; omega)).mono ?_
    rintro e w1 ⟨rfl, hb⟩
    go_wp2
    exact bodyPost_ret (v := EndA none) (by simp [results, Tryz.results137, go_sem, EndA]) rfl ⟨by rw [HE.out], hb⟩
theorem pE_no {r : Rl} {s k : Int} (h : ¬ (rf r = 0 ∧ (0 ≤ k ∧ k ≤ 109573) ∧ (1 ≤ s ∧ s ≤ 109573))) : pE r s k = none := if_neg h
theorem pE_yes {r : Rl} {s k : Int} (h : rf r = 0 ∧ (0 ≤ k ∧ k ≤ 109573) ∧ (1 ≤ s ∧ s ≤ 109573)) : pE r s k = pEnds r.freq r.every s k := if_pos h
set_option maxRecDepth 100000 in
set_option maxHeartbeats 4000000 in
theorem ends_any (r : Rl) (v : Value) (s k : Int) (w : World) (hv : RuleIn w v r) (hT : Tab w) :
    Calls Tryz.prog 129 #[v, .int .i64 s, .int .i64 k] w fun e w' => e = .returned (EndA (pE r s k)) ∧ Below w.heap.size w w' := by
  obtain ⟨am, ad, aw, ap, cm, cd, cw, cp, rfl⟩ := hv.form
  have B0 := (Below.refl w.heap.size w).alloc (Nat.le_refl _) (.cells #[.int .i64 r.freq, .int .i64 r.every, .int .i64 r.count, .int .i64 r.till, .slice am r.months.length cm, .slice ad r.days.length cd, .slice aw r.weeks.length cw, .slice ap r.pick.length cp] 25)
  have KC := Lib.hid (check_any r _ _ (hv.on B0))
  have T0 := Lib.hid (hT.below B0)
  have HR := Lib.hid (RBox.new w r.freq r.every r.count r.till (.slice am r.months.length cm) (.slice ad r.days.length cd) (.slice aw r.weeks.length cw) (.slice ap r.pick.length cp) 25)
  have HB := Lib.hid B0
  clear B0 hv hT
  by_cases hz : rf r = 0
  case neg =>
    have HE : Hid (pE r s k = none) := Lib.hid (pE_no (fun q => hz q.1))
    rw [flt_some hz] at KC
    go_enter Tryz.func129, Tryz.ntmps129
    go_wp2_with fail
    refine KC.out.mono ?_
    rintro e w1 ⟨rfl, hb⟩
    have B1 := HB.out.trans (hb.mono HB.out.size)
    clear hb
    go_wp2
    exact bodyPost_ret (v := EndA none) (by simp [results, Tryz.results129, go_sem, EndA]) rfl ⟨by rw [HE.out], B1⟩
  obtain ⟨⟨f1, f4⟩, e1, e50⟩ := rf_nums hz
  have HZ := Lib.hid hz
  rw [flt_zero hz] at KC
  clear hz
  by_cases hk : 0 ≤ k ∧ k ≤ 109573
  case neg =>
    have HE : Hid (pE r s k = none) := Lib.hid (pE_no (fun q => hk q.2.1))
    rcases (by omega : k < 0 ∨ (0 ≤ k ∧ 109573 < k)) with g | ⟨g, g'⟩
    all_goals
      clear hk
      go_enter Tryz.func129, Tryz.ntmps129
      go_wp2_with fail
      refine KC.out.mono ?_
      rintro e w1 ⟨rfl, hb⟩
      have B1 := HB.out.trans (hb.mono HB.out.size)
      clear hb
      go_wp2_with (go_at_call 66; refine (last_any _).mono ?_; rintro e w' ⟨rfl, rfl⟩)
      exact bodyPost_ret (v := EndA none) (by simp [results, Tryz.results129, go_sem, EndA]) rfl ⟨by rw [HE.out], B1⟩
  obtain ⟨k0, k1⟩ := hk
  by_cases hs : 1 ≤ s ∧ s ≤ 109573
  case neg =>
    have HE : Hid (pE r s k = none) := Lib.hid (pE_no (fun q => hs q.2.2))
    have HS := Lib.hid hs
    clear hs
    go_enter Tryz.func129, Tryz.ntmps129
    go_wp2_with fail
    refine KC.out.mono ?_
    rintro e w1 ⟨rfl, hb⟩
    have B1 := HB.out.trans (hb.mono HB.out.size)
    clear hb
    go_wp2_with (go_at_call 66; refine (last_any _).mono ?_; rintro e w' ⟨rfl, rfl⟩)
    refine (date_no s _ HS.out).mono ?_
    rintro e w2 ⟨rfl, hb⟩
    have B2 := Lib.hid (B1.trans (hb.mono B1.size))
    clear hb B1
    unfold noDate
    go_wp2
    exact bodyPost_ret (v := EndA none) (by simp [results, Tryz.results129, go_sem, EndA]) rfl ⟨by rw [HE.out], B2.out.alloc B2.out.size _⟩
  obtain ⟨s1, s2⟩ := hs
  obtain ⟨t0, t1⟩ := st_bd ⟨k0, k1⟩ ⟨e1, e50⟩
  obtain ⟨y1, y2, m1, m2, d1, d2⟩ := date_ok s1 s2
  rcases fr4 ⟨f1, f4⟩ with hf | hf | hf | hf
  · have HF := Lib.hid hf
    have HE : Hid (pE r s k = cutL (s + (k * r.every)) 1) := Lib.hid (by rw [pE_yes ⟨HZ.out, ⟨k0, k1⟩, s1, s2⟩]; unfold pEnds; rw [hf, if_neg (by decide), if_neg (by decide), if_neg (by decide)])
    clear hf
    go_enter Tryz.func129, Tryz.ntmps129
    go_wp2_with fail
    refine KC.out.mono ?_
    rintro e w1 ⟨rfl, hb⟩
    have B1 := HB.out.trans (hb.mono HB.out.size)
    have T1 := T0.out.below hb
    have R1 := Lib.hid (HR.out.on hb)
    clear hb
    go_wp2_with (go_at_call 66; refine (last_any _).mono ?_; rintro e w' ⟨rfl, rfl⟩)
    refine (date_yes s _ T1 s1 s2).mono ?_
    rintro e w2 ⟨rfl, hb⟩
    have B2 := B1.trans (hb.mono B1.size)
    have B3 := Lib.hid (B2.alloc B2.size (.cells #[.int .i64 (yr s), .int .i64 (mo s), .int .i64 (da s)] 109))
    have T2 := Lib.hid ((T1.below hb).alloc (.cells #[.int .i64 (yr s), .int .i64 (mo s), .int .i64 (da s)] 109))
    have R2 := Lib.hid (R1.out.on hb)
    clear hb B1 B2 T1 R1
    obtain ⟨x0, x1, x2, x3, x4, x5, x6, x7⟩ := R2.out
    have ql := R2.out.lt
    rw [HF.out] at x0
    clear R2 HR KC
    go_wp2_with fail
    generalize k * r.every = st at t0 t1 HE ⊢
    generalize w2.alloc (.cells #[.int .i64 (yr s), .int .i64 (mo s), .int .i64 (da s)] 109) = W3 at B3 T2 ⊢
    clear x0 x1 x2 x3 x4 x5 x6 x7 ql
    refine (stretch_any (s + st) 1 _ (by omega) (by omega) (by omega) (by omega)).mono ?_
    rintro e w4 ⟨rfl, hw⟩
    subst hw
    have B4 := B3
    rcases hq : cutL (s + st) 1 with _ | ⟨a, b⟩
    · have HQ := Lib.hid hq
      clear hq
      simp only [EndA]
      go_wp2
      exact bodyPost_ret (v := EndA none) (by simp [results, Tryz.results129, go_sem, EndA]) rfl ⟨by rw [HE.out, HQ.out], B4.out⟩
    · have HQ := Lib.hid hq
      clear hq
      simp only [EndA]
      go_wp2
      exact bodyPost_ret (v := EndA (some (a, b))) (by simp [results, Tryz.results129, go_sem, EndA]) rfl ⟨by rw [HE.out, HQ.out], B4.out⟩
  · have HF := Lib.hid hf
    have HE : Hid (pE r s k = cutL (s - wd s + 1 + (k * r.every) * 7) 7) := Lib.hid (by rw [pE_yes ⟨HZ.out, ⟨k0, k1⟩, s1, s2⟩]; unfold pEnds; rw [hf, if_pos rfl])
    clear hf
    go_enter Tryz.func129, Tryz.ntmps129
    go_wp2_with fail
    refine KC.out.mono ?_
    rintro e w1 ⟨rfl, hb⟩
    have B1 := HB.out.trans (hb.mono HB.out.size)
    have T1 := T0.out.below hb
    have R1 := Lib.hid (HR.out.on hb)
    clear hb
    go_wp2_with (go_at_call 66; refine (last_any _).mono ?_; rintro e w' ⟨rfl, rfl⟩)
    refine (date_yes s _ T1 s1 s2).mono ?_
    rintro e w2 ⟨rfl, hb⟩
    have B2 := B1.trans (hb.mono B1.size)
    have B3 := Lib.hid (B2.alloc B2.size (.cells #[.int .i64 (yr s), .int .i64 (mo s), .int .i64 (da s)] 109))
    have T2 := Lib.hid ((T1.below hb).alloc (.cells #[.int .i64 (yr s), .int .i64 (mo s), .int .i64 (da s)] 109))
    have R2 := Lib.hid (R1.out.on hb)
    clear hb B1 B2 T1 R1
    obtain ⟨x0, x1, x2, x3, x4, x5, x6, x7⟩ := R2.out
    have ql := R2.out.lt
    rw [HF.out] at x0
    clear R2 HR KC
    go_wp2_with fail
    generalize k * r.every = st at t0 t1 HE ⊢
    generalize w2.alloc (.cells #[.int .i64 (yr s), .int .i64 (mo s), .int .i64 (da s)] 109) = W3 at B3 T2 ⊢
    clear x0 x1 x2 x3 x4 x5 x6 x7 ql
    refine (weekEnds_any s st _ s1 s2 t0 t1).mono ?_
    rintro e w4 ⟨rfl, hw⟩
    subst hw
    have B4 := B3
    rcases hq : cutL (s - wd s + 1 + st * 7) 7 with _ | ⟨a, b⟩
    · have HQ := Lib.hid hq
      clear hq
      simp only [EndA]
      go_wp2
      exact bodyPost_ret (v := EndA none) (by simp [results, Tryz.results129, go_sem, EndA]) rfl ⟨by rw [HE.out, HQ.out], B4.out⟩
    · have HQ := Lib.hid hq
      clear hq
      simp only [EndA]
      go_wp2
      exact bodyPost_ret (v := EndA (some (a, b))) (by simp [results, Tryz.results129, go_sem, EndA]) rfl ⟨by rw [HE.out, HQ.out], B4.out⟩
  · have HF := Lib.hid hf
    have HE : Hid (pE r s k = monE (yr s) (mo s) (k * r.every)) := Lib.hid (by rw [pE_yes ⟨HZ.out, ⟨k0, k1⟩, s1, s2⟩]; unfold pEnds; rw [hf, if_neg (by decide), if_pos rfl]; rfl)
    clear hf
    go_enter Tryz.func129, Tryz.ntmps129
    go_wp2_with fail
    refine KC.out.mono ?_
    rintro e w1 ⟨rfl, hb⟩
    have B1 := HB.out.trans (hb.mono HB.out.size)
    have T1 := T0.out.below hb
    have R1 := Lib.hid (HR.out.on hb)
    clear hb
    go_wp2_with (go_at_call 66; refine (last_any _).mono ?_; rintro e w' ⟨rfl, rfl⟩)
    refine (date_yes s _ T1 s1 s2).mono ?_
    rintro e w2 ⟨rfl, hb⟩
    have B2 := B1.trans (hb.mono B1.size)
    have B3 := Lib.hid (B2.alloc B2.size (.cells #[.int .i64 (yr s), .int .i64 (mo s), .int .i64 (da s)] 109))
    have T2 := Lib.hid ((T1.below hb).alloc (.cells #[.int .i64 (yr s), .int .i64 (mo s), .int .i64 (da s)] 109))
    have R2 := Lib.hid (R1.out.on hb)
    clear hb B1 B2 T1 R1
    obtain ⟨x0, x1, x2, x3, x4, x5, x6, x7⟩ := R2.out
    have ql := R2.out.lt
    rw [HF.out] at x0
    clear R2 HR KC
    go_wp2_with fail
    generalize k * r.every = st at t0 t1 HE ⊢
    generalize w2.alloc (.cells #[.int .i64 (yr s), .int .i64 (mo s), .int .i64 (da s)] 109) = W3 at B3 T2 ⊢
    clear x0 x1 x2 x3 x4 x5 x6 x7 ql
    refine (monthEnds_any (yr s) (mo s) (da s) st _ T2.out y1 y2 m1 m2 t0 t1).mono ?_
    rintro e w4 ⟨rfl, hb⟩
    have B4 := Lib.hid (B3.out.trans (hb.mono B3.out.size))
    clear hb
    rcases hq : monE (yr s) (mo s) st with _ | ⟨a, b⟩
    · have HQ := Lib.hid hq
      clear hq
      simp only [EndA]
      go_wp2
      exact bodyPost_ret (v := EndA none) (by simp [results, Tryz.results129, go_sem, EndA]) rfl ⟨by rw [HE.out, HQ.out], B4.out⟩
    · have HQ := Lib.hid hq
      clear hq
      simp only [EndA]
      go_wp2
      exact bodyPost_ret (v := EndA (some (a, b))) (by simp [results, Tryz.results129, go_sem, EndA]) rfl ⟨by rw [HE.out, HQ.out], B4.out⟩
  · have HF := Lib.hid hf
    have HE : Hid (pE r s k = yeaE (yr s + (k * r.every))) := Lib.hid (by rw [pE_yes ⟨HZ.out, ⟨k0, k1⟩, s1, s2⟩]; unfold pEnds; rw [hf, if_neg (by decide), if_neg (by decide), if_pos rfl]; rfl)
    clear hf
    go_enter Tryz.func129, Tryz.ntmps129
    go_wp2_with fail
    refine KC.out.mono ?_
    rintro e w1 ⟨rfl, hb⟩
    have B1 := HB.out.trans (hb.mono HB.out.size)
    have T1 := T0.out.below hb
    have R1 := Lib.hid (HR.out.on hb)
    clear hb
    go_wp2_with (go_at_call 66; refine (last_any _).mono ?_; rintro e w' ⟨rfl, rfl⟩)
    refine (date_yes s _ T1 s1 s2).mono ?_
    rintro e w2 ⟨rfl, hb⟩
    have B2 := B1.trans (hb.mono B1.size)
    have B3 := Lib.hid (B2.alloc B2.size (.cells #[.int .i64 (yr s), .int .i64 (mo s), .int .i64 (da s)] 109))
    have T2 := Lib.hid ((T1.below hb).alloc (.cells #[.int .i64 (yr s), .int .i64 (mo s), .int .i64 (da s)] 109))
    have R2 := Lib.hid (R1.out.on hb)
    clear hb B1 B2 T1 R1
    obtain ⟨x0, x1, x2, x3, x4, x5, x6, x7⟩ := R2.out
    have ql := R2.out.lt
    rw [HF.out] at x0
    clear R2 HR KC
    go_wp2_with fail
    generalize k * r.every = st at t0 t1 HE ⊢
    generalize w2.alloc (.cells #[.int .i64 (yr s), .int .i64 (mo s), .int .i64 (da s)] 109) = W3 at B3 T2 ⊢
    clear x0 x1 x2 x3 x4 x5 x6 x7 ql
    refine (yearEnds_any (yr s + st) _ T2.out (by omega) (by omega)).mono ?_
    rintro e w4 ⟨rfl, hb⟩
    have B4 := Lib.hid (B3.out.trans (hb.mono B3.out.size))
    clear hb
    rcases hq : yeaE (yr s + st) with _ | ⟨a, b⟩
    · have HQ := Lib.hid hq
      clear hq
      simp only [EndA]
      go_wp2
      exact bodyPost_ret (v := EndA none) (by simp [results, Tryz.results129, go_sem, EndA]) rfl ⟨by rw [HE.out, HQ.out], B4.out⟩
    · have HQ := Lib.hid hq
      clear hq
      simp only [EndA]
      go_wp2
      exact bodyPost_ret (v := EndA (some (a, b))) (by simp [results, Tryz.results129, go_sem, EndA]) rfl ⟨by rw [HE.out, HQ.out], B4.out⟩
/-- What is answered of where a period begins. -/
def BegA : Option (Int × Int) → Value
  | some (a, _) => .tuple #[.int .i64 a, .nilIface]
  | none => .tuple #[.int .i64 0, errRange]
theorem begin_any (r : Rl) (v : Value) (s k : Int) (w : World) (hv : RuleIn w v r) (hT : Tab w) :
    Calls Tryz.prog 127 #[v, .int .i64 s, .int .i64 k] w fun e w' => e = .returned (BegA (pE r s k)) ∧ Below w.heap.size w w' := by
  obtain ⟨am, ad, aw, ap, cm, cd, cw, cp, rfl⟩ := hv.form
  have B0 := (Below.refl w.heap.size w).alloc (Nat.le_refl _) (.cells #[.int .i64 r.freq, .int .i64 r.every, .int .i64 r.count, .int .i64 r.till, .slice am r.months.length cm, .slice ad r.days.length cd, .slice aw r.weeks.length cw, .slice ap r.pick.length cp] 25)
  have KC := Lib.hid (ends_any r _ s k _ (hv.on B0) (hT.below B0))
  have HB := Lib.hid B0
  clear B0 hv hT
  go_enter Tryz.func127, Tryz.ntmps127
  go_wp2_with fail
  refine KC.out.mono ?_
  rintro e w1 ⟨rfl, hb⟩
  have B1 := Lib.hid (HB.out.trans (hb.mono HB.out.size))
  clear hb
  rcases hq : pE r s k with _ | ⟨a, b⟩
  · have HQ := Lib.hid hq
    clear hq KC HB
    simp only [EndA]
    go_wp2
    exact bodyPost_ret (v := BegA none) (by simp [results, Tryz.results127, go_sem, BegA]) rfl ⟨by rw [HQ.out], B1.out⟩
  · have HQ := Lib.hid hq
    clear hq KC HB
    simp only [EndA]
    go_wp2
    exact bodyPost_ret (v := BegA (some (a, b))) (by simp [results, Tryz.results127, go_sem, BegA]) rfl ⟨by rw [HQ.out], B1.out⟩
end Go.Proofs.YtdiijpjfkgnjkadGreatDoor
