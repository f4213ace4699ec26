/-
  What is proved here: what package period's stretch, weekEnds, monthEnds, yearEnds, ends and Begin answer (contracts over the translation); the table of months is asked as a premise.
  What is proved here: words on blocks of a call's own: that they are there, and a store of a whole struct into one.
  What is proved here: what slices.Contains answers of numbers, and package period's names and placeOf (contracts over the translation).
  What is proved here: what package period's closures answer of a day's place, and what asked makes (contracts over the translation).
  What is proved here: what package period's closures over a rule answer of a day's place, and what asked makes (contracts over the translation).
-/
import Derived.Test.YthdohcjingfpoaaGreatDoorPer
import Derived.Test.YthdohcjingfpoaaGreatDoorBA
import Derived.Test.YthdohcjingfpoaaGreatDoorBB
import Derived.Test.YthdohcjingfpoaaGreatDoorBD
import Derived.Test.YthdohcjingfpoaaGreatDoorLow
import Derived.Deep.MidRow
import Derived.BigQuiet
import Derived.Lib.QuietBelow
import Derived.Shelf.Abstract
import Derived.Laws.EntriesVeiled
namespace Go.Proofs.YthdohcjingfpoaaGreatDoor
open Go.RowKit Cal Txt

theorem RuleIn.form {w : World} {v : Value} {r : Rl} (h : RuleIn w v r) : ∃ am ad aw ap cm cd cw cp, v = .agg #[.int .i64 r.freq, .int .i64 r.every, .int .i64 r.count, .int .i64 r.till, .slice am r.months.length cm, .slice ad r.days.length cd, .slice aw r.weeks.length cw, .slice ap r.pick.length cp] := by
  obtain ⟨vm, vd, vw, vp, rfl, m1, d1, k1, p1⟩ := h
  obtain ⟨am, cm, rfl, _⟩ := m1
  obtain ⟨ad, cd, rfl, _⟩ := d1
  obtain ⟨aw, cw, rfl, _⟩ := k1
  obtain ⟨ap, cp, rfl, _⟩ := p1
  exact ⟨am, ad, aw, ap, cm, cd, cw, cp, rfl⟩
theorem flt_zero {k : Int} (h : k = 0) : fault k = .nilIface := if_pos h
theorem flt_some {k : Int} (h : ¬ k = 0) : fault k = .iface 86 (.int .i64 k) := if_neg h
/-- What is answered of a stretch of days. -/
def EndA : Option (Int × Int) → Value
  | some (a, b) => .tuple #[.int .i64 a, .int .i64 b, .nilIface]
  | none => .tuple #[.int .i64 0, .int .i64 0, errRange]
theorem cutL_no {f n : Int} (h : 109573 < f) : cutL f n = none := if_pos h
theorem cutL_yes {f n : Int} (h : f ≤ 109573) : cutL f n = some (f, min (f + n - 1) 109573) := if_neg (by omega)
theorem stretch_any (f n : Int) (w : World) (h0 : 0 ≤ f) (h1 : f ≤ 1000000000) (n0 : 0 ≤ n) (n1 : n ≤ 400) :
    Calls Tryz.prog 287 #[.int .i64 f, .int .i64 n] w fun e w' => e = .returned (EndA (cutL f n)) ∧ w' = w := by
  by_cases h : 109573 < f
  · rw [cutL_no h]
    go_enter Tryz.func287, Tryz.ntmps287
    go_wp2_with (go_at_call 22; refine (last_any _).mono ?_; rintro e w' ⟨rfl, rfl⟩)
    exact bodyPost_ret (v := EndA none) (by simp [results, Tryz.results287, go_sem, EndA]) rfl ⟨rfl, rfl⟩
  · rw [cutL_yes (by omega)]
    by_cases hm : f + n - 1 ≤ 109573
    · rw [show min (f + n - 1) 109573 = f + n - 1 by omega]
      go_enter Tryz.func287, Tryz.ntmps287
      go_wp2_with (go_at_call 22; refine (last_any _).mono ?_; rintro e w' ⟨rfl, rfl⟩)
      exact bodyPost_ret (v := EndA (some (f, f + n - 1))) (by simp [results, Tryz.results287, go_sem, EndA]) rfl ⟨rfl, rfl⟩
    · rw [show min (f + n - 1) 109573 = 109573 by omega]
      go_enter Tryz.func287, Tryz.ntmps287
      go_wp2_with (go_at_call 22; refine (last_any _).mono ?_; rintro e w' ⟨rfl, rfl⟩)
      exact bodyPost_ret (v := EndA (some (f, 109573))) (by simp [results, Tryz.results287, go_sem, EndA]) rfl ⟨rfl, rfl⟩
theorem weekEnds_any (s st : Int) (w : World) (h1 : 1 ≤ s) (h2 : s ≤ 109573) (t0 : 0 ≤ st) (t1 : st ≤ 5478650) :
    Calls Tryz.prog 284 #[.int .i64 s, .int .i64 st] w fun e w' => e = .returned (EndA (cutL (s - wd s + 1 + st * 7) 7)) ∧ w' = w := by
  obtain ⟨a1, a7⟩ := wd_bd s
  have a2 : wd s ≤ s := by unfold wd; omega
  have K := Lib.hid (weekday_wd s w h1 h2)
  generalize wd s = x at a1 a7 a2 K ⊢
  go_enter Tryz.func284, Tryz.ntmps284
  go_wp2_with fail
  refine K.out.mono ?_
  rintro e w1 ⟨rfl, hw⟩
  subst hw
  go_wp2_with fail
  refine (stretch_any (s - x + 1 + st * 7) 7 _ (by omega) (by omega) (by omega) (by omega)).mono ?_
  rintro e w1 ⟨rfl, hw⟩
  subst hw
  rcases hq : cutL (s - x + 1 + st * 7) 7 with _ | ⟨a, b⟩
  · have HQ := Lib.hid hq
    clear hq
    simp only [EndA]
    go_wp2
    exact bodyPost_ret (v := EndA none) (by simp [results, Tryz.results284, go_sem, EndA]) rfl ⟨by rw [HQ.out], rfl⟩
  · have HQ := Lib.hid hq
    clear hq
    simp only [EndA]
    go_wp2
    exact bodyPost_ret (v := EndA (some (a, b))) (by simp [results, Tryz.results284, go_sem, EndA]) rfl ⟨by rw [HQ.out], rfl⟩
/-- First and last day of a month that lies so many behind another. -/
def monE (y m st : Int) : Option (Int × Int) := if y + (m - 1 + st) / 12 ≤ 2199 then cutL (num (y + (m - 1 + st) / 12) (1 + (m - 1 + st) % 12) 1) (ml (y + (m - 1 + st) / 12) (1 + (m - 1 + st) % 12)) else none
/-- First and last day of a year. -/
def yeaE (y : Int) : Option (Int × Int) := if y ≤ 2199 then some (num y 1 1, num y 12 31) else none
set_option maxRecDepth 100000 in
theorem monthEnds_any (y m d st : Int) (w : World) (hT : Tab w) (y1 : 1900 ≤ y) (y2 : y ≤ 2199) (m1 : 1 ≤ m) (m2 : m ≤ 12) (t0 : 0 ≤ st) (t1 : st ≤ 5478650) :
    Calls Tryz.prog 285 #[.agg #[.int .i64 y, .int .i64 m, .int .i64 d], .int .i64 st] w fun e w' => e = .returned (EndA (monE y m st)) ∧ Below w.heap.size w w' := by
  have q1 : (m - 1 + st).tdiv 12 = (m - 1 + st) / 12 := Int.tdiv_eq_ediv_of_nonneg (by omega)
  have q2 : (m - 1 + st).tmod 12 = (m - 1 + st) % 12 := Int.tmod_eq_emod_of_nonneg (by omega)
  have B0 := Lib.hid ((Below.refl w.heap.size w).alloc (Nat.le_refl _) (.cells #[.int .i64 y, .int .i64 m, .int .i64 d] 279))
  have T0 := Lib.hid (hT.alloc (.cells #[.int .i64 y, .int .i64 m, .int .i64 d] 279))
  clear hT
  by_cases hy : y + (m - 1 + st) / 12 ≤ 2199
  · have HE : Hid (monE y m st = cutL (num (y + (m - 1 + st) / 12) (1 + (m - 1 + st) % 12) 1) (ml (y + (m - 1 + st) / 12) (1 + (m - 1 + st) % 12))) := Lib.hid (if_pos hy)
    go_enter Tryz.func285, Tryz.ntmps285
    go_wp2_with fail
    generalize w.alloc (.cells #[.int .i64 y, .int .i64 m, .int .i64 d] 279) = W0 at T0 B0 ⊢
    obtain ⟨Y, hY⟩ : ∃ Y, Y = y + (m - 1 + st) / 12 := ⟨_, rfl⟩
    obtain ⟨M, hM⟩ : ∃ M, M = 1 + (m - 1 + st) % 12 := ⟨_, rfl⟩
    have Y1 : 1900 ≤ Y := by omega
    have Y2 : Y ≤ 2199 := by omega
    have M1 : 1 ≤ M := by omega
    have M2 : M ≤ 12 := by omega
    rw [← hY, ← hM] at HE
    rw [← hY, ← hM]
    have nb := num_bd (ok_first Y1 Y2 M1 M2)
    have lb := ml_bd Y M
    clear hY hM q1 q2 hy
    refine (days_yes Y M _ T0.out Y1 Y2 M1 M2).mono ?_
    rintro e w1 ⟨rfl, hw⟩
    subst hw
    go_wp2_with fail
    refine (of_yes Y M 1 _ T0.out (ok_first Y1 Y2 M1 M2)).mono ?_
    rintro e w2 ⟨rfl, hb⟩
    have B2 := Lib.hid (B0.out.trans (hb.mono B0.out.size))
    clear hb
    go_wp2_with fail
    refine (stretch_any (num Y M 1) (ml Y M) _ (by omega) (by omega) (by omega) (by omega)).mono ?_
    rintro e w1 ⟨rfl, hw⟩
    subst hw
    rcases hq : cutL (num Y M 1) (ml Y M) with _ | ⟨a, b⟩
    · have HQ := Lib.hid hq
      clear hq
      simp only [EndA]
      go_wp2
      exact bodyPost_ret (v := EndA none) (by simp [results, Tryz.results285, go_sem, EndA]) rfl ⟨by rw [HE.out, HQ.out], B2.out⟩
    · have HQ := Lib.hid hq
      clear hq
      simp only [EndA]
      go_wp2
      exact bodyPost_ret (v := EndA (some (a, b))) (by simp [results, Tryz.results285, go_sem, EndA]) rfl ⟨by rw [HE.out, HQ.out], B2.out⟩
  · have HE : Hid (monE y m st = none) := Lib.hid (if_neg hy)
    go_enter Tryz.func285, Tryz.ntmps285
    go_wp2_with fail
    refine (days_no _ _ _ (by omega)).mono ?_
    rintro e w1 ⟨rfl, hw⟩
    subst hw
    go_wp2
    exact bodyPost_ret (v := EndA none) (by simp [results, Tryz.results285, go_sem, EndA]) rfl ⟨by rw [HE.out], B0.out⟩
theorem ok_first1 {y : Int} (h1 : 1900 ≤ y) (h2 : y ≤ 2199) : okD y 1 1 := ok_first h1 h2 (by omega) (by omega)
theorem ok_last31 {y : Int} (h1 : 1900 ≤ y) (h2 : y ≤ 2199) : okD y 12 31 := ⟨h1, h2, by omega, by omega, by omega, by simp [ml, md]⟩
set_option maxRecDepth 100000 in
theorem yearEnds_any (y : Int) (w : World) (hT : Tab w) (y1 : 1900 ≤ y) (y2 : y ≤ 100000000) :
    Calls Tryz.prog 286 #[.int .i64 y] w fun e w' => e = .returned (EndA (yeaE y)) ∧ Below w.heap.size w w' := by
  by_cases hy : y ≤ 2199
  · have HE : Hid (yeaE y = some (num y 1 1, num y 12 31)) := Lib.hid (if_pos hy)
    go_enter Tryz.func286, Tryz.ntmps286
    go_wp2_with fail
    refine (of_yes y 1 1 _ hT (ok_first1 y1 hy)).mono ?_
    rintro e w1 ⟨rfl, hb⟩
    have T1 := Lib.hid (hT.below hb)
    have B1 := Lib.hid hb
    clear hb
    go_wp2_with fail
    refine (of_yes y 12 31 _ T1.out (ok_last31 y1 hy)).mono ?_
    rintro e w2 ⟨rfl, hb⟩
    have B2 := Lib.hid (B1.out.trans (hb.mono B1.out.size))
    clear hb
    go_wp2
    exact bodyPost_ret (v := EndA (some (num y 1 1, num y 12 31))) (by simp [results, Tryz.results286, go_sem, EndA]) rfl ⟨by rw [HE.out], B2.out⟩
  · have HE : Hid (yeaE y = none) := Lib.hid (if_neg hy)
    go_enter Tryz.func286, Tryz.ntmps286
    go_wp2_with fail
    refine (of_no y 1 1 _ hT (fun q => by have := q.2.1; omega)).mono ?_
    rintro e w1 ⟨rfl, hb⟩
    go_wp2
    exact bodyPost_ret (v := EndA none) (by simp [results, Tryz.results286, go_sem, EndA]) rfl ⟨by rw [HE.out], hb⟩
theorem pE_no {r : Rl} {s k : Int} (h : ¬ (rf r = 0 ∧ (0 ≤ k ∧ k ≤ 109573) ∧ (1 ≤ s ∧ s ≤ 109573))) : pE r s k = none := if_neg h
theorem pE_yes {r : Rl} {s k : Int} (h : rf r = 0 ∧ (0 ≤ k ∧ k ≤ 109573) ∧ (1 ≤ s ∧ s ≤ 109573)) : pE r s k = pEnds r.freq r.every s k := if_pos h
set_option maxRecDepth 100000 in
set_option maxHeartbeats 4000000 in
theorem ends_any (r : Rl) (v : Value) (s k : Int) (w : World) (hv : RuleIn w v r) (hT : Tab w) :
    Calls Tryz.prog 278 #[v, .int .i64 s, .int .i64 k] w fun e w' => e = .returned (EndA (pE r s k)) ∧ Below w.heap.size w w' := by
  obtain ⟨am, ad, aw, ap, cm, cd, cw, cp, rfl⟩ := hv.form
  have B0 := (Below.refl w.heap.size w).alloc (Nat.le_refl _) (.cells #[.int .i64 r.freq, .int .i64 r.every, .int .i64 r.count, .int .i64 r.till, .slice am r.months.length cm, .slice ad r.days.length cd, .slice aw r.weeks.length cw, .slice ap r.pick.length cp] 37)
  have KC := Lib.hid (check_any r _ _ (hv.on B0))
  have T0 := Lib.hid (hT.below B0)
  have HR := Lib.hid (RBox.new w r.freq r.every r.count r.till (.slice am r.months.length cm) (.slice ad r.days.length cd) (.slice aw r.weeks.length cw) (.slice ap r.pick.length cp) 37)
  have HB := Lib.hid B0
  clear B0 hv hT
  by_cases hz : rf r = 0
  case neg =>
    have HE : Hid (pE r s k = none) := Lib.hid (pE_no (fun q => hz q.1))
    rw [flt_some hz] at KC
    go_enter Tryz.func278, Tryz.ntmps278
    go_wp2_with fail
    refine KC.out.mono ?_
    rintro e w1 ⟨rfl, hb⟩
    have B1 := HB.out.trans (hb.mono HB.out.size)
    clear hb
    go_wp2
    exact bodyPost_ret (v := EndA none) (by simp [results, Tryz.results278, go_sem, EndA]) rfl ⟨by rw [HE.out], B1⟩
  obtain ⟨⟨f1, f4⟩, e1, e50⟩ := rf_nums hz
  have HZ := Lib.hid hz
  rw [flt_zero hz] at KC
  clear hz
  by_cases hk : 0 ≤ k ∧ k ≤ 109573
  case neg =>
    have HE : Hid (pE r s k = none) := Lib.hid (pE_no (fun q => hk q.2.1))
    rcases (by omega : k < 0 ∨ (0 ≤ k ∧ 109573 < k)) with g | ⟨g, g'⟩
    all_goals
      clear hk
      go_enter Tryz.func278, Tryz.ntmps278
      go_wp2_with fail
      refine KC.out.mono ?_
      rintro e w1 ⟨rfl, hb⟩
      have B1 := HB.out.trans (hb.mono HB.out.size)
      clear hb
      go_wp2_with (go_at_call 22; refine (last_any _).mono ?_; rintro e w' ⟨rfl, rfl⟩)
      exact bodyPost_ret (v := EndA none) (by simp [results, Tryz.results278, go_sem, EndA]) rfl ⟨by rw [HE.out], B1⟩
  obtain ⟨k0, k1⟩ := hk
  by_cases hs : 1 ≤ s ∧ s ≤ 109573
  case neg =>
    have HE : Hid (pE r s k = none) := Lib.hid (pE_no (fun q => hs q.2.2))
    have HS := Lib.hid hs
    clear hs
    go_enter Tryz.func278, Tryz.ntmps278
    go_wp2_with fail
    refine KC.out.mono ?_
    rintro e w1 ⟨rfl, hb⟩
    have B1 := HB.out.trans (hb.mono HB.out.size)
    clear hb
    go_wp2_with (go_at_call 22; refine (last_any _).mono ?_; rintro e w' ⟨rfl, rfl⟩)
    refine (date_no s _ HS.out).mono ?_
    rintro e w2 ⟨rfl, hb⟩
    have B2 := Lib.hid (B1.trans (hb.mono B1.size))
    clear hb B1
    unfold noDate
    go_wp2
    exact bodyPost_ret (v := EndA none) (by simp [results, Tryz.results278, go_sem, EndA]) rfl ⟨by rw [HE.out], B2.out.alloc B2.out.size _⟩
  obtain ⟨s1, s2⟩ := hs
  obtain ⟨t0, t1⟩ := st_bd ⟨k0, k1⟩ ⟨e1, e50⟩
  obtain ⟨y1, y2, m1, m2, d1, d2⟩ := date_ok s1 s2
  rcases fr4 ⟨f1, f4⟩ with hf | hf | hf | hf
  · have HF := Lib.hid hf
    have HE : Hid (pE r s k = cutL (s + (k * r.every)) 1) := Lib.hid (by rw [pE_yes ⟨HZ.out, ⟨k0, k1⟩, s1, s2⟩]; unfold pEnds; rw [hf, if_neg (by decide), if_neg (by decide), if_neg (by decide)])
    clear hf
    go_enter Tryz.func278, Tryz.ntmps278
    go_wp2_with fail
    refine KC.out.mono ?_
    rintro e w1 ⟨rfl, hb⟩
    have B1 := HB.out.trans (hb.mono HB.out.size)
    have T1 := T0.out.below hb
    have R1 := Lib.hid (HR.out.on hb)
    clear hb
    go_wp2_with (go_at_call 22; refine (last_any _).mono ?_; rintro e w' ⟨rfl, rfl⟩)
    refine (date_yes s _ T1 s1 s2).mono ?_
    rintro e w2 ⟨rfl, hb⟩
    have B2 := B1.trans (hb.mono B1.size)
    have B3 := Lib.hid (B2.alloc B2.size (.cells #[.int .i64 (yr s), .int .i64 (mo s), .int .i64 (da s)] 279))
    have T2 := Lib.hid ((T1.below hb).alloc (.cells #[.int .i64 (yr s), .int .i64 (mo s), .int .i64 (da s)] 279))
    have R2 := Lib.hid (R1.out.on hb)
    clear hb B1 B2 T1 R1
    obtain ⟨x0, x1, x2, x3, x4, x5, x6, x7⟩ := R2.out
    have ql := R2.out.lt
    rw [HF.out] at x0
    clear R2 HR KC
    go_wp2_with fail
    generalize k * r.every = st at t0 t1 HE ⊢
    generalize w2.alloc (.cells #[.int .i64 (yr s), .int .i64 (mo s), .int .i64 (da s)] 279) = W3 at B3 T2 ⊢
    clear x0 x1 x2 x3 x4 x5 x6 x7 ql
    refine (stretch_any (s + st) 1 _ (by omega) (by omega) (by omega) (by omega)).mono ?_
    rintro e w4 ⟨rfl, hw⟩
    subst hw
    have B4 := B3
    rcases hq : cutL (s + st) 1 with _ | ⟨a, b⟩
    · have HQ := Lib.hid hq
      clear hq
      simp only [EndA]
      go_wp2
      exact bodyPost_ret (v := EndA none) (by simp [results, Tryz.results278, go_sem, EndA]) rfl ⟨by rw [HE.out, HQ.out], B4.out⟩
    · have HQ := Lib.hid hq
      clear hq
      simp only [EndA]
      go_wp2
      exact bodyPost_ret (v := EndA (some (a, b))) (by simp [results, Tryz.results278, go_sem, EndA]) rfl ⟨by rw [HE.out, HQ.out], B4.out⟩
  · have HF := Lib.hid hf
    have HE : Hid (pE r s k = cutL (s - wd s + 1 + (k * r.every) * 7) 7) := Lib.hid (by rw [pE_yes ⟨HZ.out, ⟨k0, k1⟩, s1, s2⟩]; unfold pEnds; rw [hf, if_pos rfl])
    clear hf
    go_enter Tryz.func278, Tryz.ntmps278
    go_wp2_with fail
    refine KC.out.mono ?_
    rintro e w1 ⟨rfl, hb⟩
    have B1 := HB.out.trans (hb.mono HB.out.size)
    have T1 := T0.out.below hb
    have R1 := Lib.hid (HR.out.on hb)
    clear hb
    go_wp2_with (go_at_call 22; refine (last_any _).mono ?_; rintro e w' ⟨rfl, rfl⟩)
    refine (date_yes s _ T1 s1 s2).mono ?_
    rintro e w2 ⟨rfl, hb⟩
    have B2 := B1.trans (hb.mono B1.size)
    have B3 := Lib.hid (B2.alloc B2.size (.cells #[.int .i64 (yr s), .int .i64 (mo s), .int .i64 (da s)] 279))
    have T2 := Lib.hid ((T1.below hb).alloc (.cells #[.int .i64 (yr s), .int .i64 (mo s), .int .i64 (da s)] 279))
    have R2 := Lib.hid (R1.out.on hb)
    clear hb B1 B2 T1 R1
    obtain ⟨x0, x1, x2, x3, x4, x5, x6, x7⟩ := R2.out
    have ql := R2.out.lt
    rw [HF.out] at x0
    clear R2 HR KC
    go_wp2_with fail
    generalize k * r.every = st at t0 t1 HE ⊢
    generalize w2.alloc (.cells #[.int .i64 (yr s), .int .i64 (mo s), .int .i64 (da s)] 279) = W3 at B3 T2 ⊢
    clear x0 x1 x2 x3 x4 x5 x6 x7 ql
    refine (weekEnds_any s st _ s1 s2 t0 t1).mono ?_
    rintro e w4 ⟨rfl, hw⟩
    subst hw
    have B4 := B3
    rcases hq : cutL (s - wd s + 1 + st * 7) 7 with _ | ⟨a, b⟩
    · have HQ := Lib.hid hq
      clear hq
      simp only [EndA]
      go_wp2
      exact bodyPost_ret (v := EndA none) (by simp [results, Tryz.results278, go_sem, EndA]) rfl ⟨by rw [HE.out, HQ.out], B4.out⟩
    · have HQ := Lib.hid hq
      clear hq
      simp only [EndA]
      go_wp2
      exact bodyPost_ret (v := EndA (some (a, b))) (by simp [results, Tryz.results278, go_sem, EndA]) rfl ⟨by rw [HE.out, HQ.out], B4.out⟩
  · have HF := Lib.hid hf
    have HE : Hid (pE r s k = monE (yr s) (mo s) (k * r.every)) := Lib.hid (by rw [pE_yes ⟨HZ.out, ⟨k0, k1⟩, s1, s2⟩]; unfold pEnds; rw [hf, if_neg (by decide), if_pos rfl]; rfl)
    clear hf
    go_enter Tryz.func278, Tryz.ntmps278
    go_wp2_with fail
    refine KC.out.mono ?_
    rintro e w1 ⟨rfl, hb⟩
    have B1 := HB.out.trans (hb.mono HB.out.size)
    have T1 := T0.out.below hb
    have R1 := Lib.hid (HR.out.on hb)
    clear hb
    go_wp2_with (go_at_call 22; refine (last_any _).mono ?_; rintro e w' ⟨rfl, rfl⟩)
    refine (date_yes s _ T1 s1 s2).mono ?_
    rintro e w2 ⟨rfl, hb⟩
    have B2 := B1.trans (hb.mono B1.size)
    have B3 := Lib.hid (B2.alloc B2.size (.cells #[.int .i64 (yr s), .int .i64 (mo s), .int .i64 (da s)] 279))
    have T2 := Lib.hid ((T1.below hb).alloc (.cells #[.int .i64 (yr s), .int .i64 (mo s), .int .i64 (da s)] 279))
    have R2 := Lib.hid (R1.out.on hb)
    clear hb B1 B2 T1 R1
    obtain ⟨x0, x1, x2, x3, x4, x5, x6, x7⟩ := R2.out
    have ql := R2.out.lt
    rw [HF.out] at x0
    clear R2 HR KC
    go_wp2_with fail
    generalize k * r.every = st at t0 t1 HE ⊢
    generalize w2.alloc (.cells #[.int .i64 (yr s), .int .i64 (mo s), .int .i64 (da s)] 279) = W3 at B3 T2 ⊢
    clear x0 x1 x2 x3 x4 x5 x6 x7 ql
    refine (monthEnds_any (yr s) (mo s) (da s) st _ T2.out y1 y2 m1 m2 t0 t1).mono ?_
    rintro e w4 ⟨rfl, hb⟩
    have B4 := Lib.hid (B3.out.trans (hb.mono B3.out.size))
    clear hb
    rcases hq : monE (yr s) (mo s) st with _ | ⟨a, b⟩
    · have HQ := Lib.hid hq
      clear hq
      simp only [EndA]
      go_wp2
      exact bodyPost_ret (v := EndA none) (by simp [results, Tryz.results278, go_sem, EndA]) rfl ⟨by rw [HE.out, HQ.out], B4.out⟩
    · have HQ := Lib.hid hq
      clear hq
      simp only [EndA]
      go_wp2
      exact bodyPost_ret (v := EndA (some (a, b))) (by simp [results, Tryz.results278, go_sem, EndA]) rfl ⟨by rw [HE.out, HQ.out], B4.out⟩
  · have HF := Lib.hid hf
    have HE : Hid (pE r s k = yeaE (yr s + (k * r.every))) := Lib.hid (by rw [pE_yes ⟨HZ.out, ⟨k0, k1⟩, s1, s2⟩]; unfold pEnds; rw [hf, if_neg (by decide), if_neg (by decide), if_pos rfl]; rfl)
    clear hf
    go_enter Tryz.func278, Tryz.ntmps278
    go_wp2_with fail
    refine KC.out.mono ?_
    rintro e w1 ⟨rfl, hb⟩
    have B1 := HB.out.trans (hb.mono HB.out.size)
    have T1 := T0.out.below hb
    have R1 := Lib.hid (HR.out.on hb)
    clear hb
    go_wp2_with (go_at_call 22; refine (last_any _).mono ?_; rintro e w' ⟨rfl, rfl⟩)
    refine (date_yes s _ T1 s1 s2).mono ?_
    rintro e w2 ⟨rfl, hb⟩
    have B2 := B1.trans (hb.mono B1.size)
    have B3 := Lib.hid (B2.alloc B2.size (.cells #[.int .i64 (yr s), .int .i64 (mo s), .int .i64 (da s)] 279))
    have T2 := Lib.hid ((T1.below hb).alloc (.cells #[.int .i64 (yr s), .int .i64 (mo s), .int .i64 (da s)] 279))
    have R2 := Lib.hid (R1.out.on hb)
    clear hb B1 B2 T1 R1
    obtain ⟨x0, x1, x2, x3, x4, x5, x6, x7⟩ := R2.out
    have ql := R2.out.lt
    rw [HF.out] at x0
    clear R2 HR KC
    go_wp2_with fail
    generalize k * r.every = st at t0 t1 HE ⊢
    generalize w2.alloc (.cells #[.int .i64 (yr s), .int .i64 (mo s), .int .i64 (da s)] 279) = W3 at B3 T2 ⊢
    clear x0 x1 x2 x3 x4 x5 x6 x7 ql
    refine (yearEnds_any (yr s + st) _ T2.out (by omega) (by omega)).mono ?_
    rintro e w4 ⟨rfl, hb⟩
    have B4 := Lib.hid (B3.out.trans (hb.mono B3.out.size))
    clear hb
    rcases hq : yeaE (yr s + st) with _ | ⟨a, b⟩
    · have HQ := Lib.hid hq
      clear hq
      simp only [EndA]
      go_wp2
      exact bodyPost_ret (v := EndA none) (by simp [results, Tryz.results278, go_sem, EndA]) rfl ⟨by rw [HE.out, HQ.out], B4.out⟩
    · have HQ := Lib.hid hq
      clear hq
      simp only [EndA]
      go_wp2
      exact bodyPost_ret (v := EndA (some (a, b))) (by simp [results, Tryz.results278, go_sem, EndA]) rfl ⟨by rw [HE.out, HQ.out], B4.out⟩
/-- What is answered of where a period begins. -/
def BegA : Option (Int × Int) → Value
  | some (a, _) => .tuple #[.int .i64 a, .nilIface]
  | none => .tuple #[.int .i64 0, errRange]
theorem begin_any (r : Rl) (v : Value) (s k : Int) (w : World) (hv : RuleIn w v r) (hT : Tab w) :
    Calls Tryz.prog 276 #[v, .int .i64 s, .int .i64 k] w fun e w' => e = .returned (BegA (pE r s k)) ∧ Below w.heap.size w w' := by
  obtain ⟨am, ad, aw, ap, cm, cd, cw, cp, rfl⟩ := hv.form
  have B0 := (Below.refl w.heap.size w).alloc (Nat.le_refl _) (.cells #[.int .i64 r.freq, .int .i64 r.every, .int .i64 r.count, .int .i64 r.till, .slice am r.months.length cm, .slice ad r.days.length cd, .slice aw r.weeks.length cw, .slice ap r.pick.length cp] 37)
  have KC := Lib.hid (ends_any r _ s k _ (hv.on B0) (hT.below B0))
  have HB := Lib.hid B0
  clear B0 hv hT
  go_enter Tryz.func276, Tryz.ntmps276
  go_wp2_with fail
  refine KC.out.mono ?_
  rintro e w1 ⟨rfl, hb⟩
  have B1 := Lib.hid (HB.out.trans (hb.mono HB.out.size))
  clear hb
  rcases hq : pE r s k with _ | ⟨a, b⟩
  · have HQ := Lib.hid hq
    clear hq KC HB
    simp only [EndA]
    go_wp2
    exact bodyPost_ret (v := BegA none) (by simp [results, Tryz.results276, go_sem, BegA]) rfl ⟨by rw [HQ.out], B1.out⟩
  · have HQ := Lib.hid hq
    clear hq KC HB
    simp only [EndA]
    go_wp2
    exact bodyPost_ret (v := BegA (some (a, b))) (by simp [results, Tryz.results276, go_sem, BegA]) rfl ⟨by rw [HQ.out], B1.out⟩
end Go.Proofs.YthdohcjingfpoaaGreatDoor
namespace Go.Proofs.YthdohcjingfpoaaGreatDoor
open Go.RowKit

theorem bx_setCells {B : Nat} {a : World} (b : Nat) : ∀ (vs : List Value) (o : Nat) (w : World), Below B a w → B ≤ b → Below B a (w.setCells b o vs)
  | [], _, _, h, _ => h
  | v :: r, o, w, h, hb => bx_setCells b r (o + 1) (w.setCell ⟨b, o, none⟩ v) (h.setCell hb _) hb
/-- A whole struct is stored into a block of the call's own. -/
theorem bx_store {P : Program} {ops : Array Oper} {rest : List Oper} {op : Oper} {a : Act} {w : World} {Q : Exit → Act → World → Prop} (hgd : op.guard = none) (ty : TypeId) (x y : Operand) (ho : op.op = .store ty x y)
    (b : Nat) (cells : Array Value) (hx : a.eval x = .pointer (some ⟨b, 0, none⟩)) (hy : a.eval y = .agg cells) (ht : w.there b 0 cells.size) (hi : (P.info? ty).map (·.size) = some cells.size) (h1 : cells.all (·.oneCell') = true)
    {B : Nat} {w0 : World} (hB : Below B w0 w) (hb : B ≤ b) (h : ∀ W4 : World, W4.rangeAt b 0 cells.toList → Below B w0 W4 → wpList P ops Q rest (a.put op.dst undef) W4) : wpList P ops Q (op :: rest) a w :=
  wpList_store_mid hgd ty x y ho b 0 cells hx hy ht hi h1 (h _ (World.rangeAt_setCells_same w b 0 cells.toList (by simpa using ht)) (bx_setCells b cells.toList 0 w hB hb))
/-- .. and all that lies behind it stays. -/
theorem bx_keep {P : Program} {ops : Array Oper} {rest : List Oper} {op : Oper} {a : Act} {w : World} {Q : Exit → Act → World → Prop} (hgd : op.guard = none) (ty : TypeId) (x y : Operand) (ho : op.op = .store ty x y)
    (b : Nat) (cells : Array Value) (hx : a.eval x = .pointer (some ⟨b, 0, none⟩)) (hy : a.eval y = .agg cells) (ht : w.there b 0 cells.size) (hi : (P.info? ty).map (·.size) = some cells.size) (h1 : cells.all (·.oneCell') = true)
    {B : Nat} {w0 : World} (hB : Below B w0 w) (hb : B ≤ b) (h : ∀ W4 : World, W4.rangeAt b 0 cells.toList → Below B w0 W4 → (∀ g o, b < g → W4.cell? ⟨g, o, none⟩ = w.cell? ⟨g, o, none⟩) → wpList P ops Q rest (a.put op.dst undef) W4) : wpList P ops Q (op :: rest) a w :=
  wpList_store_mid hgd ty x y ho b 0 cells hx hy ht hi h1 (h _ (World.rangeAt_setCells_same w b 0 cells.toList (by simpa using ht)) (bx_setCells b cells.toList 0 w hB hb)
    (fun g o hg => World.cell?_setCells_out b cells.toList 0 w ⟨g, o, none⟩ (fun e _ => absurd e (Nat.ne_of_gt hg))))
theorem bx_on {W W' : World} {B b n : Nat} (h : W.there b 0 n) (q : Below B W W') (hb : b < B) : W'.there b 0 n := fun j hj => by
  obtain ⟨h1, h2⟩ := h j hj
  rw [q.cell (p := ⟨b, 0 + j, none⟩) hb, q.frozen (p := ⟨b, 0 + j, none⟩) hb]
  exact ⟨h1, h2⟩
theorem bx_new8 (W : World) (v0 v1 v2 v3 v4 v5 v6 v7 : Value) (t : TypeId) : (W.alloc (.cells #[v0, v1, v2, v3, v4, v5, v6, v7] t)).there W.heap.size 0 8 := fun j hj => by
  rcases (by omega : j = 0 ∨ j = 1 ∨ j = 2 ∨ j = 3 ∨ j = 4 ∨ j = 5 ∨ j = 6 ∨ j = 7) with rfl | rfl | rfl | rfl | rfl | rfl | rfl | rfl <;> simp
end Go.Proofs.YthdohcjingfpoaaGreatDoor
namespace Go.Proofs.YthdohcjingfpoaaGreatDoor
open Go.RowKit Cal Txt

theorem has_take {l : List Int} {k : Nat} {x : Int} (h : k < l.length) (hn : (l.take k).contains x = false) (hx : ¬ l.getD k 0 = x) : (l.take (k + 1)).contains x = false := by
  rw [List.take_add_one, List.contains_eq_mem] at *
  rw [List.getD_eq_getElem?_getD] at hx
  rw [List.getElem?_eq_getElem h] at hx ⊢
  simp only [Option.getD_some] at hx
  simp only [decide_eq_false_iff_not] at hn ⊢
  simp only [Option.toList_some, List.mem_append, List.mem_singleton, not_or]
  exact ⟨hn, fun e => hx e.symm⟩
theorem has_hit {l : List Int} {k : Nat} {x : Int} (h : k < l.length) (hx : l.getD k 0 = x) : l.contains x = true := by
  rw [List.getD_eq_getElem?_getD, List.getElem?_eq_getElem h] at hx
  simp only [Option.getD_some] at hx
  rw [List.contains_eq_mem, decide_eq_true_iff, ← hx]
  exact List.getElem_mem h
/-- What is answered of where a number stands. -/
def IdxA (l : List Int) (x : Int) (e : Ending) : Prop := ∃ i : Int, e = .returned (.int .i64 i) ∧ decide (i ≥ 0) = l.contains x
set_option maxHeartbeats 1000000 in
theorem index_any (v : Value) (l : List Int) (x : Int) (w : World) (hv : Ints w v l) (hl : l.length ≤ 1000000000) :
    Calls Tryz.prog 303 #[v, .int .i64 x] w fun e w' => IdxA l x e ∧ w' = w := by
  obtain ⟨a, cap, rfl, hc⟩ := hv
  rcases hc with rfl | ⟨b, off, rfl, hc⟩
  · go_enter Tryz.func303, Tryz.ntmps303
    go_wp2
    go_loop [8] (fun i => i = .int .i64 0) (fun _ => 0)
    case atStart => rfl
    case round =>
      subst hrel
      go_wp2
      go_ret
      exact ⟨⟨_, rfl, rfl⟩, rfl⟩
  · have HC := Lib.hid hc
    clear hc
    go_enter Tryz.func303, Tryz.ntmps303
    go_wp2
    go_loop [8] (fun i => ∃ k : Nat, k ≤ l.length ∧ i = .int .i64 k ∧ (l.take k).contains x = false) (fun i => l.length - (intOf i).toNat)
    case atStart => exact ⟨0, Nat.zero_le _, rfl, rfl⟩
    case round =>
      obtain ⟨k, hk, rfl, hF⟩ := hrel
      have HF := Lib.hid hF
      clear hF
      by_cases hlt : k < l.length
      · have ck := HC.out k hlt
        obtain ⟨y, hy⟩ : ∃ y, y = l.getD k 0 := ⟨_, rfl⟩
        rw [← hy] at ck
        have HX := Lib.hid hy
        clear hy
        rcases he : (x == y) with _ | _
        · have N1 := Lib.hid (has_take hlt HF.out (x := x) (by rw [← HX.out]; intro q; rw [q] at he; simp at he))
          go_wp2
          go_round
          case rel => exact ⟨k + 1, by omega, by go_num, N1.out⟩
          case measure => simp [intOf]; omega
        · have N0 := Lib.hid (has_hit hlt (x := x) (by rw [← HX.out]; exact (beq_iff_eq.1 he).symm))
          go_wp2
          go_ret
          exact ⟨⟨_, rfl, by rw [N0.out]; exact decide_eq_true (by omega)⟩, rfl⟩
      · have N1 : Hid (l.contains x = false) := Lib.hid (by have := HF.out; rwa [List.take_of_length_le (by omega)] at this)
        go_wp2
        go_ret
        exact ⟨⟨_, rfl, by rw [N1.out]; decide⟩, rfl⟩
theorem contains_any (v : Value) (l : List Int) (x : Int) (w : World) (hv : Ints w v l) (hl : l.length ≤ 1000000000) :
    Calls Tryz.prog 291 #[v, .int .i64 x] w fun e w' => e = .returned (.bool (l.contains x)) ∧ w' = w := by
  have K := Lib.hid (index_any v l x w hv hl)
  obtain ⟨a, cap, rfl, _⟩ := hv
  go_enter Tryz.func291, Tryz.ntmps291
  go_wp2_with fail
  refine K.out.mono ?_
  rintro e w1 ⟨⟨i, rfl, hi⟩, hw⟩
  subst hw
  have HI := Lib.hid hi
  clear hi
  go_wp2
  go_ret
  exact ⟨ret_bool (by rw [← HI.out]), rfl⟩
theorem names_any (v : Value) (l : List Int) (n c : Int) (w : World) (hv : Ints w v l) (hl : l.length ≤ 1000000000) (n0 : 0 ≤ n) (n1 : n ≤ 1000000000) (c0 : 0 ≤ c) (c1 : c ≤ 1000000000) :
    Calls Tryz.prog 293 #[v, .int .i64 n, .int .i64 c] w fun e w' => e = .returned (.bool (nameB l n c)) ∧ w' = w := by
  have K := Lib.hid (contains_any v l n w hv hl)
  have K2 := Lib.hid (contains_any v l (n - c - 1) w hv hl)
  obtain ⟨a, cap, rfl, _⟩ := hv
  rcases h : l.contains n with _ | _
  · have N1 : Hid (nameB l n c = l.contains (n - c - 1)) := Lib.hid (by unfold nameB; rw [h]; rfl)
    rw [h] at K
    clear h
    go_enter Tryz.func293, Tryz.ntmps293
    go_wp2_with fail
    refine K.out.mono ?_
    rintro e w1 ⟨rfl, hw⟩
    subst hw
    go_wp2_with fail
    refine K2.out.mono ?_
    rintro e w1 ⟨rfl, hw⟩
    subst hw
    go_wp2
    go_ret
    exact ⟨ret_bool (by rw [N1.out, List.contains_eq_mem]), rfl⟩
  · have N1 : Hid (nameB l n c = true) := Lib.hid (by unfold nameB; rw [h]; rfl)
    rw [h] at K
    clear h
    go_enter Tryz.func293, Tryz.ntmps293
    go_wp2_with fail
    refine K.out.mono ?_
    rintro e w1 ⟨rfl, hw⟩
    subst hw
    go_wp2
    go_ret
    exact ⟨ret_bool N1.out.symm, rfl⟩
/-- A place in the calendar, its cells. -/
def PLC (n : Int) : Array Value := #[.int .i64 (yr n), .int .i64 (mo n), .int .i64 (da n), .int .i64 (ml (yr n) (mo n)), .int .i64 ((da n - 1) / 7 + 1), .int .i64 (wd n), .int .i64 (-((ml (yr n) (mo n) - da n) / 7) - 1), .int .i64 (wd n)]
set_option maxRecDepth 100000 in
theorem placeOf_yes (n : Int) (w : World) (hT : Tab w) (h1 : 1 ≤ n) (h2 : n ≤ 109573) :
    Calls Tryz.prog 279 #[.int .i64 n] w fun e w' => e = .returned (.tuple #[.agg (PLC n), .nilIface]) ∧ Below w.heap.size w w' := by
  obtain ⟨y1, y2, m1, m2, d1, d2⟩ := date_ok h1 h2
  have B0 := (Below.refl w.heap.size w).alloc (Nat.le_refl _) (.cells #[.int .i64 0, .int .i64 0, .int .i64 0, .int .i64 0, .int .i64 0, .int .i64 0, .int .i64 0, .int .i64 0] 314)
  have T0 := hT.below B0
  have H0 := bx_new8 w (.int .i64 0) (.int .i64 0) (.int .i64 0) (.int .i64 0) (.int .i64 0) (.int .i64 0) (.int .i64 0) (.int .i64 0) 314
  have z0 : (w.alloc (.cells #[.int .i64 0, .int .i64 0, .int .i64 0, .int .i64 0, .int .i64 0, .int .i64 0, .int .i64 0, .int .i64 0] 314)).heap.size = w.heap.size + 1 := by simp
  have KD := Lib.hid (date_yes n _ T0 h1 h2)
  have HB0 := Lib.hid (And.intro B0 (And.intro T0 H0))
  clear B0 T0 H0 hT
  go_enter Tryz.func279, Tryz.ntmps279
  go_wp2_with fail
  generalize w.alloc (.cells #[.int .i64 0, .int .i64 0, .int .i64 0, .int .i64 0, .int .i64 0, .int .i64 0, .int .i64 0, .int .i64 0] 314) = W0 at HB0 KD z0 ⊢
  refine KD.out.mono ?_
  rintro e w1 ⟨rfl, hb⟩
  obtain ⟨B0, T0, H0⟩ := HB0.out
  have A1 : Below w1.heap.size w1 (w1.alloc (.cells #[.int .i64 (yr n), .int .i64 (mo n), .int .i64 (da n)] 279)) := (Below.refl _ _).alloc (Nat.le_refl _) _
  have s1 : w.heap.size + 1 ≤ w1.heap.size := by have := hb.size; omega
  have B1 := (B0.trans (hb.mono B0.size)).trans (A1.mono (by omega))
  have T1 := (T0.below hb).below A1
  have H1 := bx_on (bx_on H0 hb (by omega)) A1 (by omega)
  have D1 := Dat.new w1 (yr n) (mo n) (da n) 279
  have HB1 := Lib.hid (And.intro B1 (And.intro T1 (And.intro H1 D1)))
  have s2 : w1.heap.size < (w1.alloc (.cells #[.int .i64 (yr n), .int .i64 (mo n), .int .i64 (da n)] 279)).heap.size := by simp
  have KY := Lib.hid (days_yes (yr n) (mo n) _ T1 y1 y2 m1 m2)
  have KW := Lib.hid (which_yes n _ T1 h1 h2)
  clear hb B0 T0 H0 HB0 KD A1 B1 T1 H1 D1
  go_wp2_with fail
  refine KY.out.mono ?_
  rintro e w' ⟨rfl, hw⟩
  subst hw
  go_wp2_with fail
  generalize w1.alloc (.cells #[.int .i64 (yr n), .int .i64 (mo n), .int .i64 (da n)] 279) = W1 at HB1 KW s2 ⊢
  refine KW.out.mono ?_
  rintro e w2 ⟨rfl, hb⟩
  obtain ⟨B1, T1, H1, D1⟩ := HB1.out
  have B2 := B1.trans (hb.mono B1.size)
  have H2 := bx_on H1 hb (by omega)
  have dl := (D1.on hb).lt
  obtain ⟨c1, c2, c3⟩ := D1.on hb
  have B3 := (B2.alloc B2.size (.cells #[.int .i64 ((da n - 1) / 7 + 1), .int .i64 (wd n)] 158)).alloc (by have := B2.size; simp; omega) (.cells #[.int .i64 (-((ml (yr n) (mo n) - da n) / 7) - 1), .int .i64 (wd n)] 158)
  have s3 : w.heap.size < w2.heap.size := by have := hb.size; omega
  have H3 := bx_on (bx_on H2 ((Below.refl _ _).alloc (Nat.le_refl _) (.cells #[.int .i64 ((da n - 1) / 7 + 1), .int .i64 (wd n)] 158)) s3) ((Below.refl _ _).alloc (Nat.le_refl _) (.cells #[.int .i64 (-((ml (yr n) (mo n) - da n) / 7) - 1), .int .i64 (wd n)] 158)) (by simp; omega)
  clear hb B1 T1 H1 D1 HB1 KW KY B2 H2
  go_wp2_with (refine bx_store rfl 314 (.tmp 2) (.tmp 44) rfl w.heap.size #[.int .i64 (yr n), .int .i64 (mo n), .int .i64 (da n), .int .i64 (ml (yr n) (mo n)), .int .i64 ((da n - 1) / 7 + 1), .int .i64 (wd n), .int .i64 (-((ml (yr n) (mo n) - da n) / 7) - 1), .int .i64 (wd n)] rfl rfl H3 (by kernel_rfl) (by simp [Value.oneCell']) B3 (Nat.le_refl _) ?_)
  intro W4 R4 B4
  have r0 := R4 0 _ rfl
  have r1 := R4 1 _ rfl
  have r2 := R4 2 _ rfl
  have r3 := R4 3 _ rfl
  have r4 := R4 4 _ rfl
  have r5 := R4 5 _ rfl
  have r6 := R4 6 _ rfl
  have r7 := R4 7 _ rfl
  simp only [Nat.zero_add] at r0 r1 r2 r3 r4 r5 r6 r7
  clear R4
  go_wp2
  exact bodyPost_ret (v := .tuple #[.agg #[.int .i64 (yr n), .int .i64 (mo n), .int .i64 (da n), .int .i64 (ml (yr n) (mo n)), .int .i64 ((da n - 1) / 7 + 1), .int .i64 (wd n), .int .i64 (-((ml (yr n) (mo n) - da n) / 7) - 1), .int .i64 (wd n)], .nilIface]) (by simp [results, Tryz.results279, go_sem, r0, r1, r2, r3, r4, r5, r6, r7]) rfl ⟨rfl, B4⟩
end Go.Proofs.YthdohcjingfpoaaGreatDoor
namespace Go.Proofs.YthdohcjingfpoaaGreatDoor
open Go.RowKit Cal Txt

/-- A rule lies in a block, its lists anywhere. -/
def RlBox (W : World) (b : Nat) (r : Rl) : Prop :=
  ∃ vm vd vw vp, RBox W b r.freq r.every r.count r.till vm vd vw vp ∧ Ints W vm r.months ∧ Ints W vd r.days ∧ Nths W vw r.weeks ∧ Ints W vp r.pick
theorem RlBox.on {W W' : World} {b : Nat} {r : Rl} (h : RlBox W b r) (q : Below W.heap.size W W') : RlBox W' b r := by
  obtain ⟨vm, vd, vw, vp, h0, h1, h2, h3, h4⟩ := h
  exact ⟨vm, vd, vw, vp, h0.on q, h1.on q, h2.on q, h3.on q, h4.on q⟩
theorem RlBox.lt {W : World} {b : Nat} {r : Rl} (h : RlBox W b r) : b < W.heap.size := by
  obtain ⟨_, _, _, _, h0, _⟩ := h
  exact h0.lt
/-- A rule's lists are short. -/
def Sm (r : Rl) : Prop := r.months.length ≤ 31 ∧ r.days.length ≤ 31 ∧ r.weeks.length ≤ 31
set_option maxRecDepth 100000 in
theorem ask1_any (r : Rl) (y m d l a x b z : Int) (g : Nat) (w : World) (hR : RlBox w g r) (hs : Sm r) :
    Calls Tryz.prog 290 #[.agg #[.int .i64 y, .int .i64 m, .int .i64 d, .int .i64 l, .int .i64 a, .int .i64 x, .int .i64 b, .int .i64 z], .pointer (some ⟨g, 0, none⟩)] w fun e w' => e = .returned (.bool (r.months.length == 0 || r.months.contains m)) ∧ Below w.heap.size w w' := by
  have B0 := (Below.refl w.heap.size w).alloc (Nat.le_refl _) (.cells #[.int .i64 y, .int .i64 m, .int .i64 d, .int .i64 l, .int .i64 a, .int .i64 x, .int .i64 b, .int .i64 z] 314)
  have ql := (hR.on B0).lt
  have gl := hR.lt
  obtain ⟨vm, vd, vw, vp, h0, h1, h2, h3, h4⟩ := hR
  have K := Lib.hid (contains_any vm r.months m _ (h1.on B0) (by have := hs.1; omega))
  obtain ⟨am, cm, rfl, hc⟩ := h1
  obtain ⟨q0, q1, q2, q3, q4, q5, q6, q7⟩ := h0
  have HB := Lib.hid B0
  clear B0 h2 h3 h4 hc
  rcases he : ((r.months.length : Int) == 0) with _ | _
  · have N1 : Hid ((r.months.length == 0) = false) := Lib.hid (by simp at he ⊢; omega)
    go_enter Tryz.func290, Tryz.ntmps290
    go_wp2_with fail
    refine K.out.mono ?_
    rintro e w1 ⟨rfl, hw⟩
    subst hw
    go_wp2
    go_ret
    exact ⟨ret_bool (by rw [N1.out, Bool.false_or, List.contains_eq_mem]), HB.out⟩
  · have N1 : Hid ((r.months.length == 0) = true) := Lib.hid (by simp at he ⊢; omega)
    go_enter Tryz.func290, Tryz.ntmps290
    go_wp2
    go_ret
    exact ⟨ret_bool (by rw [N1.out, Bool.true_or]), HB.out⟩
set_option maxRecDepth 100000 in
theorem ask2_any (r : Rl) (y m d l a x b z : Int) (g : Nat) (w : World) (hR : RlBox w g r) (hs : Sm r) (d0 : 1 ≤ d) (d1 : d ≤ 31) (l0 : 1 ≤ l) (l1 : l ≤ 31) :
    Calls Tryz.prog 292 #[.agg #[.int .i64 y, .int .i64 m, .int .i64 d, .int .i64 l, .int .i64 a, .int .i64 x, .int .i64 b, .int .i64 z], .pointer (some ⟨g, 0, none⟩)] w fun e w' => e = .returned (.bool (r.days.length == 0 || nameB r.days d l)) ∧ Below w.heap.size w w' := by
  have B0 := (Below.refl w.heap.size w).alloc (Nat.le_refl _) (.cells #[.int .i64 y, .int .i64 m, .int .i64 d, .int .i64 l, .int .i64 a, .int .i64 x, .int .i64 b, .int .i64 z] 314)
  have ql := (hR.on B0).lt
  have gl := hR.lt
  obtain ⟨vm, vd, vw, vp, h0, h1, h2, h3, h4⟩ := hR
  have K := Lib.hid (names_any vd r.days d l _ (h2.on B0) (by have := hs.2.1; omega) (by omega) (by omega) (by omega) (by omega))
  obtain ⟨ad, cd, rfl, hc⟩ := h2
  obtain ⟨q0, q1, q2, q3, q4, q5, q6, q7⟩ := h0
  have HB := Lib.hid B0
  clear B0 h1 h3 h4 hc
  rcases he : ((r.days.length : Int) == 0) with _ | _
  · have N1 : Hid ((r.days.length == 0) = false) := Lib.hid (by simp at he ⊢; omega)
    go_enter Tryz.func292, Tryz.ntmps292
    go_wp2_with fail
    refine K.out.mono ?_
    rintro e w1 ⟨rfl, hw⟩
    subst hw
    go_wp2
    go_ret
    exact ⟨ret_bool (by rw [N1.out, Bool.false_or]), HB.out⟩
  · have N1 : Hid ((r.days.length == 0) = true) := Lib.hid (by simp at he ⊢; omega)
    go_enter Tryz.func292, Tryz.ntmps292
    go_wp2
    go_ret
    exact ⟨ret_bool (by rw [N1.out, Bool.true_or]), HB.out⟩
/-- A place lies in a block. -/
def PlBox (W : World) (g : Nat) (a x b z : Int) : Prop := W.cell? ⟨g, 4, none⟩ = some (.int .i64 a) ∧ W.cell? ⟨g, 5, none⟩ = some (.int .i64 x) ∧ W.cell? ⟨g, 6, none⟩ = some (.int .i64 b) ∧ W.cell? ⟨g, 7, none⟩ = some (.int .i64 z)
set_option maxRecDepth 100000 in
theorem fits_any (n k a x b z u v : Int) (g h : Nat) (w : World) (h1 : Two w g u v) (h2 : PlBox w h a x b z) :
    Calls Tryz.prog 295 #[.agg #[.int .i64 n, .int .i64 k], .pointer (some ⟨g, 0, none⟩), .pointer (some ⟨h, 0, none⟩)] w fun e w' => e = .returned (.bool ((n == u && k == v) || (n == a && k == x) || (n == b && k == z))) ∧ Below w.heap.size w w' := by
  have B0 := (Below.refl w.heap.size w).alloc (Nat.le_refl _) (.cells #[.int .i64 n, .int .i64 k] 158)
  have HB := Lib.hid B0
  have gl := h1.lt
  have hl : h < w.heap.size := by
    have k := h2.1
    rcases Nat.lt_or_ge h w.heap.size with q | q
    · exact q
    · simp [World.cell?, Array.getElem?_eq_none q] at k
  obtain ⟨p0, p1⟩ := h1
  obtain ⟨q4, q5, q6, q7⟩ := h2
  clear B0
  go_enter Tryz.func295, Tryz.ntmps295
  clear HB
  go_wp2_with fail
  all_goals
    go_ret
    exact ⟨ret_bool (by clear p0 p1 q4 q5 q6 q7; simp_all), (Below.refl _ _).alloc (Nat.le_refl _) _⟩
/-- What is answered of where the first that fits stands. -/
def IdfA (l : List (Int × Int)) (p : Int × Int → Bool) (e : Ending) : Prop := ∃ i : Int, e = .returned (.int .i64 i) ∧ decide (i ≥ 0) = l.any p
theorem any_take {α : Type} (p : α → Bool) (l : List α) (k : Nat) (d : α) (h : k < l.length) (ha : (l.take k).any p = false) (hp : p (l.getD k d) = false) : (l.take (k + 1)).any p = false := by
  rw [List.getD_eq_getElem?_getD, List.getElem?_eq_getElem h] at hp
  rw [List.take_add_one, List.any_append, ha, List.getElem?_eq_getElem h]
  simpa using hp
theorem any_hit {α : Type} (p : α → Bool) (l : List α) (k : Nat) (d : α) (h : k < l.length) (hp : p (l.getD k d) = true) : l.any p = true := by
  rw [List.getD_eq_getElem?_getD, List.getElem?_eq_getElem h] at hp
  exact List.any_eq_true.2 ⟨_, List.getElem_mem h, hp⟩
set_option maxRecDepth 100000 in
set_option maxHeartbeats 1000000 in
theorem indexFunc_any (c1 c2 : Value) (I : World → Prop) (p : Int × Int → Bool) (hI : ∀ W W', I W → Below W.heap.size W W' → I W')
    (hG : ∀ (x : Int × Int) W, I W → Calls Tryz.prog 295 #[.agg #[.int .i64 x.1, .int .i64 x.2], c1, c2] W fun e w' => e = .returned (.bool (p x)) ∧ Below W.heap.size W w')
    (v : Value) (l : List (Int × Int)) (w : World) (hv : Nths w v l) (hw : I w) (hl : l.length ≤ 1000000) :
    Calls Tryz.prog 304 #[v, .func (.func 295) #[] #[c1, c2]] w fun e w' => IdfA l p e ∧ Below w.heap.size w w' := by
  have HV := Lib.hid hv
  have HI := Lib.hid hI
  have HG := Lib.hid hG
  have HW := Lib.hid hw
  obtain ⟨a, cap, rfl, hc⟩ := hv
  clear hI hG hw hc
  go_enter Tryz.func304, Tryz.ntmps304
  go_wp2
  go_loopw [8] (fun i wr => ∃ k : Nat, k ≤ l.length ∧ i = .int .i64 k ∧ (l.take k).any p = false ∧ Below w.heap.size w wr ∧ I wr) (fun i _ => l.length - (intOf i).toNat)
  case atStart => exact ⟨0, Nat.zero_le _, rfl, rfl, Below.refl _ _, HW.out⟩
  case round =>
    obtain ⟨k, hk, rfl, hF, hB, hi⟩ := hrel
    have HF := Lib.hid hF
    have HB := Lib.hid hB
    have HJ := Lib.hid hi
    clear hF hi
    by_cases hlt : k < l.length
    · obtain ⟨a', c', e', hc⟩ := HV.out.on hB
      obtain ⟨rfl, rfl⟩ : a = a' ∧ cap = c' := by simpa using e'
      rcases hc with hc | ⟨b, off, rfl, hc⟩
      · rw [hc] at hlt; simp at hlt
      obtain ⟨k1, k2⟩ := hc k hlt
      have KG := Lib.hid (HG.out (l.getD k (0, 0)) wr HJ.out)
      obtain ⟨X, hX⟩ : ∃ X, X = l.getD k (0, 0) := ⟨_, rfl⟩
      rw [← hX] at k1 k2 KG
      have HX := Lib.hid hX
      clear hX hc e' hB
      go_wp2_with fail
      refine KG.out.mono ?_
      rintro e w2 ⟨rfl, hb⟩
      have HJ2 := Lib.hid (HI.out _ _ HJ.out hb)
      have HB2 := Lib.hid (HB.out.trans (hb.mono HB.out.size))
      clear hb
      rcases hp : p X with _ | _
      · have N1 := Lib.hid (any_take p l k (0, 0) hlt HF.out (by rw [← HX.out]; exact hp))
        go_wp2
        go_roundw
        case rel => exact ⟨k + 1, by omega, by go_num, N1.out, HB2.out, HJ2.out⟩
        case measure => simp [intOf]; omega
      · have N1 := Lib.hid (any_hit p l k (0, 0) hlt (by rw [← HX.out]; exact hp))
        go_wp2
        go_ret
        exact ⟨⟨_, rfl, by rw [N1.out]; exact decide_eq_true (by omega)⟩, HB2.out⟩
    · have N1 : Hid (l.any p = false) := Lib.hid (by have := HF.out; rwa [List.take_of_length_le (by omega)] at this)
      go_wp2
      go_ret
      exact ⟨⟨_, rfl, by rw [N1.out]; decide⟩, HB.out⟩
theorem containsFunc_any (c1 c2 : Value) (I : World → Prop) (p : Int × Int → Bool) (hI : ∀ W W', I W → Below W.heap.size W W' → I W')
    (hG : ∀ (x : Int × Int) W, I W → Calls Tryz.prog 295 #[.agg #[.int .i64 x.1, .int .i64 x.2], c1, c2] W fun e w' => e = .returned (.bool (p x)) ∧ Below W.heap.size W w')
    (v : Value) (l : List (Int × Int)) (w : World) (hv : Nths w v l) (hw : I w) (hl : l.length ≤ 1000000) :
    Calls Tryz.prog 296 #[v, .func (.func 295) #[] #[c1, c2]] w fun e w' => e = .returned (.bool (l.any p)) ∧ Below w.heap.size w w' := by
  have K := Lib.hid (indexFunc_any c1 c2 I p hI hG v l w hv hw hl)
  obtain ⟨a, cap, rfl, hc⟩ := hv
  clear hI hG hw hc
  go_enter Tryz.func296, Tryz.ntmps296
  go_wp2_with fail
  refine K.out.mono ?_
  rintro e w1 ⟨⟨i, rfl, hi⟩, hb⟩
  have HI := Lib.hid hi
  clear hi
  go_wp2
  go_ret
  exact ⟨ret_bool (by rw [← HI.out]), hb⟩
end Go.Proofs.YthdohcjingfpoaaGreatDoor
namespace Go.Proofs.YthdohcjingfpoaaGreatDoor
open Go.RowKit Cal Txt

theorem PlBox.lt {W : World} {g : Nat} {a x b z : Int} (h : PlBox W g a x b z) : g < W.heap.size := by
  have k := h.1
  rcases Nat.lt_or_ge g W.heap.size with q | q
  · exact q
  · simp [World.cell?, Array.getElem?_eq_none q] at k
theorem PlBox.on {W W' : World} {g : Nat} {a x b z : Int} (h : PlBox W g a x b z) (q : Below W.heap.size W W') : PlBox W' g a x b z :=
  ⟨(q.cell (p := ⟨g, 4, none⟩) h.lt).trans h.1, (q.cell (p := ⟨g, 5, none⟩) h.lt).trans h.2.1, (q.cell (p := ⟨g, 6, none⟩) h.lt).trans h.2.2.1, (q.cell (p := ⟨g, 7, none⟩) h.lt).trans h.2.2.2⟩
theorem PlBox.new (W : World) (y m d l a x b z : Int) (t : TypeId) : PlBox (W.alloc (.cells #[.int .i64 y, .int .i64 m, .int .i64 d, .int .i64 l, .int .i64 a, .int .i64 x, .int .i64 b, .int .i64 z] t)) W.heap.size a x b z := ⟨by simp, by simp, by simp, by simp⟩
/-- Does a weekday fit, from either end or at all? -/
def fit3 (a x b z : Int) (q : Int × Int) : Bool := (q.1 == 0 && q.2 == x) || (q.1 == a && q.2 == x) || (q.1 == b && q.2 == z)
set_option maxRecDepth 100000 in
theorem ask3_any (r : Rl) (y m d l a x b z : Int) (g : Nat) (w : World) (hR : RlBox w g r) (hs : Sm r) :
    Calls Tryz.prog 294 #[.agg #[.int .i64 y, .int .i64 m, .int .i64 d, .int .i64 l, .int .i64 a, .int .i64 x, .int .i64 b, .int .i64 z], .pointer (some ⟨g, 0, none⟩)] w fun e w' => e = .returned (.bool (r.weeks.length == 0 || r.weeks.any (fit3 a x b z))) ∧ Below w.heap.size w w' := by
  have B0 := (Below.refl w.heap.size w).alloc (Nat.le_refl _) (.cells #[.int .i64 y, .int .i64 m, .int .i64 d, .int .i64 l, .int .i64 a, .int .i64 x, .int .i64 b, .int .i64 z] 314)
  have z0 : (w.alloc (.cells #[.int .i64 y, .int .i64 m, .int .i64 d, .int .i64 l, .int .i64 a, .int .i64 x, .int .i64 b, .int .i64 z] 314)).heap.size = w.heap.size + 1 := by simp
  have A1 : Below (w.alloc (.cells #[.int .i64 y, .int .i64 m, .int .i64 d, .int .i64 l, .int .i64 a, .int .i64 x, .int .i64 b, .int .i64 z] 314)).heap.size (w.alloc (.cells #[.int .i64 y, .int .i64 m, .int .i64 d, .int .i64 l, .int .i64 a, .int .i64 x, .int .i64 b, .int .i64 z] 314)) ((w.alloc (.cells #[.int .i64 y, .int .i64 m, .int .i64 d, .int .i64 l, .int .i64 a, .int .i64 x, .int .i64 b, .int .i64 z] 314)).alloc (.cells #[.int .i64 0, .int .i64 x] 158)) := (Below.refl _ _).alloc (Nat.le_refl _) _
  have B1 := B0.trans (A1.mono B0.size)
  have hP := (PlBox.new w y m d l a x b z 314).on A1
  have hT := Two.new (w.alloc (.cells #[.int .i64 y, .int .i64 m, .int .i64 d, .int .i64 l, .int .i64 a, .int .i64 x, .int .i64 b, .int .i64 z] 314)) 0 x 158
  rw [z0] at hT
  have gl := hR.lt
  have hR2 := hR.on B1
  obtain ⟨vm, vd, vw, vp, h0, h1, h2, h3, h4⟩ := hR
  have K := Lib.hid (containsFunc_any (.pointer (some ⟨w.heap.size + 1, 0, none⟩)) (.pointer (some ⟨w.heap.size, 0, none⟩)) (fun W => Two W (w.heap.size + 1) 0 x ∧ PlBox W w.heap.size a x b z) (fit3 a x b z)
    (fun W W' h q => ⟨h.1.on q, h.2.on q⟩) (fun q W h => fits_any q.1 q.2 a x b z 0 x (w.heap.size + 1) w.heap.size W h.1 h.2) vw r.weeks _ (h3.on B1) ⟨hT, hP⟩ (by have := hs.2.2; omega))
  obtain ⟨aw, cw, rfl, hc⟩ := h3
  obtain ⟨q0, q1, q2, q3, q4, q5, q6, q7⟩ := h0
  have HB := Lib.hid B1
  clear B0 A1 B1 h1 h2 h4 hc hP hT hR2
  rcases he : ((r.weeks.length : Int) == 0) with _ | _
  · have N1 : Hid ((r.weeks.length == 0) = false) := Lib.hid (by simp at he ⊢; omega)
    go_enter Tryz.func294, Tryz.ntmps294
    go_wp2_with fail
    refine K.out.mono ?_
    rintro e w1 ⟨rfl, hb⟩
    have B2 := Lib.hid (HB.out.trans (hb.mono HB.out.size))
    clear hb
    go_wp2
    go_ret
    exact ⟨ret_bool (by rw [N1.out, Bool.false_or]), B2.out⟩
  · have N1 : Hid ((r.weeks.length == 0) = true) := Lib.hid (by simp at he ⊢; omega)
    go_enter Tryz.func294, Tryz.ntmps294
    go_wp2
    go_ret
    exact ⟨ret_bool (by rw [N1.out, Bool.true_or]), HB.out⟩
/-- A day's place lies in a block. -/
def Pl8 (W : World) (g : Nat) (n : Int) : Prop := W.cell? ⟨g, 0, none⟩ = some (.int .i64 (yr n)) ∧ W.cell? ⟨g, 1, none⟩ = some (.int .i64 (mo n)) ∧ W.cell? ⟨g, 2, none⟩ = some (.int .i64 (da n)) ∧ W.cell? ⟨g, 3, none⟩ = some (.int .i64 (ml (yr n) (mo n))) ∧
  W.cell? ⟨g, 4, none⟩ = some (.int .i64 ((da n - 1) / 7 + 1)) ∧ W.cell? ⟨g, 5, none⟩ = some (.int .i64 (wd n)) ∧ W.cell? ⟨g, 6, none⟩ = some (.int .i64 (-((ml (yr n) (mo n) - da n) / 7) - 1)) ∧ W.cell? ⟨g, 7, none⟩ = some (.int .i64 (wd n))
theorem Pl8.lt {W : World} {g : Nat} {n : Int} (h : Pl8 W g n) : g < W.heap.size := by
  have k := h.1
  rcases Nat.lt_or_ge g W.heap.size with q | q
  · exact q
  · simp [World.cell?, Array.getElem?_eq_none q] at k
theorem Pl8.on {W W' : World} {g : Nat} {n : Int} (h : Pl8 W g n) (q : Below W.heap.size W W') : Pl8 W' g n := by
  have l := h.lt
  obtain ⟨h0, h1, h2, h3, h4, h5, h6, h7⟩ := h
  exact ⟨(q.cell (p := ⟨g, 0, none⟩) l).trans h0, (q.cell (p := ⟨g, 1, none⟩) l).trans h1, (q.cell (p := ⟨g, 2, none⟩) l).trans h2, (q.cell (p := ⟨g, 3, none⟩) l).trans h3, (q.cell (p := ⟨g, 4, none⟩) l).trans h4, (q.cell (p := ⟨g, 5, none⟩) l).trans h5, (q.cell (p := ⟨g, 6, none⟩) l).trans h6, (q.cell (p := ⟨g, 7, none⟩) l).trans h7⟩
theorem Pl8.new (W : World) (n : Int) (t : TypeId) : Pl8 (W.alloc (.cells #[.int .i64 (yr n), .int .i64 (mo n), .int .i64 (da n), .int .i64 (ml (yr n) (mo n)), .int .i64 ((da n - 1) / 7 + 1), .int .i64 (wd n), .int .i64 (-((ml (yr n) (mo n) - da n) / 7) - 1), .int .i64 (wd n)] t)) W.heap.size n := ⟨by simp, by simp, by simp, by simp, by simp, by simp, by simp, by simp⟩
/-- The three closures lie in blocks of their own, over a rule in a block. -/
def FunIn (W : World) (c : Nat) (r : Rl) : Prop := ∃ g, RlBox W g r ∧ W.cell? ⟨c, 0, none⟩ = some (.func (.func 290) #[] #[.pointer (some ⟨g, 0, none⟩)]) ∧ W.cell? ⟨c + 1, 0, none⟩ = some (.func (.func 292) #[] #[.pointer (some ⟨g, 0, none⟩)]) ∧ W.cell? ⟨c + 2, 0, none⟩ = some (.func (.func 294) #[] #[.pointer (some ⟨g, 0, none⟩)])
theorem cell_in {W : World} {p : Addr} {v : Value} (h : W.cell? p = some v) : p.block < W.heap.size := by
  rcases Nat.lt_or_ge p.block W.heap.size with q | q
  · exact q
  · simp [World.cell?, Array.getElem?_eq_none q] at h
theorem FunIn.on {W W' : World} {c : Nat} {r : Rl} (h : FunIn W c r) (q : Below W.heap.size W W') : FunIn W' c r := by
  obtain ⟨g, hR, h1, h2, h3⟩ := h
  exact ⟨g, hR.on q, (q.cell (p := ⟨c, 0, none⟩) (cell_in h1)).trans h1, (q.cell (p := ⟨c + 1, 0, none⟩) (cell_in h2)).trans h2, (q.cell (p := ⟨c + 2, 0, none⟩) (cell_in h3)).trans h3⟩
theorem fit3_eq (n : Int) (q : Int × Int) : fit3 ((da n - 1) / 7 + 1) (wd n) (-((ml (yr n) (mo n) - da n) / 7) - 1) (wd n) q = fitB q n := rfl
theorem askB_eq (r : Rl) (n : Int) : askB r n = ((r.months.length == 0 || r.months.contains (mo n)) && (r.days.length == 0 || nameB r.days (da n) (ml (yr n) (mo n))) && (r.weeks.length == 0 || r.weeks.any (fit3 ((da n - 1) / 7 + 1) (wd n) (-((ml (yr n) (mo n) - da n) / 7) - 1) (wd n)))) := rfl
set_option maxRecDepth 100000 in
set_option maxHeartbeats 1000000 in
theorem ask4_any (r : Rl) (n : Int) (c : Nat) (w : World) (hF : FunIn w c r) (hs : Sm r) (h1 : 1 ≤ n) (h2 : n ≤ 109573) :
    Calls Tryz.prog 297 #[.agg #[.int .i64 (yr n), .int .i64 (mo n), .int .i64 (da n), .int .i64 (ml (yr n) (mo n)), .int .i64 ((da n - 1) / 7 + 1), .int .i64 (wd n), .int .i64 (-((ml (yr n) (mo n) - da n) / 7) - 1), .int .i64 (wd n)], .pointer (some ⟨c, 0, none⟩), .pointer (some ⟨c + 1, 0, none⟩), .pointer (some ⟨c + 2, 0, none⟩)] w fun e w' => e = .returned (.bool (askB r n)) ∧ Below w.heap.size w w' := by
  obtain ⟨y1, y2, m1, m2, d1, d2⟩ := date_ok h1 h2
  have lb := ml_bd (yr n) (mo n)
  have B0 := (Below.refl w.heap.size w).alloc (Nat.le_refl _) (.cells #[.int .i64 (yr n), .int .i64 (mo n), .int .i64 (da n), .int .i64 (ml (yr n) (mo n)), .int .i64 ((da n - 1) / 7 + 1), .int .i64 (wd n), .int .i64 (-((ml (yr n) (mo n) - da n) / 7) - 1), .int .i64 (wd n)] 314)
  have HP : Hid (∀ W, Below w.heap.size w W → FunIn W c r) := Lib.hid (fun W q => hF.on q)
  have E := Lib.hid (askB_eq r n)
  have HB := Lib.hid B0
  clear B0 hF
  generalize hb1 : (r.months.length == 0 || r.months.contains (mo n)) = b1 at E
  generalize hb2 : (r.days.length == 0 || nameB r.days (da n) (ml (yr n) (mo n))) = b2 at E
  generalize hb3 : (r.weeks.length == 0 || r.weeks.any (fit3 ((da n - 1) / 7 + 1) (wd n) (-((ml (yr n) (mo n) - da n) / 7) - 1) (wd n))) = b3 at E
  have H1 := Lib.hid hb1
  have H2 := Lib.hid hb2
  have H3 := Lib.hid hb3
  clear hb1 hb2 hb3
  have HC := Lib.hid (Pl8.new w n 314)
  obtain ⟨g, hR, f1, f2, f3⟩ := HP.out _ (Below.refl _ _)
  have l1 := cell_in f1
  have K1 := Lib.hid (ask1_any r (yr n) (mo n) (da n) (ml (yr n) (mo n)) ((da n - 1) / 7 + 1) (wd n) (-((ml (yr n) (mo n) - da n) / 7) - 1) (wd n) g _ (hR.on HB.out) hs)
  rw [H1.out] at K1
  clear hR f2 f3
  go_enter Tryz.func297, Tryz.ntmps297
  go_wp2_with fail
  generalize w.alloc (.cells #[.int .i64 (yr n), .int .i64 (mo n), .int .i64 (da n), .int .i64 (ml (yr n) (mo n)), .int .i64 ((da n - 1) / 7 + 1), .int .i64 (wd n), .int .i64 (-((ml (yr n) (mo n) - da n) / 7) - 1), .int .i64 (wd n)] 314) = W0 at HC HB K1 ⊢
  refine K1.out.mono ?_
  rintro e w1 ⟨rfl, hb⟩
  have HB1 := Lib.hid (HB.out.trans (hb.mono HB.out.size))
  have HC1 := Lib.hid (HC.out.on hb)
  clear hb f1 l1 K1 HB HC
  rcases b1 with _ | _
  · have N1 := Lib.hid E.out
    clear E
    go_wp2
    go_ret
    exact ⟨ret_bool (by rw [N1.out]; rfl), HB1.out⟩
  obtain ⟨g, hR, f1, f2, f3⟩ := HP.out _ HB1.out
  have l1 := cell_in f2
  have K2 := Lib.hid (ask2_any r (yr n) (mo n) (da n) (ml (yr n) (mo n)) ((da n - 1) / 7 + 1) (wd n) (-((ml (yr n) (mo n) - da n) / 7) - 1) (wd n) g _ hR hs d1 (by omega) (by omega) (by omega))
  rw [H2.out] at K2
  have pl := HC1.out.lt
  obtain ⟨c0, c1, c2, c3, c4, c5, c6, c7⟩ := HC1.out
  clear hR f1 f3
  go_wp2_with fail
  clear c0 c1 c2 c3 c4 c5 c6 c7 pl f2 l1
  refine K2.out.mono ?_
  rintro e w2 ⟨rfl, hb⟩
  have HB2 := Lib.hid (HB1.out.trans (hb.mono HB1.out.size))
  have HC2 := Lib.hid (HC1.out.on hb)
  clear hb K2 HB1 HC1
  rcases b2 with _ | _
  · have N1 := Lib.hid E.out
    clear E
    go_wp2
    go_ret
    exact ⟨ret_bool (by rw [N1.out]; rfl), HB2.out⟩
  obtain ⟨g, hR, f1, f2, f3⟩ := HP.out _ HB2.out
  have l1 := cell_in f3
  have K3 := Lib.hid (ask3_any r (yr n) (mo n) (da n) (ml (yr n) (mo n)) ((da n - 1) / 7 + 1) (wd n) (-((ml (yr n) (mo n) - da n) / 7) - 1) (wd n) g _ hR hs)
  rw [H3.out] at K3
  have pl := HC2.out.lt
  obtain ⟨c0, c1, c2, c3, c4, c5, c6, c7⟩ := HC2.out
  clear hR f1 f2
  go_wp2_with fail
  clear c0 c1 c2 c3 c4 c5 c6 c7 pl f3 l1
  refine K3.out.mono ?_
  rintro e w3 ⟨rfl, hb⟩
  have HB3 := Lib.hid (HB2.out.trans (hb.mono HB2.out.size))
  have N1 := Lib.hid E.out
  clear hb K3 HB2 HC2 E
  go_wp2
  go_ret
  exact ⟨ret_bool (by rw [N1.out]; rfl), HB3.out⟩
theorem three_below (W : World) (o1 o2 o3 : Obj) : Below W.heap.size W (((W.alloc o1).alloc o2).alloc o3) :=
  (((Below.refl _ _).alloc (Nat.le_refl _) o1).alloc (by simp) o2).alloc (by simp; omega) o3
theorem cell_new (W : World) (v : Value) (t : TypeId) : (W.alloc (.cells #[v] t)).cell? ⟨W.heap.size, 0, none⟩ = some v := by simp
theorem cell_next {W : World} {b : Nat} {v : Value} (h : W.cell? ⟨b, 0, none⟩ = some v) (o : Obj) : (W.alloc o).cell? ⟨b, 0, none⟩ = some v :=
  (((Below.refl _ _).alloc (Nat.le_refl _) o : Below W.heap.size W (W.alloc o)).cell (p := ⟨b, 0, none⟩) (cell_in h)).trans h
theorem fun_new (W : World) (r : Rl) (g : Nat) (t : TypeId) (hR : RlBox W g r) : FunIn (((W.alloc (.cells #[.func (.func 290) #[] #[.pointer (some ⟨g, 0, none⟩)]] t)).alloc (.cells #[.func (.func 292) #[] #[.pointer (some ⟨g, 0, none⟩)]] t)).alloc (.cells #[.func (.func 294) #[] #[.pointer (some ⟨g, 0, none⟩)]] t)) W.heap.size r := by
  have B := three_below W (.cells #[.func (.func 290) #[] #[.pointer (some ⟨g, 0, none⟩)]] t) (.cells #[.func (.func 292) #[] #[.pointer (some ⟨g, 0, none⟩)]] t) (.cells #[.func (.func 294) #[] #[.pointer (some ⟨g, 0, none⟩)]] t)
  have c1 := cell_next (cell_next (cell_new W (.func (.func 290) #[] #[.pointer (some ⟨g, 0, none⟩)]) t) (.cells #[.func (.func 292) #[] #[.pointer (some ⟨g, 0, none⟩)]] t)) (.cells #[.func (.func 294) #[] #[.pointer (some ⟨g, 0, none⟩)]] t)
  have c2 := cell_next (cell_new (W.alloc (.cells #[.func (.func 290) #[] #[.pointer (some ⟨g, 0, none⟩)]] t)) (.func (.func 292) #[] #[.pointer (some ⟨g, 0, none⟩)]) t) (.cells #[.func (.func 294) #[] #[.pointer (some ⟨g, 0, none⟩)]] t)
  have c3 := cell_new ((W.alloc (.cells #[.func (.func 290) #[] #[.pointer (some ⟨g, 0, none⟩)]] t)).alloc (.cells #[.func (.func 292) #[] #[.pointer (some ⟨g, 0, none⟩)]] t)) (.func (.func 294) #[] #[.pointer (some ⟨g, 0, none⟩)]) t
  have e1 : (W.alloc (.cells #[.func (.func 290) #[] #[.pointer (some ⟨g, 0, none⟩)]] t)).heap.size = W.heap.size + 1 := by simp
  have e2 : ((W.alloc (.cells #[.func (.func 290) #[] #[.pointer (some ⟨g, 0, none⟩)]] t)).alloc (.cells #[.func (.func 292) #[] #[.pointer (some ⟨g, 0, none⟩)]] t)).heap.size = W.heap.size + 2 := by simp
  rw [e1] at c2
  rw [e2] at c3
  exact ⟨g, hR.on B, c1, c2, c3⟩
set_option maxRecDepth 100000 in
set_option maxHeartbeats 1000000 in
theorem asked_any (r : Rl) (v : Value) (w : World) (hv : RuleIn w v r) :
    Calls Tryz.prog 280 #[v] w fun e w' => e = .returned (.func (.func 297) #[] #[.pointer (some ⟨w.heap.size + 1, 0, none⟩), .pointer (some ⟨w.heap.size + 1 + 1, 0, none⟩), .pointer (some ⟨w.heap.size + 1 + 2, 0, none⟩)]) ∧ Below w.heap.size w w' ∧ FunIn w' (w.heap.size + 1) r := by
  obtain ⟨am, ad, aw, ap, cm, cd, cw, cp, rfl⟩ := hv.form
  have B0 := (Below.refl w.heap.size w).alloc (Nat.le_refl _) (.cells #[.int .i64 r.freq, .int .i64 r.every, .int .i64 r.count, .int .i64 r.till, .slice am r.months.length cm, .slice ad r.days.length cd, .slice aw r.weeks.length cw, .slice ap r.pick.length cp] 37)
  have hR : RlBox (w.alloc (.cells #[.int .i64 r.freq, .int .i64 r.every, .int .i64 r.count, .int .i64 r.till, .slice am r.months.length cm, .slice ad r.days.length cd, .slice aw r.weeks.length cw, .slice ap r.pick.length cp] 37)) w.heap.size r := by
    obtain ⟨vm, vd, vw, vp, e, h1, h2, h3, h4⟩ := hv.on B0
    simp only [Value.agg.injEq] at e
    obtain ⟨rfl, rfl, rfl, rfl⟩ : Value.slice am r.months.length cm = vm ∧ Value.slice ad r.days.length cd = vd ∧ Value.slice aw r.weeks.length cw = vw ∧ Value.slice ap r.pick.length cp = vp := by simpa using e
    exact ⟨_, _, _, _, RBox.new w r.freq r.every r.count r.till _ _ _ _ 37, h1, h2, h3, h4⟩
  have HR := Lib.hid hR
  have HB := Lib.hid B0
  have z0 : (w.alloc (.cells #[.int .i64 r.freq, .int .i64 r.every, .int .i64 r.count, .int .i64 r.till, .slice am r.months.length cm, .slice ad r.days.length cd, .slice aw r.weeks.length cw, .slice ap r.pick.length cp] 37)).heap.size = w.heap.size + 1 := by simp
  clear B0 hR hv
  go_enter Tryz.func280, Tryz.ntmps280
  go_wp2_with fail
  go_ret
  generalize w.alloc (.cells #[.int .i64 r.freq, .int .i64 r.every, .int .i64 r.count, .int .i64 r.till, .slice am r.months.length cm, .slice ad r.days.length cd, .slice aw r.weeks.length cw, .slice ap r.pick.length cp] 37) = W0 at HR HB z0 ⊢
  rw [← z0]
  exact ⟨rfl, HB.out.trans ((three_below W0 _ _ _).mono HB.out.size), fun_new W0 r w.heap.size _ HR.out⟩
end Go.Proofs.YthdohcjingfpoaaGreatDoor
