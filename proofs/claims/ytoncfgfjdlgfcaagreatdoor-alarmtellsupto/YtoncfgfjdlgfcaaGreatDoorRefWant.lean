/-
  What is proved here: what the document's wanted answers of a rule and two days (a contract over the translation).
-/
import Derived.Test.YtoncfgfjdlgfcaaGreatDoorBC
import Derived.Test.YtoncfgfjdlgfcaaGreatDoorBH
import Derived.Test.YtoncfgfjdlgfcaaGreatDoorBG
import Derived.Deep.CutRange
namespace Go.Proofs.YtoncfgfjdlgfcaaGreatDoor
open Go.RowKit Cal Txt

theorem want_m {r : Rl} {s n : Int} (h : (r.months.length == 0 || r.months.contains (mo n)) = false) : wantD r s n = false := by unfold wantD; rw [h]; simp
theorem want_d {r : Rl} {s n : Int} (h : (r.days.length == 0 || r.days.contains (da n) || r.days.contains (da n - ml (yr n) (mo n) - 1)) = false) : wantD r s n = false := by unfold wantD; rw [h]; simp
theorem want_w {r : Rl} {s n : Int} (h : (r.weeks.length == 0 || r.weeks.any (fitD · n)) = false) : wantD r s n = false := by unfold wantD; rw [h]; simp
theorem want_r {r : Rl} {s n : Int} (h1 : (r.months.length == 0 || r.months.contains (mo n)) = true) (h2 : (r.days.length == 0 || r.days.contains (da n) || r.days.contains (da n - ml (yr n) (mo n) - 1)) = true) (h3 : (r.weeks.length == 0 || r.weeks.any (fitD · n)) = true) :
    wantD r s n = (decide (0 < r.days.length) || decide (0 < r.weeks.length) || restD r s n) := by unfold wantD; rw [h1, h2, h3]; simp
theorem any_succ {α : Type} (p : α → Bool) (l : List α) (j : Nat) (d : α) (h : j < l.length) : (l.take (j + 1)).any p = ((l.take j).any p || p (l.getD j d)) := by
  rw [List.take_add_one, List.any_append, List.getElem?_eq_getElem h, List.getD_eq_getElem?_getD, List.getElem?_eq_getElem h]
  simp
theorem len_zero (l : Nat) : ((l : Int) == 0) = (l == 0 || false) := by
  rw [Bool.or_false]
  by_cases h : l = 0
  · rw [h]; rfl
  · rw [beq_eq_false_iff_ne.2 h, beq_eq_false_iff_ne.2 (by omega : ¬ (l : Int) = 0)]
theorem fitD_at {q : Int × Int} {n X Z x y : Int} (hx : x = (nfst n).1) (hy : y = (nlst n).1) (hX : X = q.1) (hZ : Z = q.2) : fitD q n = (Z == wd n && (X == 0 || X == x || X == y)) := by rw [hx, hy, hX, hZ]; rfl
set_option maxRecDepth 100000 in
set_option maxHeartbeats 8000000 in
theorem refWanted_any (r : Rl) (v : Value) (s n : Int) (w : World) (hv : RuleIn w v r) (hs : Sm r) (s1 : 1 ≤ s) (s2 : s ≤ 109573) (n1 : 1 ≤ n) (n2 : n ≤ 109573) :
    Calls Tryz.prog 190 #[v, .int .i64 s, .int .i64 n] w fun e w' => e = .returned (.bool (wantD r s n)) ∧ Below w.heap.size w w' := by
  have HV := Lib.hid (fun W (q : Below w.heap.size w W) => hv.on q)
  obtain ⟨vm, vd, vw, vp, rfl, hm, hd, hw, hp⟩ := hv
  have HM := Lib.hid (fun W (q : Below w.heap.size w W) => hm.on q)
  have HD := Lib.hid (fun W (q : Below w.heap.size w W) => hd.on q)
  have HW := Lib.hid (fun W (q : Below w.heap.size w W) => hw.on q)
  obtain ⟨am, cm, rfl, hmx⟩ := hm
  clear hmx
  obtain ⟨ad, cd, rfl, hdx⟩ := hd
  clear hdx
  obtain ⟨aw, cw, rfl, hwx⟩ := hw
  clear hwx
  obtain ⟨ap, cp, rfl, hpx⟩ := hp
  clear hpx
  obtain ⟨y1, y2, m1, m2, d1, d2⟩ := date_ok n1 n2
  have lb := ml_bd (yr n) (mo n)
  have HS := Lib.hid hs
  obtain ⟨lm, hlm⟩ : ∃ lm, lm = r.months.length := ⟨_, rfl⟩
  obtain ⟨ld, hld⟩ : ∃ ld, ld = r.days.length := ⟨_, rfl⟩
  obtain ⟨lw, hlw⟩ : ∃ lw, lw = r.weeks.length := ⟨_, rfl⟩
  obtain ⟨lp, hlp⟩ : ∃ lp, lp = r.pick.length := ⟨_, rfl⟩
  rw [← hlm] at HM ⊢
  rw [← hld] at HD ⊢
  rw [← hlw] at HW ⊢
  rw [← hlp]
  have LM := Lib.hid hlm
  have LD := Lib.hid hld
  have LW := Lib.hid hlw
  have lms : lm ≤ 31 := by rw [hlm]; exact hs.1
  have lds : ld ≤ 31 := by rw [hld]; exact hs.2.1
  have lws : lw ≤ 31 := by rw [hlw]; exact hs.2.2
  clear hlm hld hlw hlp hs HV
  have B0 := (Below.refl w.heap.size w).alloc (Nat.le_refl _) (.cells #[.int .i64 r.freq, .int .i64 r.every, .int .i64 r.count, .int .i64 r.till, .slice am lm cm, .slice ad ld cd, .slice aw lw cw, .slice ap lp cp] 29)
  have HR := Lib.hid (RBox.new w r.freq r.every r.count r.till (.slice am lm cm) (.slice ad ld cd) (.slice aw lw cw) (.slice ap lp cp) 29)
  have HB := Lib.hid B0
  clear B0
  go_enter Tryz.func190, Tryz.ntmps190
  go_wp2_with fail
  generalize w.alloc (.cells #[.int .i64 r.freq, .int .i64 r.every, .int .i64 r.count, .int .i64 r.till, .slice am lm cm, .slice ad ld cd, .slice aw lw cw, .slice ap lp cp] 29) = W0 at HB HR ⊢
  refine (refDate_yes n _ n1 n2).mono ?_
  rintro e w1 ⟨rfl, hb⟩
  have A1 : Below w1.heap.size w1 (w1.alloc (.cells #[.int .i64 (yr n), .int .i64 (mo n), .int .i64 (da n)] 88)) := (Below.refl _ _).alloc (Nat.le_refl _) _
  have B1' := HB.out.trans (hb.mono HB.out.size)
  have B1 := Lib.hid (B1'.trans (A1.mono B1'.size))
  have R1 := Lib.hid ((HR.out.on hb).on A1)
  have D1 := Lib.hid (Dat.new w1 (yr n) (mo n) (da n) 88)
  clear hb A1 B1' HB HR
  go_wp2_with fail
  generalize w1.alloc (.cells #[.int .i64 (yr n), .int .i64 (mo n), .int .i64 (da n)] 88) = W1 at B1 R1 D1 ⊢
  refine (refDate_yes s _ s1 s2).mono ?_
  rintro e w2 ⟨rfl, hb⟩
  have A2 : Below w2.heap.size w2 (w2.alloc (.cells #[.int .i64 (yr s), .int .i64 (mo s), .int .i64 (da s)] 88)) := (Below.refl _ _).alloc (Nat.le_refl _) _
  have B2' := B1.out.trans (hb.mono B1.out.size)
  have B2 := Lib.hid (B2'.trans (A2.mono B2'.size))
  have R2 := Lib.hid ((R1.out.on hb).on A2)
  have D2 := Lib.hid ((D1.out.on hb).on A2)
  have S2 := Lib.hid (Dat.new w2 (yr s) (mo s) (da s) 88)
  have dl := (D1.out.on hb).lt
  obtain ⟨c1, c2, c3⟩ := D1.out.on hb
  clear hb A2 B2' B1 R1 D1
  go_wp2_with fail
  clear c1 c2 c3 dl
  generalize w2.alloc (.cells #[.int .i64 (yr s), .int .i64 (mo s), .int .i64 (da s)] 88) = W2 at B2 R2 D2 S2 ⊢
  refine (refDays_yes (yr n) (mo n) _ y1 y2 m1 m2).mono ?_
  rintro e w3 ⟨rfl, hx⟩
  subst hx
  have KM := Lib.hid (refIn_any _ r.months (mo n) w3 (HM.out _ B2.out) (by rw [← LM.out]; omega))
  have KD := Lib.hid (refIn_any _ r.days (da n) w3 (HD.out _ B2.out) (by rw [← LD.out]; omega))
  have KE := Lib.hid (refIn_any _ r.days (da n - ml (yr n) (mo n) - 1) w3 (HD.out _ B2.out) (by rw [← LD.out]; omega))
  have EM : Hid (∃ b, b = r.months.contains (mo n)) := Lib.hid ⟨_, rfl⟩
  have ED : Hid (∃ b, b = r.days.contains (da n)) := Lib.hid ⟨_, rfl⟩
  have EE : Hid (∃ b, b = r.days.contains (da n - ml (yr n) (mo n) - 1)) := Lib.hid ⟨_, rfl⟩
  obtain ⟨bm, hbm⟩ := EM.out
  obtain ⟨bd, hbd⟩ := ED.out
  obtain ⟨be, hbe⟩ := EE.out
  rw [← hbm] at KM
  rw [← hbd] at KD
  rw [← hbe] at KE
  have HBM := Lib.hid hbm
  have HBD := Lib.hid hbd
  have HBE := Lib.hid hbe
  clear hbm hbd hbe EM ED EE
  have ql := R2.out.lt
  have dl := D2.out.lt
  have sl := S2.out.lt
  obtain ⟨q0, q1, q2, q3, q4, q5, q6, q7⟩ := R2.out
  obtain ⟨c1, c2, c3⟩ := D2.out
  go_wp2_with fail
  refine KM.out.mono ?_
  rintro e w4 ⟨rfl, hx⟩
  subst hx
  clear KM
  rcases h1 : (lm == 0 || bm) with _ | _
  · have N0 : Hid (wantD r s n = false) := Lib.hid (want_m (by rw [← LM.out, ← HBM.out]; exact h1))
    rcases bm with _ | _
    · have l0 : (0 : Int) < lm := by
        simp at h1; omega
      clear h1
      go_wp2
      go_ret
      exact ⟨ret_bool N0.out.symm, B2.out⟩
    · simp at h1
  have H1 := Lib.hid h1
  clear h1
  go_upto_region 5 with fail
  go_cut [47] from 20 to 164 (fun sv wx => sv = .bool false ∧ wx = w4)
  case first =>
    by_cases l0 : lm = 0
    · subst l0
      go_wp2_with fail
      go_meet
      case rel => exact ⟨rfl, rfl⟩
    · have l1 : (0 : Int) < lm := by omega
      have b1 : bm = true := by have := H1.out; simp [l0] at this; exact this
      subst b1
      clear l0
      go_wp2_with fail
      go_meet
      case rel => exact ⟨rfl, rfl⟩
  case rest =>
  obtain ⟨rfl, hx⟩ := hcut
  subst hx
  go_wp2_with fail
  refine KD.out.mono ?_
  rintro e w5 ⟨rfl, hx⟩
  subst hx
  clear KD
  go_wp2_with fail
  refine KE.out.mono ?_
  rintro e w5 ⟨rfl, hx⟩
  subst hx
  clear KE
  rcases h2 : (ld == 0 || bd || be) with _ | _
  · have N0 : Hid (wantD r s n = false) := Lib.hid (want_d (by rw [← LD.out, ← HBD.out, ← HBE.out]; exact h2))
    rcases bd with _ | _
    · rcases be with _ | _
      · have l0 : (0 : Int) < ld := by
          simp at h2; omega
        clear h2
        go_wp2
        go_ret
        exact ⟨ret_bool N0.out.symm, B2.out⟩
      · simp at h2
    · simp at h2
  have H2 := Lib.hid h2
  clear h2
  go_upto_region 9 with fail
  go_cut [72] from 20 to 164 (fun sv wx => sv = .bool false ∧ wx = w5)
  case first =>
    by_cases l0 : ld = 0
    · subst l0
      go_wp2_with fail
      go_meet
      case rel => exact ⟨rfl, rfl⟩
    · have l1 : (0 : Int) < ld := by omega
      have b1 : (bd || be) = true := by have := H2.out; simp [l0] at this; simpa using this
      clear l0
      rcases bd with _ | _
      · rcases be with _ | _
        · cases b1
        · go_wp2_with fail
          go_meet
          case rel => exact ⟨rfl, rfl⟩
      · go_wp2_with fail
        go_meet
        case rel => exact ⟨rfl, rfl⟩
  case rest =>
  obtain ⟨rfl, hx⟩ := hcut
  subst hx
  clear q0 q1 q2 q3 q4 q5 q6 q7 c1 c2 c3 ql dl sl
  go_wp2_with fail
  refine (refEnds_yes n _ n1 n2).mono ?_
  rintro e w6 ⟨rfl, hb⟩
  have B6 := Lib.hid (B2.out.trans (hb.mono B2.out.size))
  have R6 := Lib.hid (R2.out.on hb)
  have D6 := Lib.hid (D2.out.on hb)
  have S6 := Lib.hid (S2.out.on hb)
  rw [show -((ml (yr n) (mo n) - da n) / 7 + 1) = (nlst n).1 by show _ = -((ml (yr n) (mo n) - da n) / 7) - 1; omega, show (da n - 1) / 7 + 1 = (nfst n).1 from rfl]
  have NX : Hid (∃ x y, x = (nfst n).1 ∧ y = (nlst n).1) := Lib.hid ⟨_, _, rfl, rfl⟩
  obtain ⟨x, y, hx, hy⟩ := NX.out
  rw [← hx, ← hy]
  have HX := Lib.hid hx
  have HY := Lib.hid hy
  clear hx hy NX hb B2 R2 D2 S2
  have ql := R6.out.lt
  obtain ⟨q0, q1, q2, q3, q4, q5, q6, q7⟩ := R6.out
  go_wp2_with fail
  clear q0 q1 q2 q3 q4 q5 q6 q7 ql
  go_loopw [17, 18] (fun f i wr => ∃ j : Nat, j ≤ lw ∧ i = .int .i64 j ∧ f = .bool (lw == 0 || (r.weeks.take j).any (fitD · n)) ∧ Below w6.heap.size w6 wr) (fun _ i _ => lw - (intOf i).toNat)
  case atStart => exact ⟨0, Nat.zero_le _, rfl, congrArg Value.bool (len_zero lw), Below.refl _ _⟩
  case round =>
    obtain ⟨j, hj, rfl, hf, hB⟩ := hrel
    obtain ⟨fb, hfb⟩ : ∃ fb, fb = (lw == 0 || (r.weeks.take j).any (fitD · n)) := ⟨_, rfl⟩
    rw [← hfb] at hf
    subst hf
    have HFB := Lib.hid hfb
    clear hfb
    have R7 := R6.out.on hB
    have ql := R7.lt
    obtain ⟨q0, q1, q2, q3, q4, q5, q6, q7⟩ := R7
    by_cases hlt : j < lw
    · obtain ⟨a', c', e', hc⟩ := HW.out _ (B6.out.trans (hB.mono B6.out.size))
      obtain ⟨rfl, hl', rfl⟩ : aw = a' ∧ lw = r.weeks.length ∧ cw = c' := by simpa using e'
      rcases hc with hc | ⟨b, off, rfl, hc⟩
      · rw [hl', hc] at hlt; simp at hlt
      obtain ⟨k1, k2⟩ := hc j (by rw [← hl']; exact hlt)
      obtain ⟨X, hX⟩ : ∃ X, X = (r.weeks.getD j (0, 0)).1 := ⟨_, rfl⟩
      obtain ⟨Z, hZ⟩ : ∃ Z, Z = (r.weeks.getD j (0, 0)).2 := ⟨_, rfl⟩
      rw [← hX] at k1
      rw [← hZ] at k2
      have bl := cell_in k1
      have z0 : (lw == 0) = false := beq_eq_false_iff_ne.2 (by omega)
      have NX : Hid ((lw == 0 || (r.weeks.take (j + 1)).any (fitD · n)) = (fb || (Z == wd n && (X == 0 || X == x || X == y)))) := Lib.hid (by
        rw [any_succ _ _ j (0, 0) (by rw [← hl']; exact hlt), HFB.out, z0, fitD_at HX.out HY.out hX hZ]; simp)
      have bl2 : b < wr.heap.size := bl
      clear hX hZ hc e' hl' z0 bl
      rcases fb with _ | _
      case true =>
        go_wp2_with fail
        go_big_quiet ((go_at_call 234; exact Calls.quiet_of_same (refWeekday_wd _ _ n1 n2)))
        go_wp2
        go_roundw
        case rel => exact ⟨j + 1, by omega, by go_num, congrArg Value.bool (by rw [NX.out]; rfl), below_drewN (hB.alloc hB.size _) _⟩
        case measure => simp [intOf]; omega
      rcases e1 : (Z == wd n) with _ | _
      · go_wp2_with fail
        go_big_quiet ((go_at_call 234; exact Calls.quiet_of_same (refWeekday_wd _ _ n1 n2)))
        go_wp2
        go_roundw
        case rel => exact ⟨j + 1, by omega, by go_num, congrArg Value.bool (by rw [NX.out]; simp [e1]), below_drewN (hB.alloc hB.size _) _⟩
        case measure => simp [intOf]; omega
      rcases e2 : (X == 0) with _ | _
      case true =>
        go_wp2_with fail
        go_big_quiet ((go_at_call 234; exact Calls.quiet_of_same (refWeekday_wd _ _ n1 n2)))
        go_wp2
        go_roundw
        case rel => exact ⟨j + 1, by omega, by go_num, congrArg Value.bool (by rw [NX.out]; simp [e1, e2]), below_drewN (hB.alloc hB.size _) _⟩
        case measure => simp [intOf]; omega
      rcases e3 : (X == x) with _ | _
      case true =>
        go_wp2_with fail
        go_big_quiet ((go_at_call 234; exact Calls.quiet_of_same (refWeekday_wd _ _ n1 n2)))
        go_wp2
        go_roundw
        case rel => exact ⟨j + 1, by omega, by go_num, congrArg Value.bool (by rw [NX.out]; simp [e1, e2, e3]), below_drewN (hB.alloc hB.size _) _⟩
        case measure => simp [intOf]; omega
      rcases e4 : (X == y) with _ | _
      · go_wp2_with fail
        go_big_quiet ((go_at_call 234; exact Calls.quiet_of_same (refWeekday_wd _ _ n1 n2)))
        go_wp2
        go_roundw
        case rel => exact ⟨j + 1, by omega, by go_num, congrArg Value.bool (by rw [NX.out]; simp [e1, e2, e3, e4]), below_drewN (hB.alloc hB.size _) _⟩
        case measure => simp [intOf]; omega
      · go_wp2_with fail
        go_big_quiet ((go_at_call 234; exact Calls.quiet_of_same (refWeekday_wd _ _ n1 n2)))
        go_wp2
        go_roundw
        case rel => exact ⟨j + 1, by omega, by go_num, congrArg Value.bool (by rw [NX.out]; simp [e1, e2, e3, e4]), below_drewN (hB.alloc hB.size _) _⟩
        case measure => simp [intOf]; omega
    · have FE : Hid (fb = (lw == 0 || r.weeks.any (fitD · n))) := Lib.hid (by rw [HFB.out, List.take_of_length_le (by rw [← LW.out]; omega)])
      have B7 := Lib.hid (B6.out.trans (hB.mono B6.out.size))
      have D7 := D6.out.on hB
      have S7 := S6.out.on hB
      have dl := D7.lt
      have sl := S7.lt
      obtain ⟨c1, c2, c3⟩ := D7
      obtain ⟨g1, g2, g3⟩ := S7
      clear HFB
      rcases fb with _ | _
      · have N0 : Hid (wantD r s n = false) := Lib.hid (want_w (by rw [← LW.out, ← FE.out]))
        go_wp2
        go_ret
        exact ⟨ret_bool N0.out.symm, B7.out⟩
      have WR : Hid (wantD r s n = (decide (0 < ld) || decide (0 < lw) || restD r s n)) := Lib.hid (by
        rw [LD.out, LW.out]
        exact want_r (by rw [← LM.out, ← HBM.out]; exact H1.out) (by rw [← LD.out, ← HBD.out, ← HBE.out]; exact H2.out) (by rw [← LW.out, ← FE.out]))
      by_cases d0 : (0 : Int) < ld
      · have N1 : Hid (wantD r s n = true) := Lib.hid (by rw [WR.out, decide_eq_true (by omega : 0 < ld)]; rfl)
        go_wp2
        go_ret
        exact ⟨ret_bool N1.out.symm, B7.out⟩
      by_cases w0 : (0 : Int) < lw
      · have N1 : Hid (wantD r s n = true) := Lib.hid (by rw [WR.out, decide_eq_true (by omega : 0 < lw), Bool.or_true]; rfl)
        go_wp2
        go_ret
        exact ⟨ret_bool N1.out.symm, B7.out⟩
      have WQ : Hid (wantD r s n = restD r s n) := Lib.hid (by rw [WR.out, decide_eq_false (by omega : ¬ 0 < ld), decide_eq_false (by omega : ¬ 0 < lw)]; rfl)
      clear WR
      rcases e1 : (r.freq == 1) with _ | _
      case true =>
        have N1 : Hid (wantD r s n = true) := Lib.hid (by rw [WQ.out]; exact if_pos (by simpa using e1))
        go_wp2
        go_ret
        exact ⟨ret_bool N1.out.symm, B7.out⟩
      have f1 : Hid (¬ r.freq = 1) := Lib.hid (by simpa using e1)
      rcases e2 : (r.freq == 2) with _ | _
      case true =>
        have N1 : Hid (wantD r s n = (wd n == wd s)) := Lib.hid (by rw [WQ.out]; unfold restD; rw [if_neg f1.out, if_pos (by simpa using e2)])
        go_wp2_with fail
        refine (refWeekday_wd n _ n1 n2).mono ?_
        rintro e w8 ⟨rfl, hx⟩
        subst hx
        go_wp2_with fail
        refine (refWeekday_wd s _ s1 s2).mono ?_
        rintro e w8 ⟨rfl, hx⟩
        subst hx
        go_wp2
        go_ret
        exact ⟨ret_bool N1.out.symm, B7.out⟩
      have WS : Hid (wantD r s n = (da n == da s && (decide (r.freq = 3) || decide (0 < lm) || mo n == mo s))) := Lib.hid (by rw [WQ.out, LM.out]; unfold restD; rw [if_neg f1.out, if_neg (by simpa using e2)])
      clear WQ
      rcases e3 : (da n != da s) with _ | _
      case true =>
        have N1 : Hid (wantD r s n = false) := Lib.hid (by rw [WS.out, show (da n == da s) = false by simpa using e3]; rfl)
        go_wp2
        go_ret
        exact ⟨ret_bool N1.out.symm, B7.out⟩
      have WT : Hid (wantD r s n = (decide (r.freq = 3) || decide (0 < lm) || mo n == mo s)) := Lib.hid (by rw [WS.out, show (da n == da s) = true by simpa using e3, Bool.true_and])
      clear WS
      have e3' : ¬ da n ≠ da s := by simpa using e3
      rcases e4 : (r.freq == 3) with _ | _
      case true =>
        have N1 : Hid (wantD r s n = true) := Lib.hid (by rw [WT.out, decide_eq_true (by simpa using e4 : r.freq = 3)]; rfl)
        go_wp2
        go_ret
        exact ⟨ret_bool N1.out.symm, B7.out⟩
      have f3 : Hid (¬ r.freq = 3) := Lib.hid (by simpa using e4)
      by_cases m0 : (0 : Int) < lm
      · have N1 : Hid (wantD r s n = true) := Lib.hid (by rw [WT.out, decide_eq_true (by omega : 0 < lm), Bool.or_true]; rfl)
        go_wp2
        go_ret
        exact ⟨ret_bool N1.out.symm, B7.out⟩
      · have N1 : Hid (wantD r s n = (mo n == mo s)) := Lib.hid (by rw [WT.out, decide_eq_false f3.out, decide_eq_false (by omega : ¬ 0 < lm)]; rfl)
        go_wp2
        go_ret
        exact ⟨ret_bool N1.out.symm, B7.out⟩
end Go.Proofs.YtoncfgfjdlgfcaaGreatDoor
