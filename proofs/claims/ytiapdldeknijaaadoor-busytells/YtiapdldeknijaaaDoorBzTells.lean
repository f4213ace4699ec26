/-
  What is proved here: BusyTells returns true, whatever it is handed (its walk over the translation); the plain facts that it wants.
-/
import Derived.Test.YtiapdldeknijaaaDoorBzRefF
import Derived.Test.YtiapdldeknijaaaDoorBzSort
import Derived.Test.YtiapdldeknijaaaDoorErrT
namespace Go.Proofs.YtiapdldeknijaaaDoor.Bz
open Go.RowKit

/-- The document's fault of two lists. -/
def f1F (l m : List Bz) : Int := if bzF l = 0 then bzF m else bzF l
theorem joF_is (l m : List Bz) : joF l m = if f1F l m = 0 ∧ 200 < l.length + m.length then 4 else f1F l m := by
  unfold joF f1F
  by_cases h1 : bzF l = 0
  · rw [if_pos h1, if_pos h1]
    by_cases h2 : bzF m = 0
    · rw [if_pos h2]
      by_cases h3 : 200 < l.length + m.length
      · rw [if_pos ⟨h2, h3⟩]
        unfold bzF
        rw [if_pos (by rw [List.length_append]; exact h3)]
      · rw [if_neg (fun q => h3 q.2), h2]
        refine bzF_zero.2 ⟨by rw [List.length_append]; omega, fun x hx => ?_⟩
        rcases List.mem_append.1 hx with q | q
        · exact (bzF_zero.1 h1).2 x q
        · exact (bzF_zero.1 h2).2 x q
    · rw [if_neg h2, if_neg (fun q => h2 q.1)]
  · rw [if_neg h1, if_neg h1, if_neg (fun q => h1 q.1)]
theorem joF_both {l m : List Bz} (h : joF l m = 0) : bzF l = 0 ∧ bzF m = 0 ∧ (∀ x ∈ l ++ m, Gd x) ∧ l.length ≤ 200 ∧ m.length ≤ 200 := by
  have h1 : bzF l = 0 := by
    unfold joF at h
    split at h
    · rename_i q; exact q
    · exact h
  have h2 : bzF m = 0 := by
    unfold joF at h
    rw [if_pos h1] at h
    split at h
    · rename_i q; exact q
    · exact h
  refine ⟨h1, h2, fun x hx => ?_, (bzF_zero.1 h1).1, (bzF_zero.1 h2).1⟩
  rcases List.mem_append.1 hx with q | q
  · exact (bzF_zero.1 h1).2 x q
  · exact (bzF_zero.1 h2).2 x q
theorem joL_len (l m : List Bz) : (joL l m).length ≤ 200 := by
  unfold joL
  split
  · rename_i q
    obtain ⟨j1, j2, j3, _, _⟩ := joF_both q
    have e : joF l m = bzF (l ++ m) := by unfold joF; rw [if_pos j1, if_pos j2]
    rw [e] at q
    exact Nat.le_trans (nrm_len (gd_rt j3)) (bzF_zero.1 q).1
  · simp
theorem rb_nil (w : World) : Rb w (.slice none 0 0) [] := ⟨none, 0, rfl, Or.inl rfl⟩
set_option maxRecDepth 100000 in
set_option maxHeartbeats 16000000 in
theorem btells (l m : List Bz) (fr t n : Int) (v u : Value) (w : World) (hv : Rb w v l) (hl : l.length ≤ 9223372036854775807) (hu : Rb w u m) (hm : m.length ≤ 9223372036854775807) (hg : ErrTy w) :
    Calls Tryd.prog 3 #[v, u, .int .i64 fr, .int .i64 t, .int .i64 n] w fun e w' => e = .returned (.bool true) ∧ Below w.heap.size w w' := by
  have HV := Lib.hid (fun W (q : Below w.heap.size w W) => hv.on q)
  have HU := Lib.hid (fun W (q : Below w.heap.size w W) => hu.on q)
  have HG := Lib.hid (fun W (q : Below w.heap.size w W) => hg.below q)
  have K := Lib.hid (rBusy_any l v w hv hl)
  obtain ⟨av, cv, ev, _⟩ := hv
  obtain ⟨au, cu, eu, _⟩ := hu
  subst ev eu
  obtain ⟨E, hE⟩ : ∃ E, E = bzF l := ⟨_, rfl⟩
  rw [← hE] at K
  have HE := Lib.hid hE
  clear hE hg
  go_enter Tryd.func3, Tryd.ntmps3
  go_upto_if 35 with (go_at_call 4; refine K.out.mono ?_; rintro e w1 ⟨rfl, hb⟩; have B1 := Lib.hid hb; clear hb K)
  go_cut [12] from 34 to 37 (fun s wx => Rb wx s (nmL l) ∧ Below w.heap.size w wx)
  case first =>
    rcases h0 : (E == 0) with _ | _
    · have NL : Hid (nmL l = []) := Lib.hid (nmL_no (by rw [← HE.out]; simpa using h0))
      go_wp2
      go_meet
      case rel => exact ⟨by rw [NL.out]; exact rb_nil _, B1.out⟩
    · have hz : bzF l = 0 := by rw [← HE.out]; simpa using h0
      have NL := Lib.hid (nmL_yes hz)
      have K := Lib.hid (rNorm_any l _ w1 (HV.out _ B1.out) (Nat.le_trans (bzF_zero.1 hz).1 (by decide)) (gd_rt (bzF_zero.1 hz).2))
      clear hz
      go_wp2_with fail
      refine K.out.mono ?_
      rintro e w2 ⟨x, rfl, ho, hb⟩
      have R2 : Hid (Rb w2 x (nmL l)) := Lib.hid (by rw [NL.out]; exact ho.rb)
      have B2 := Lib.hid (B1.out.trans (hb.mono B1.out.size))
      clear ho hb K
      go_wp2
      go_meet
      case rel => exact ⟨R2.out, B2.out⟩
  case rest =>
  obtain ⟨hR1, hB1⟩ := hcut
  obtain ⟨w2, rfl⟩ : ∃ w2, w2 = wc := ⟨_, rfl⟩
  obtain ⟨ax, cx, ex, _⟩ := id hR1
  subst ex
  have R2 := Lib.hid hR1
  have B2 := Lib.hid hB1
  have NLL := nmL_len l
  have NC := Lib.hid (nmL_cn l)
  have NW := Lib.hid (nmL_in l)
  obtain ⟨NL, hNL⟩ : ∃ NL, NL = nmL l := ⟨_, rfl⟩
  rw [← hNL] at R2 NLL NC NW ⊢
  have HNL := Lib.hid hNL
  obtain ⟨TT, hTT⟩ : ∃ TT, TT = tot NL := ⟨_, rfl⟩
  have HTT := Lib.hid hTT
  clear hR1 hB1 B1 hNL hTT
  go_wp2_with fail
  go_loopw [13, 14] (fun s i wr => ∃ k : Nat, k ≤ NL.length ∧ i = .int .i64 k ∧ s = .int .i64 (tot (NL.take k)) ∧ Below w2.heap.size w2 wr) (fun _ i _ => NL.length - (intOf i).toNat)
  case atStart => exact ⟨0, Nat.zero_le _, rfl, rfl, Below.refl _ _⟩
  case round =>
  obtain ⟨j, hj, rfl, rfl, hB⟩ := hrel
  have HB := Lib.hid hB
  by_cases hlt2 : j < NL.length
  case pos =>
    obtain ⟨b, off, ea, _, c1, c2⟩ := rb_at (R2.out.on hB) hlt2
    subst ea
    have TK := Lib.hid (tot_take NL j hlt2)
    have XM : NL.getD j (0, 0) ∈ NL := by rw [List.getD_eq_getElem?_getD, List.getElem?_eq_getElem hlt2]; exact List.getElem_mem _
    have XG := NW.out _ XM
    have XC := NC.out.2 _ XM
    have TB := tot_cap (cn_take NC.out j) (wt_take NW.out j) (by decide)
    clear XM
    generalize NL.getD j (0, 0) = X at c1 c2 TK XG XC
    generalize tot (NL.take j) = T at TK TB ⊢
    have bl := cell_in c1
    have e1 : IntKind.i64.wrap (T + X.2) = T + X.2 := by rw [IntKind.wrap_i64]; omega
    have e2 : IntKind.i64.wrap (T + X.2 - X.1) = T + X.2 - X.1 := by rw [IntKind.wrap_i64]; omega
    have N2 : Hid (T + X.2 - X.1 = tot (NL.take (j + 1))) := Lib.hid (by rw [TK.out]; omega)
    clear hB TK
    go_wp2_with fail
    go_quiet (fail)
    have B9 := Lib.hid (HB.out.trans ((below_dr wr nq).mono HB.out.size))
    clear c1 c2 bl
    go_wp2
    go_roundw
    case rel => exact ⟨j + 1, by omega, by go_num, by rw [← N2.out], B9.out⟩
    case measure => simp [intOf]; omega
  have N2 : tot (NL.take j) = TT := by rw [List.take_of_length_le (by omega)]; exact HTT.out.symm
  rw [N2]
  have B3 := Lib.hid (B2.out.trans (hB.mono B2.out.size))
  have R3 : Hid (Rb wr (.slice ax NL.length cx) NL) := Lib.hid (R2.out.on hB)
  have K4 := Lib.hid (nrm_any srtH l _ wr (HV.out _ B3.out) hl)
  rw [← HE.out, ← HNL.out] at K4
  clear hB HB N2 NC NW R2 B2
  go_wp2_with fail
  refine K4.out.mono ?_
  rintro e w4 ⟨u4, rfl, ho, hb⟩
  have B4 := Lib.hid (B3.out.trans (hb.mono B3.out.size))
  have R4 : Hid (Rb w4 (.slice ax NL.length cx) NL) := Lib.hid (R3.out.on hb)
  have G4 := Lib.hid ho.rb
  clear hb ho K4 R3 B3 hlt2 hj
  go_wp2_with fail
  refine (errT_fault E w4 (HG.out _ B4.out)).mono ?_
  rintro e w5 ⟨rfl, hb⟩
  have B5 := Lib.hid (B4.out.trans (hb.mono B4.out.size))
  have K5 := Lib.hid (rSame_any NL u4 _ w5 (G4.out.on hb) (R4.out.on hb) (Nat.le_trans NLL (by decide)))
  clear hb R4 G4 B4
  go_wp2_with fail
  refine K5.out.mono ?_
  rintro e w6 ⟨rfl, hb⟩
  have B6 := Lib.hid (B5.out.trans (hb.mono B5.out.size))
  have K6 := Lib.hid (tot_any srtH l _ w6 (HV.out _ B6.out) hl)
  rw [← HE.out, ← HNL.out, ← HTT.out] at K6
  clear hb K5 B5
  go_wp2_with fail
  refine K6.out.mono ?_
  rintro e w7 ⟨rfl, hb⟩
  have B7 := Lib.hid (B6.out.trans (hb.mono B6.out.size))
  clear hb K6 B6
  go_wp2_with fail
  refine (errT_fault E w7 (HG.out _ B7.out)).mono ?_
  rintro e w8 ⟨rfl, hb⟩
  have B8 := Lib.hid (B7.out.trans (hb.mono B7.out.size))
  clear hb B7 HTT
  go_upto_if 78 with fail
  go_cut [21] from 77 to 80 (fun s wx => s = .int .i64 (f1F l m) ∧ Below w.heap.size w wx)
  case first =>
    rcases h0 : (E == 0) with _ | _
    · have F1 : Hid (f1F l m = E) := Lib.hid (by unfold f1F; rw [if_neg (by rw [← HE.out]; simpa using h0), HE.out])
      go_wp2
      go_meet
      case rel => exact ⟨by rw [F1.out], B8.out⟩
    · have F1 : Hid (f1F l m = bzF m) := Lib.hid (by unfold f1F; rw [if_pos (by rw [← HE.out]; simpa using h0)])
      have K := Lib.hid (rBusy_any m _ w8 (HU.out _ B8.out) hm)
      rw [← F1.out] at K
      go_wp2_with fail
      refine K.out.mono ?_
      rintro e w9 ⟨rfl, hb⟩
      have B9 := Lib.hid (B8.out.trans (hb.mono B8.out.size))
      clear hb K
      go_wp2
      go_meet
      case rel => exact ⟨rfl, B9.out⟩
  case rest =>
  obtain ⟨rfl, hB1⟩ := hcut
  obtain ⟨w9, rfl⟩ : ∃ w9, w9 = wc := ⟨_, rfl⟩
  have B9 := Lib.hid hB1
  clear hB1 B8
  have JI := joF_is l m
  have F0 : Hid (f1F l m = 0 → l.length ≤ 200 ∧ m.length ≤ 200) := Lib.hid (fun q => by
    unfold f1F at q
    split at q
    · rename_i h1
      exact ⟨(bzF_zero.1 h1).1, (bzF_zero.1 q).1⟩
    · rename_i h1
      exact absurd q h1)
  obtain ⟨F1, hF1⟩ : ∃ F1, F1 = f1F l m := ⟨_, rfl⟩
  rw [← hF1] at JI F0 ⊢
  obtain ⟨Z, hZ⟩ : ∃ Z, Z = decide (F1 = 0 ∧ 200 < l.length + m.length) := ⟨_, rfl⟩
  have HZ := Lib.hid hZ
  have HJI := Lib.hid JI
  clear hF1 hZ JI
  go_upto_region 18 with fail
  go_cut [90] from 81 to 90 (fun s wx => s = .bool Z ∧ wx = w9)
  case first =>
    rcases h0 : (F1 == 0) with _ | _
    · have Z0 : Hid (Z = false) := Lib.hid (by rw [HZ.out]; exact decide_eq_false (fun q => by simp [q.1] at h0))
      go_wp2
      go_meet
      case rel => exact ⟨by rw [Z0.out], rfl⟩
    · obtain ⟨g1, g2⟩ := F0.out (by simpa using h0)
      by_cases h3 : 200 < l.length + m.length
      · have Z0 : Hid (Z = true) := Lib.hid (by rw [HZ.out]; exact decide_eq_true ⟨by simpa using h0, h3⟩)
        have h4 : (200 : Int) < (l.length : Int) + (m.length : Int) := by omega
        go_wp2
        go_meet
        case rel => exact ⟨by rw [Z0.out], rfl⟩
      · have Z0 : Hid (Z = false) := Lib.hid (by rw [HZ.out]; exact decide_eq_false (fun q => h3 q.2))
        have h4 : ¬ (200 : Int) < (l.length : Int) + (m.length : Int) := by omega
        go_wp2
        go_meet
        case rel => exact ⟨by rw [Z0.out], rfl⟩
  case rest =>
  obtain ⟨rfl, hw⟩ := hcut
  replace hw := hw.symm
  subst hw
  obtain ⟨J, hJ⟩ : ∃ J, J = joF l m := ⟨_, rfl⟩
  have HJ := Lib.hid hJ
  clear hJ F0
  go_upto_if 90 with fail
  go_cut [21] from 90 to 90 (fun s wx => s = .int .i64 J ∧ wx = w9)
  case first =>
    have HZ2 := HZ.out
    rcases Z with _ | _
    · have Z0 : Hid (J = F1) := Lib.hid (by rw [HJ.out, HJI.out, if_neg (of_decide_eq_false HZ2.symm)])
      clear HZ2
      go_wp2
      go_meet
      case rel => exact ⟨by rw [Z0.out], rfl⟩
    · have Z0 : Hid (J = 4) := Lib.hid (by rw [HJ.out, HJI.out, if_pos (of_decide_eq_true HZ2.symm)])
      clear HZ2
      go_wp2
      go_meet
      case rel => exact ⟨by rw [Z0.out], rfl⟩
  case rest =>
  obtain ⟨rfl, hw⟩ := hcut
  replace hw := hw.symm
  subst hw
  clear HZ HJI
  go_upto_if 92 with fail
  go_cut [12, 22] from 91 to 100 (fun s _ wx => Rb wx s (joL l m) ∧ Below w.heap.size w wx)
  case first =>
    rcases h0 : (J == 0) with _ | _
    · have JL : Hid (joL l m = []) := Lib.hid (by unfold joL; rw [← HJ.out, if_neg (by simpa using h0)])
      go_wp2
      go_meet
      case rel => exact ⟨by rw [JL.out]; exact rb_nil _, B9.out⟩
    · have jz : joF l m = 0 := by rw [← HJ.out]; simpa using h0
      have JL : Hid (joL l m = nrm (l ++ m)) := Lib.hid (by unfold joL; rw [if_pos jz])
      obtain ⟨_, _, j3, j4, j5⟩ := joF_both jz
      obtain ⟨v6, w10, ap, o6, b6⟩ := appB_any (w := w9) (n0 := w9.heap.size) (l := []) (World.ownsRow_nil _ _ _ _) (HV.out _ B9.out) (Nat.le_refl _) (by simp; omega)
      rw [List.nil_append] at o6
      have AP := Lib.hid ap
      have B10 := Lib.hid (B9.out.trans (b6.mono B9.out.size))
      obtain ⟨v7, w11, ap2, o7, b7⟩ := appB_any (w := w10) (n0 := w9.heap.size) (l := l) o6 (HU.out _ B10.out) b6.size (by omega)
      have AP2 := Lib.hid ap2
      have B11 := Lib.hid (B9.out.trans ((b6.trans b7).mono B9.out.size))
      have K := Lib.hid (rNorm_any (l ++ m) v7 w11 o7.rb (by rw [List.length_append]; omega) (gd_rt j3))
      clear ap ap2 o6 o7 b6 b7 j3 jz
      go_upto_region 24 with (at_builtin; refine wpl_app rfl _ _ 22 rfl _ _ _ _ rfl rfl AP.out ?_)
      go_wp2_with (at_builtin; refine wpl_app rfl _ _ 22 rfl _ _ _ _ rfl rfl AP2.out ?_)
      refine K.out.mono ?_
      rintro e w12 ⟨x, rfl, ho, hb⟩
      have R2 : Hid (Rb w12 x (joL l m)) := Lib.hid (by rw [JL.out]; exact ho.rb)
      have B12 := Lib.hid (B11.out.trans (hb.mono B11.out.size))
      clear ho hb K AP AP2
      go_wp2
      go_meet
      case rel => exact ⟨R2.out, B12.out⟩
  case rest =>
  obtain ⟨hR1, hB1⟩ := hcut
  obtain ⟨w10, rfl⟩ : ∃ w10, w10 = wc := ⟨_, rfl⟩
  have R10 := Lib.hid hR1
  have B10 := Lib.hid hB1
  obtain ⟨x, rfl⟩ : ∃ x, x = u12 := ⟨_, rfl⟩
  clear hR1 hB1 B9
  have JLL := Lib.hid (joL_len l m)
  have K := Lib.hid (joi_any srtH l m _ _ w10 (HV.out _ B10.out) (HU.out _ B10.out) hl hm)
  rw [← HJ.out] at K
  generalize joL l m = JL at R10 JLL K
  clear HJ
  go_wp2_with fail
  refine K.out.mono ?_
  rintro e w11 ⟨u11, rfl, ho, hb⟩
  have B11 := Lib.hid (B10.out.trans (hb.mono B10.out.size))
  have R11 := Lib.hid (R10.out.on hb)
  have G11 := Lib.hid ho.rb
  clear hb ho K R10 B10
  go_wp2_with fail
  refine (errT_fault J w11 (HG.out _ B11.out)).mono ?_
  rintro e w12 ⟨rfl, hb⟩
  have B12 := Lib.hid (B11.out.trans (hb.mono B11.out.size))
  have K := Lib.hid (rSame_any JL u11 x w12 (G11.out.on hb) (R11.out.on hb) (Nat.le_trans JLL.out (by decide)))
  clear hb R11 G11 B11 JLL
  go_wp2_with fail
  refine K.out.mono ?_
  rintro e w13 ⟨rfl, hb⟩
  have B13 := Lib.hid (B12.out.trans (hb.mono B12.out.size))
  clear hb K B12
  go_upto_region 31 with (go_at_call 11; refine (rTime_any _ _).mono ?_; rintro e w' ⟨rfl, hw⟩; replace hw := hw.symm; subst hw)
  obtain ⟨E2, hE2⟩ : ∃ E2, E2 = frF l fr t := ⟨_, rfl⟩
  have DE : Hid (E2 = if E = 0 then (if ist fr = false ∨ ist t = false then 1 else if t < fr then 3 else 0) else E) := Lib.hid (by rw [hE2, HE.out]; rfl)
  have HE2 := Lib.hid hE2
  obtain ⟨Z1, hZ1⟩ : ∃ Z1, Z1 = decide (E = 0 ∧ (ist fr = false ∨ ist t = false)) := ⟨_, rfl⟩
  have HZ := Lib.hid hZ1
  obtain ⟨p1, hp1⟩ : ∃ p1, p1 = ist fr := ⟨_, rfl⟩
  obtain ⟨p2, hp2⟩ : ∃ p2, p2 = ist t := ⟨_, rfl⟩
  rw [← hp1, ← hp2] at HZ DE ⊢
  clear hE2 hZ1 hp1 hp2
  go_cut [126] from 117 to 126 (fun s wx => s = .bool Z1 ∧ wx = w13)
  case first =>
    rcases h0 : (E == 0) with _ | _
    · have Z0 : Hid (Z1 = false) := Lib.hid (by rw [HZ.out]; exact decide_eq_false (fun q => by simp [q.1] at h0))
      go_wp2
      go_meet
      case rel => exact ⟨by rw [Z0.out], rfl⟩
    · have e0 : E = 0 := by simpa using h0
      rcases p1 with _ | _
      · have Z0 : Hid (Z1 = true) := Lib.hid (by rw [HZ.out]; exact decide_eq_true ⟨e0, Or.inl rfl⟩)
        clear e0
        go_wp2
        go_meet
        case rel => exact ⟨by rw [Z0.out], rfl⟩
      · have Z0 : Hid (Z1 = !p2) := Lib.hid (by rw [HZ.out, e0]; cases p2 <;> rfl)
        clear e0
        go_wp2
        go_meet
        case rel => exact ⟨by rw [Z0.out], rfl⟩
  case rest =>
  obtain ⟨rfl, hw⟩ := hcut
  replace hw := hw.symm
  subst hw
  go_upto_if 126 with fail
  go_cut [11] from 126 to 133 (fun s wx => s = .int .i64 E2 ∧ wx = w13)
  case first =>
    have HZ2 := HZ.out
    rcases Z1 with _ | _
    · have HZ3 := Lib.hid (of_decide_eq_false HZ2.symm)
      clear HZ2
      rcases h0 : (E == 0) with _ | _
      · have Z0 : Hid (E2 = E) := Lib.hid (by rw [DE.out, if_neg (by simpa using h0)])
        go_wp2
        go_meet
        case rel => exact ⟨by rw [Z0.out], rfl⟩
      · have e0 : E = 0 := by simpa using h0
        by_cases q : t < fr
        · have Z0 : Hid (E2 = 3) := Lib.hid (by rw [DE.out, if_pos e0, if_neg (fun r => HZ3.out ⟨e0, r⟩), if_pos q])
          clear e0
          go_wp2
          go_meet
          case rel => exact ⟨by rw [Z0.out], rfl⟩
        · have Z0 : Hid (E2 = E) := Lib.hid (by rw [DE.out, if_pos e0, if_neg (fun r => HZ3.out ⟨e0, r⟩), if_neg q, e0])
          clear e0
          go_wp2
          go_meet
          case rel => exact ⟨by rw [Z0.out], rfl⟩
    · have HZ3 := of_decide_eq_true HZ2.symm
      have Z0 : Hid (E2 = 1) := Lib.hid (by rw [DE.out, if_pos HZ3.1, if_pos HZ3.2])
      clear HZ2 HZ3
      go_wp2
      go_meet
      case rel => exact ⟨by rw [Z0.out], rfl⟩
  case rest =>
  obtain ⟨rfl, hw⟩ := hcut
  replace hw := hw.symm
  subst hw
  clear HZ DE HE HNL
  obtain ⟨FG, FLL⟩ := frL_gd l fr t
  have HFG := Lib.hid FG
  have HFE : Hid (E2 = 0 → frL l fr t = fre t fr (nrm l) ∧ l.length ≤ 200 ∧ Rt l) := Lib.hid (fun q => by
    rw [HE2.out] at q
    have e : frL l fr t = fre t fr (nrm l) := by unfold frL; rw [if_pos q]
    unfold frF at q
    split at q
    · rename_i h1
      exact ⟨e, (bzF_zero.1 h1).1, gd_rt (bzF_zero.1 h1).2⟩
    · rename_i h1
      exact absurd q h1)
  have HFN : Hid (¬ E2 = 0 → frL l fr t = []) := Lib.hid (fun q => by unfold frL; rw [← HE2.out, if_neg q])
  have KF : Hid (∀ W, Below w.heap.size w W → Calls Tryd.prog 13 #[.slice av l.length cv, .int .i64 fr, .int .i64 t] W (NmA W (frL l fr t) E2)) := Lib.hid (fun W q => by rw [HE2.out]; exact fre_any srtH l fr t _ W (HV.out _ q) hl)
  have HSF : Hid (sloF l fr t n = (if E2 = 0 then slE n (frL l fr t) else E2) ∧ sloT l fr t n = (if E2 = 0 then slT n (frL l fr t) else 0)) := Lib.hid (by rw [HE2.out]; exact ⟨rfl, rfl⟩)
  have KS : Hid (∀ W, Below w.heap.size w W → Calls Tryd.prog 15 #[.slice av l.length cv, .int .i64 fr, .int .i64 t, .int .i64 n] W (TtA W (sloT l fr t n) (sloF l fr t n))) := Lib.hid (fun W q => slo_any srtH l fr t n _ W (HV.out _ q) hl)
  generalize frL l fr t = FL at HFG FLL HFE HFN KF HSF
  generalize sloF l fr t n = SE at HSF KS
  generalize sloT l fr t n = ST at HSF KS
  clear HE2 FG
  go_upto_if 135 with fail
  go_cut [12] from 134 to 139 (fun s wx => Rb wx s FL ∧ Below w.heap.size w wx)
  case first =>
    rcases h0 : (E2 == 0) with _ | _
    · have NL : Hid (FL = []) := Lib.hid (HFN.out (by simpa using h0))
      go_wp2
      go_meet
      case rel => exact ⟨by rw [NL.out]; exact rb_nil _, B13.out⟩
    · obtain ⟨q1, q2, q3⟩ := HFE.out (by simpa using h0)
      have K := Lib.hid (rFree_any l fr t _ w13 (HV.out _ B13.out) (by omega) q3)
      rw [← q1] at K
      clear q1 q2 q3
      go_wp2_with fail
      refine K.out.mono ?_
      rintro e w14 ⟨y, rfl, ho, hb⟩
      have R2 := Lib.hid ho.rb
      have B14 := Lib.hid (B13.out.trans (hb.mono B13.out.size))
      clear ho hb K
      go_wp2
      go_meet
      case rel => exact ⟨R2.out, B14.out⟩
  case rest =>
  obtain ⟨hR1, hB1⟩ := hcut
  obtain ⟨w14, rfl⟩ : ∃ w14, w14 = wc := ⟨_, rfl⟩
  have R14 := Lib.hid hR1
  have B14 := Lib.hid hB1
  obtain ⟨y, rfl⟩ : ∃ y, y = u12 := ⟨_, rfl⟩
  clear hR1 hB1 B13 HFE HFN
  go_wp2_with fail
  refine (KF.out w14 B14.out).mono ?_
  rintro e w15 ⟨u15, rfl, ho, hb⟩
  have B15 := Lib.hid (B14.out.trans (hb.mono B14.out.size))
  have R15 := Lib.hid (R14.out.on hb)
  have G15 := Lib.hid ho.rb
  clear hb ho KF R14 B14
  go_wp2_with fail
  refine (errT_fault E2 w15 (HG.out _ B15.out)).mono ?_
  rintro e w16 ⟨rfl, hb⟩
  have B16 := Lib.hid (B15.out.trans (hb.mono B15.out.size))
  have R16 := Lib.hid (R15.out.on hb)
  have K := Lib.hid (rSame_any FL u15 y w16 (G15.out.on hb) R16.out (by omega))
  clear hb R15 G15 B15
  go_wp2_with fail
  refine K.out.mono ?_
  rintro e w17 ⟨rfl, hb⟩
  have B17 := Lib.hid (B16.out.trans (hb.mono B16.out.size))
  have R17 := Lib.hid (R16.out.on hb)
  clear hb K B16 R16
  go_upto_if 154 with fail
  go_cut [11, 29] from 153 to 160 (fun s z wx => s = .int .i64 SE ∧ z = .int .i64 ST ∧ Below w.heap.size w wx)
  case first =>
    rcases h0 : (E2 == 0) with _ | _
    · have q : ¬ E2 = 0 := by simpa using h0
      have N1 : Hid (SE = E2 ∧ ST = 0) := Lib.hid ⟨by rw [HSF.out.1, if_neg q], by rw [HSF.out.2, if_neg q]⟩
      clear q
      go_wp2
      go_meet
      case rel => exact ⟨by rw [N1.out.1], by rw [N1.out.2], B17.out⟩
    · have q : E2 = 0 := by simpa using h0
      have N1 : Hid (SE = slE n FL ∧ ST = slT n FL) := Lib.hid ⟨by rw [HSF.out.1, if_pos q], by rw [HSF.out.2, if_pos q]⟩
      have K := Lib.hid (rSlot_any n FL y w17 R17.out (by omega) (fun x hx => gd_sm (HFG.out x hx)))
      rw [← N1.out.1, ← N1.out.2] at K
      clear q
      go_wp2_with fail
      refine K.out.mono ?_
      rintro e w18 ⟨rfl, hb⟩
      have B18 := Lib.hid (B17.out.trans (hb.mono B17.out.size))
      clear hb K
      go_wp2
      go_meet
      case rel => exact ⟨rfl, rfl, B18.out⟩
  case rest =>
  obtain ⟨rfl, rfl, hB1⟩ := hcut
  obtain ⟨w18, rfl⟩ : ∃ w18, w18 = wc := ⟨_, rfl⟩
  have B18 := Lib.hid hB1
  clear hB1 B17 R17 HSF HFG
  go_wp2_with fail
  refine (KS.out w18 B18.out).mono ?_
  rintro e w19 ⟨rfl, hb⟩
  have B19 := Lib.hid (B18.out.trans (hb.mono B18.out.size))
  clear hb KS B18
  go_wp2_with fail
  refine (errT_fault SE w19 (HG.out _ B19.out)).mono ?_
  rintro e w20 ⟨rfl, hb⟩
  have B20 := Lib.hid (B19.out.trans (hb.mono B19.out.size))
  clear hb B19
  go_wp2
  go_ret
  exact ⟨ret_bool (by simp), B20.out⟩
end Go.Proofs.YtiapdldeknijaaaDoor.Bz
