/-
  What is proved here: chimelaw2.TimesTells returns true for every zone, event and two numbers, where the rule's four lengths together are a number (a contract over the translation; the table of months and errors.errorType are asked as premises).
-/
import Derived.Test.YtoafdacgekmomaeGreatDoorRefTi3
import Derived.Test.YtoafdacgekmomaeGreatDoorRC
import Derived.Test.YtoafdacgekmomaeGreatDoorBL
import Derived.Test.YtoafdacgekmomaeGreatDoorTiApp
import Derived.Deep.Cut
import Derived.Deep.CutRange
namespace Go.Proofs.YtoafdacgekmomaeGreatDoor
open Go.RowKit Cal Txt

/-- What is wrong, with the time looked at. -/
def tiG (a : Int) (l : List (Int × Int)) (e : Evt) (x : Int) : Int := if ¬ ezF a l e = 0 then ezF a l e else if ist x = false then 1 else 0
theorem ttb_bad {a : Int} {l : List (Int × Int)} {e : Evt} {fr t : Int} (h : ¬ tcF a l e fr t = 0) : tbF a l e fr t = tcF a l e fr t ∧ tbL a l e fr t = [] := by
  have q : tbF a l e fr t = tcF a l e fr t := by
    unfold tcF at h ⊢
    unfold tbF
    split
    · rfl
    · rename_i q
      rw [if_neg q] at h
      split
      · rfl
      · rename_i q2; rw [if_neg q2] at h; exact absurd rfl h
  refine ⟨q, ?_⟩
  unfold tbL
  rw [q, if_neg h]
theorem ttb_list {a : Int} {l : List (Int × Int)} {e : Evt} {fr t : Int} (h : tcF a l e fr t = 0) : (200 < (tmL a l e fr t).length → tbF a l e fr t = 4 ∧ tbL a l e fr t = []) ∧ (¬ 200 < (tmL a l e fr t).length → tbF a l e fr t = 0 ∧ tbL a l e fr t = tmL a l e fr t) := by
  obtain ⟨h1, h2⟩ := tc_good h
  have q : tbF a l e fr t = if 200 < (tmL a l e fr t).length then 4 else 0 := by
    unfold tbF
    rw [if_neg (fun z => z h1), if_neg (by rw [h2]; decide)]
  constructor
  · intro k
    rw [if_pos k] at q
    exact ⟨q, by unfold tbL; rw [q, if_neg (by decide)]⟩
  · intro k
    rw [if_neg k] at q
    exact ⟨q, by unfold tbL; rw [q, if_pos rfl]⟩
theorem ttL_len (a : Int) (l : List (Int × Int)) (e : Evt) (fr t : Int) : (tbL a l e fr t).length ≤ 200 := by
  unfold tbL
  split
  · rename_i h
    unfold tbF at h
    split at h
    · rename_i q; exact absurd h q
    · split at h
      · cases h
      · split at h
        · cases h
        · omega
  · simp
theorem tti_good {a : Int} {l : List (Int × Int)} {e : Evt} {x : Int} (h : tiG a l e x = 0) : ezF a l e = 0 ∧ ist x = true := by
  unfold tiG at h
  split at h
  · rename_i q; exact absurd h q
  · rename_i q
    split at h
    · cases h
    · rename_i q2
      exact ⟨Decidable.byContradiction q, by simpa using q2⟩
theorem ttn_bad {a : Int} {l : List (Int × Int)} {e : Evt} {x : Int} (h : ¬ tiG a l e x = 0) : tnF a l e x = tiG a l e x ∧ tnT a l e x = (0, 0, 0) := by
  have q : tnF a l e x = tiG a l e x := by
    unfold tiG at h ⊢
    unfold tnF
    split
    · rfl
    · rename_i q
      rw [if_neg q] at h
      split
      · rfl
      · rename_i q2; rw [if_neg q2] at h; exact absurd rfl h
  refine ⟨q, ?_⟩
  unfold tnT
  rw [q, if_neg h]
theorem ttn_list {a : Int} {l : List (Int × Int)} {e : Evt} {x : Int} (h : tiG a l e x = 0) : ((tnL a l e x).length = 0 → tnF a l e x = 5 ∧ tnT a l e x = (0, 0, 0)) ∧ (¬ (tnL a l e x).length = 0 → tnF a l e x = 0 ∧ tnT a l e x = (tnL a l e x).getD 0 (0, 0, 0)) := by
  obtain ⟨h1, h2⟩ := tti_good h
  have q : tnF a l e x = if (tnL a l e x).length = 0 then 5 else 0 := by
    unfold tnF
    rw [if_neg (fun z => z h1), if_neg (by rw [h2]; decide)]
  constructor
  · intro k
    rw [if_pos k] at q
    exact ⟨q, by unfold tnT; rw [q, if_neg (by decide)]⟩
  · intro k
    rw [if_neg k] at q
    exact ⟨q, by unfold tnT; rw [q, if_pos rfl]⟩
theorem tti_eq (a : Int) (l : List (Int × Int)) (e : Evt) (x : Int) : ((ezF a l e == 0) && !(ist x)) = true → tiG a l e x = 1 := by
  intro h
  obtain ⟨h1, h2⟩ := Bool.and_eq_true_iff.1 h
  unfold tiG
  rw [if_neg (fun z => z (by simpa using h1)), if_pos (by simpa using h2)]
theorem tti_ne (a : Int) (l : List (Int × Int)) (e : Evt) (x : Int) : ((ezF a l e == 0) && !(ist x)) = false → tiG a l e x = ezF a l e := by
  intro h
  unfold tiG
  split
  · rfl
  · rename_i q
    have q' : ezF a l e = 0 := Decidable.byContradiction q
    rw [q'] at h ⊢
    rw [if_neg]
    intro k
    rw [k] at h
    exact absurd h (by decide)
theorem tri_set {W : World} {b : Nat} {x y z : Value} (k0 : W.cell? ⟨b, 0, none⟩ = some x) (k1 : W.cell? ⟨b, 1, none⟩ = some y) (k2 : W.cell? ⟨b, 2, none⟩ = some z) (Y : Tm) : Tri3 (((W.setCell ⟨b, 0, none⟩ (.int .i64 Y.1)).setCell ⟨b, 1, none⟩ (.int .i64 Y.2.1)).setCell ⟨b, 2, none⟩ (.int .i64 Y.2.2)) b Y := by
  refine ⟨?_, ?_, ?_⟩
  · rw [World.cell?_setCell_other _ _ _ _ (by simp), World.cell?_setCell_other _ _ _ _ (by simp)]
    exact World.cell?_setCell_same _ _ _ k0
  · rw [World.cell?_setCell_other _ _ _ _ (by simp)]
    exact World.cell?_setCell_same _ _ _ ((World.cell?_setCell_other _ _ _ _ (by simp)).trans k1)
  · exact World.cell?_setCell_same _ _ _ ((World.cell?_setCell_other _ _ _ _ (by simp)).trans ((World.cell?_setCell_other _ _ _ _ (by simp)).trans k2))
theorem tri_below (W : World) (b : Nat) (x y z : Value) : Below b W (((W.setCell ⟨b, 0, none⟩ x).setCell ⟨b, 1, none⟩ y).setCell ⟨b, 2, none⟩ z) :=
  (((Below.refl b W).setCell (p := ⟨b, 0, none⟩) (Nat.le_refl _) _).setCell (p := ⟨b, 1, none⟩) (Nat.le_refl _) _).setCell (p := ⟨b, 2, none⟩) (Nat.le_refl _) _
theorem ZBx.onb {B : Nat} {W W' : World} {b : Nat} {a : Int} {u : Value} (h : ZBx W b a u) (q : Below B W W') (l : b < B) : ZBx W' b a u := ⟨(q.cell (p := ⟨b, 0, none⟩) l).trans h.1, (q.cell (p := ⟨b, 1, none⟩) l).trans h.2⟩
set_option maxRecDepth 100000 in
set_option maxHeartbeats 16000000 in
theorem ttells (a : Int) (l : List (Int × Int)) (v : Value) (e : Evt) (s : Evs) (fr t : Int) (w : World) (hz : ZoneIn w v a l) (hv : EvB w e s) (hs : e.rule.months.length + e.rule.days.length + e.rule.weeks.length + e.rule.pick.length ≤ 9223372036854775807) (hT : Tab w) (hG : ErrTy w) :
    Calls Tryz.prog 4 #[v, .agg (ecells e s), .int .i64 fr, .int .i64 t] w fun x w' => x = .returned (.bool true) ∧ Below w.heap.size w w' := by
  have HZ := Lib.hid (fun W (q : Below w.heap.size w W) => hz.on q)
  have HV := Lib.hid (fun W (q : Below w.heap.size w W) => hv.on q)
  have HT := Lib.hid (fun W (q : Below w.heap.size w W) => hT.below q)
  have HG := Lib.hid (fun W (q : Below w.heap.size w W) => hG.below q)
  have HS := Lib.hid hs
  obtain ⟨sa, sc, rfl⟩ := hz.form
  obtain ⟨W0, hW, B0, zz, Z0, R0⟩ := two_boxes w a l sa sc e s
  have HW := Lib.hid hW
  have HB := Lib.hid B0
  have HE := Lib.hid R0
  have HX := Lib.hid Z0
  clear hz hv hT hG hs hW B0 zz Z0 R0
  go_enter Tryz.func4, Tryz.ntmps4
  go_upto_region 1 with fail
  rw [← HW.out]
  clear HW
  obtain ⟨z0, z1⟩ := HX.out
  have zl := ecell_in z0
  go_wp2_with (refine ev_load (by rfl) (.tmp 5) (by rfl) (w.heap.size + 1) e s (by rfl) HE.out ?_)
  clear z0 z1 zl
  refine (refReady_any a l _ e s _ (HZ.out _ HB.out) (HV.out _ HB.out) HS.out).mono ?_
  rintro y w1 ⟨rfl, hb⟩
  have B1 := Lib.hid (HB.out.trans (hb.mono HB.out.size))
  have E1 := Lib.hid (HE.out.on hb)
  have X1 := Lib.hid (HX.out.on hb)
  clear hb HB HE HX HS
  obtain ⟨F, hF⟩ : ∃ F, F = ezF a l e := ⟨_, rfl⟩
  rw [← hF]
  have HF := Lib.hid hF
  clear hF
  go_upto_if 26 with fail
  go_cut [10] from 21 to 98 (fun sc wx => sc = .int .i64 (tcF a l e fr t) ∧ wx = w1)
  case first =>
    rcases h0 : (F == 0) with _ | _
    · have EV : Hid (tcF a l e fr t = F) := Lib.hid (by rw [HF.out]; exact if_pos (by rw [← HF.out]; simpa using h0))
      go_wp2
      go_meet
      case rel => exact ⟨by rw [EV.out], rfl⟩
    · have EV : Hid (tcF a l e fr t = seF fr t) := Lib.hid (by
        unfold tcF seF
        rw [if_neg (fun z => z (by rw [← HF.out]; simpa using h0))]
        rcases strB fr t with _ | _ <;> rfl)
      go_wp2_with (go_at_call 12; refine (refStretch_any _ _ _).mono ?_; rintro y wz ⟨rfl, hw⟩; replace hw := hw.symm; subst hw)
      go_meet
      case rel => exact ⟨by rw [EV.out], rfl⟩
  case rest =>
  obtain ⟨rfl, hw⟩ := hcut
  subst hw
  obtain ⟨GG, hGG⟩ : ∃ GG, GG = tcF a l e fr t := ⟨_, rfl⟩
  rw [← hGG]
  have HGG := Lib.hid hGG
  clear hGG
  go_upto_if 31 with fail
  go_cut [10, 11] from 21 to 98 (fun s10 s11 wx => s10 = .int .i64 (tbF a l e fr t) ∧ Tms wx s11 (tbL a l e fr t) ∧ Below w.heap.size w wx ∧ ZBx wx w.heap.size a (.slice sa l.length sc) ∧ EBox wx (w.heap.size + 1) e s)
  case first =>
    rcases h0 : (GG == 0) with _ | _
    · have EV := Lib.hid (ttb_bad (a := a) (l := l) (e := e) (fr := fr) (t := t) (by rw [← HGG.out]; simpa using h0))
      rw [← HGG.out] at EV
      go_wp2
      go_meet
      case rel => exact ⟨by rw [EV.out.1], by rw [EV.out.2]; exact nil_tms _, B1.out, X1.out, E1.out⟩
    · have hz0 : tcF a l e fr t = 0 := by rw [← HGG.out]; simpa using h0
      have q1 := tc_good hz0
      have q2 := strB_ends q1.2
      have q3 := ez_good q1.1
      have DG := Lib.hid (ttb_list hz0)
      have ho : okS fr t := by unfold okS; omega
      have K := refBtw_any a l _ e s fr t _ (HZ.out _ B1.out) q3.2 (HV.out _ B1.out) q3.1 (by omega) (by omega) (by omega) (by omega)
      unfold RbA at K
      rw [tmA_eq q3.1 q3.2 ho] at K
      have HK := Lib.hid K
      clear hz0 q1 q2 q3 ho K
      generalize tmL a l e fr t = X at HK DG
      obtain ⟨z0, z1⟩ := X1.out
      have zl := ecell_in z0
      go_wp2_with (refine ev_load (by rfl) (.tmp 5) (by rfl) (w.heap.size + 1) e s (by rfl) E1.out ?_)
      clear z0 z1 zl
      refine HK.out.mono ?_
      rintro y wq ⟨u, rfl, hx, hb⟩
      have BQ := Lib.hid (B1.out.trans (hb.mono B1.out.size))
      have EQ := Lib.hid (E1.out.on hb)
      have XQ := Lib.hid (X1.out.on hb)
      have IQ := Lib.hid hx
      obtain ⟨ua, uc, rfl, _⟩ := hx
      clear hb HK
      by_cases hq : 200 < (X.length : Int)
      · have EV := Lib.hid (DG.out.1 (by omega))
        clear DG
        generalize X.length = m at hq ⊢
        go_wp2
        go_meet
        case rel => exact ⟨by rw [EV.out.1], by rw [EV.out.2]; exact nil_tms _, BQ.out, XQ.out, EQ.out⟩
      · have EV := Lib.hid (DG.out.2 (by omega))
        have EZ : Hid (GG = 0) := Lib.hid (by simpa using h0)
        clear DG
        go_wp2
        go_meet
        case rel => exact ⟨by rw [EV.out.1, EZ.out], by rw [EV.out.2]; exact IQ.out, BQ.out, XQ.out, EQ.out⟩
  case rest =>
  obtain ⟨rfl, ht2, hb2, hx2, he2⟩ := hcut
  obtain ⟨w2, hw2⟩ := wnm4 hb2
  subst hw2
  have B2 := Lib.hid hb2
  have X2 := Lib.hid hx2
  have E2 := Lib.hid he2
  have T2 := Lib.hid ht2
  obtain ⟨wa, wc2, ew, _⟩ := ht2
  subst ew
  clear hb2 hx2 he2 B1 X1 E1 HGG
  obtain ⟨z0, z1⟩ := X2.out
  have zl := ecell_in z0
  go_wp2_with (refine ev_load (by rfl) (.tmp 5) (by rfl) (w.heap.size + 1) e s (by rfl) E2.out ?_)
  clear z0 z1 zl
  refine (tbetween_any a l _ e s fr t _ (HZ.out _ B2.out) (HV.out _ B2.out) (HT.out _ B2.out)).mono ?_
  rintro y w3 ⟨u3, rfl, ht3, hb, _⟩
  have B3 := Lib.hid (B2.out.trans (hb.mono B2.out.size))
  have E3 := Lib.hid (E2.out.on hb)
  have X3 := Lib.hid (X2.out.on hb)
  have T3 := Lib.hid (And.intro ht3 (T2.out.on hb))
  have LL := Lib.hid (ttL_len a l e fr t)
  obtain ⟨ga, gc, rfl, _⟩ := ht3
  clear hb B2 E2 X2 T2
  generalize tbF a l e fr t = H
  generalize tbL a l e fr t = L at T3 LL ⊢
  go_wp2_with fail
  refine (errT_fault H _ (HG.out _ B3.out)).mono ?_
  rintro y w4 ⟨rfl, hb⟩
  have B4 := Lib.hid (B3.out.trans (hb.mono B3.out.size))
  have E4 := Lib.hid (E3.out.on hb)
  have X4 := Lib.hid (X3.out.on hb)
  have T4 := Lib.hid (And.intro (T3.out.1.on hb) (T3.out.2.on hb))
  clear hb B3 E3 X3 T3
  go_wp2_with fail
  refine (sameTimes L _ _ _ T4.out.1 T4.out.2 (by have := LL.out; omega)).mono ?_
  rintro y w5 ⟨rfl, hb⟩
  have B5 := Lib.hid (B4.out.trans (hb.mono B4.out.size))
  have E5 := Lib.hid (E4.out.on hb)
  have X5 := Lib.hid (X4.out.on hb)
  clear hb B4 E4 X4 T4 LL
  go_wp2_with fail
  refine (refTime_any fr _).mono ?_
  rintro y w6 ⟨rfl, hw⟩
  replace hw := hw.symm
  subst hw
  obtain ⟨dt, hdt⟩ : ∃ dt, dt = ist fr := ⟨_, rfl⟩
  rw [← hdt]
  have HDT := Lib.hid hdt
  clear hdt
  go_upto_region 15 with fail
  go_cut [61] from 21 to 98 (fun sc wx => sc = .bool ((F == 0) && !dt) ∧ wx = w5)
  case first =>
    rcases h0 : (F == 0) with _ | _
    · go_wp2
      go_meet
      case rel => exact ⟨by rw [h0]; rfl, rfl⟩
    · go_wp2
      go_meet
      case rel => exact ⟨by rw [h0]; rfl, rfl⟩
  case rest =>
  obtain ⟨rfl, hw⟩ := hcut
  replace hw := hw.symm
  subst hw
  go_upto_if 61 with fail
  go_cut [9] from 21 to 98 (fun sc wx => sc = .int .i64 (tiG a l e fr) ∧ wx = w5)
  case first =>
    rcases hd : ((F == 0) && !dt) with _ | _
    · have EV : Hid (tiG a l e fr = F) := Lib.hid (by rw [HF.out]; exact tti_ne a l e fr (by rw [← HF.out, ← HDT.out]; exact hd))
      clear hd
      go_wp2
      go_meet
      case rel => exact ⟨by rw [EV.out], rfl⟩
    · have EV : Hid (tiG a l e fr = 1) := Lib.hid (tti_eq a l e fr (by rw [← HF.out, ← HDT.out]; exact hd))
      clear hd
      go_wp2
      go_meet
      case rel => exact ⟨by rw [EV.out], rfl⟩
  case rest =>
  obtain ⟨rfl, hw⟩ := hcut
  replace hw := hw.symm
  subst hw
  obtain ⟨GI, hGI⟩ : ∃ GI, GI = tiG a l e fr := ⟨_, rfl⟩
  rw [← hGI]
  have HGI := Lib.hid hGI
  clear hGI HF
  have b6 : Below w5.heap.size w5 (w5.alloc (.cells #[.int .i64 0, .int .i64 0, .int .i64 0] 49)) := (Below.refl _ _).alloc (Nat.le_refl _) _
  have q6 : Zr3 (w5.alloc (.cells #[.int .i64 0, .int .i64 0, .int .i64 0] 49)) w5.heap.size := by
    refine ⟨⟨?_, ?_, ?_⟩, ?_, ?_, ?_⟩ <;> simp
  have B6 := Lib.hid (B5.out.trans (b6.mono B5.out.size))
  have E6 := Lib.hid (E5.out.on b6)
  have X6 := Lib.hid (X5.out.on b6)
  have Z6 := Lib.hid q6
  have n6 := B5.out.size
  have n7 := ecell_in X5.out.1
  have n8 := E5.out.lt
  clear b6 q6
  go_upto_if 63 with fail
  generalize w5.alloc (.cells #[.int .i64 0, .int .i64 0, .int .i64 0] 49) = w6 at B6 E6 X6 Z6 ⊢
  clear B5 E5 X5
  go_cut [9, 18] from 21 to 98 (fun s9 s18 wx => s9 = .int .i64 (tnF a l e fr) ∧ Tri3 wx w5.heap.size (tnT a l e fr) ∧ Below w.heap.size w wx ∧ ZBx wx w.heap.size a (.slice sa l.length sc) ∧ EBox wx (w.heap.size + 1) e s)
  case first =>
    rcases h0 : (GI == 0) with _ | _
    · have EV := Lib.hid (ttn_bad (a := a) (l := l) (e := e) (x := fr) (by rw [← HGI.out]; simpa using h0))
      rw [← HGI.out] at EV
      go_wp2
      go_meet
      case rel => exact ⟨by rw [EV.out.1], by rw [EV.out.2]; exact Z6.out.1, B6.out, X6.out, E6.out⟩
    · have hz0 : tiG a l e fr = 0 := by rw [← HGI.out]; simpa using h0
      have q1 := tti_good hz0
      have q3 := ez_good q1.1
      have DG := Lib.hid (ttn_list hz0)
      have ho := ist_ok q1.2
      have q4 := of_decide_eq_true q1.2
      have K := refBtw_any a l _ e s (fr + 1) (fr + 500001) _ (HZ.out _ B6.out) q3.2 (HV.out _ B6.out) q3.1 (by omega) (by omega) (by omega) (by omega)
      unfold RbA at K
      rw [tmA_eq q3.1 q3.2 ho, show tmL a l e (fr + 1) (fr + 500001) = tnL a l e fr from rfl] at K
      have HK := Lib.hid K
      have f1 : 1 ≤ fr := q4.1
      have f2 : fr ≤ 157785119 := q4.2
      clear hz0 q1 q3 ho K q4
      generalize tnL a l e fr = X at HK DG
      obtain ⟨z0, z1⟩ := X6.out
      have zl := ecell_in z0
      go_wp2_with (refine ev_load (by rfl) (.tmp 5) (by rfl) (w.heap.size + 1) e s (by rfl) E6.out ?_)
      clear z0 z1 zl
      refine HK.out.mono ?_
      rintro y wq ⟨u, rfl, hx, hb⟩
      have BQ := Lib.hid (B6.out.trans (hb.mono B6.out.size))
      have EQ := Lib.hid (E6.out.on hb)
      have XQ := Lib.hid (X6.out.on hb)
      have ZQ := Lib.hid (Z6.out.on hb)
      obtain ⟨ua, uc, rfl, hc⟩ := hx
      clear hb HK
      by_cases hq : X.length = 0
      · have EV := Lib.hid (DG.out.1 hq)
        have hX : X = [] := List.eq_nil_of_length_eq_zero hq
        subst hX
        clear DG hc hq
        go_wp2
        go_meet
        case rel => exact ⟨by rw [EV.out.1], by rw [EV.out.2]; exact ZQ.out.1, BQ.out, XQ.out, EQ.out⟩
      · have EV := Lib.hid (DG.out.2 hq)
        have EZ : Hid (GI = 0) := Lib.hid (by simpa using h0)
        rcases hc with hc | ⟨b, off, rfl, hc⟩
        · rw [hc] at hq; simp at hq
        obtain ⟨y0, y1, y2⟩ := hc 0 (by omega)
        rw [Nat.zero_mul, Nat.add_zero] at y0 y1 y2
        obtain ⟨Y, hY⟩ : ∃ Y, Y = X.getD 0 (0, 0, 0) := ⟨_, rfl⟩
        rw [← hY] at y0 y1 y2 EV
        have yl := ecell_in y0
        obtain ⟨⟨k0, k1, k2⟩, q0, q1, q2⟩ := ZQ.out
        have kl := ecell_in k0
        have hne : ¬ X = [] := fun z => hq (by rw [z]; rfl)
        have hpos : (0 : Int) < (X.length : Int) := by omega
        have hqz : ((X.length : Int) == 0) = false := by rw [beq_eq_false_iff_ne]; omega
        have TS := Lib.hid (tri_set k0 k1 k2 Y)
        have TB := Lib.hid (tri_below wq w5.heap.size (.int .i64 Y.1) (.int .i64 Y.2.1) (.int .i64 Y.2.2))
        clear DG hc hY hq
        go_wp2
        go_meet
        case rel =>
          refine ⟨by rw [EV.out.1, EZ.out], ?_, ?_⟩
          · rw [EV.out.2]
            exact TS.out
          · exact ⟨BQ.out.trans (TB.out.mono n6), XQ.out.onb TB.out n7, EQ.out.onb TB.out n8⟩
  case rest =>
  obtain ⟨rfl, hr7, hb7, hx7, he7⟩ := hcut
  obtain ⟨w7, hw7⟩ := wnm4 hb7
  subst hw7
  have B7 := Lib.hid hb7
  have X7 := Lib.hid hx7
  have E7 := Lib.hid he7
  have R7 := Lib.hid hr7
  clear hb7 hx7 he7 hr7 B6 X6 E6 Z6 HGI
  have K := tnext_any a l _ e s fr w7 (HZ.out _ B7.out) (HV.out _ B7.out) (HT.out _ B7.out)
  have HK := Lib.hid K
  clear K
  generalize tnF a l e fr = NF at HK ⊢
  generalize tnT a l e fr = NT at HK R7 ⊢
  obtain ⟨N1, N2, N3⟩ := NT
  dsimp only at HK
  obtain ⟨z0, z1⟩ := X7.out
  have zl := ecell_in z0
  go_wp2_with (refine ev_load (by rfl) (.tmp 5) (by rfl) (w.heap.size + 1) e s (by rfl) E7.out ?_)
  clear z0 z1 zl
  refine HK.out.mono ?_
  rintro y w8 ⟨rfl, hb⟩
  have B8 := Lib.hid (B7.out.trans (hb.mono B7.out.size))
  have R8 := Lib.hid (show Tri3 w8 w5.heap.size (N1, N2, N3) from ⟨(hb.cell (p := ⟨w5.heap.size, 0, none⟩) (ecell_in R7.out.1)).trans R7.out.1, (hb.cell (p := ⟨w5.heap.size, 1, none⟩) (ecell_in R7.out.1)).trans R7.out.2.1, (hb.cell (p := ⟨w5.heap.size, 2, none⟩) (ecell_in R7.out.1)).trans R7.out.2.2⟩)
  clear hb HK B7 X7 E7 R7 n7 n8
  obtain ⟨W9, hW9⟩ : ∃ W9, W9 = w8.alloc (.cells #[.int .i64 N1, .int .i64 N2, .int .i64 N3] 49) := ⟨_, rfl⟩
  have b9 : Below w8.heap.size w8 W9 := by rw [hW9]; exact (Below.refl _ _).alloc (Nat.le_refl _) _
  have B9 := Lib.hid (B8.out.trans (b9.mono B8.out.size))
  have R9 := Lib.hid (show Tri3 W9 w5.heap.size (N1, N2, N3) from ⟨(b9.cell (p := ⟨w5.heap.size, 0, none⟩) (ecell_in R8.out.1)).trans R8.out.1, (b9.cell (p := ⟨w5.heap.size, 1, none⟩) (ecell_in R8.out.1)).trans R8.out.2.1, (b9.cell (p := ⟨w5.heap.size, 2, none⟩) (ecell_in R8.out.1)).trans R8.out.2.2⟩)
  have S9 := Lib.hid (show Tri3 W9 w8.heap.size (N1, N2, N3) by rw [hW9]; refine ⟨?_, ?_, ?_⟩ <;> simp)
  have HW9 := Lib.hid hW9
  clear hW9 b9
  go_wp2_with fail
  rw [← HW9.out]
  clear HW9
  refine (errT_fault NF _ (HG.out _ B9.out)).mono ?_
  rintro y wE ⟨rfl, hb⟩
  have BE := Lib.hid (B9.out.trans (hb.mono B9.out.size))
  have r0 := (hb.cell (p := ⟨w5.heap.size, 0, none⟩) (ecell_in R9.out.1)).trans R9.out.1
  have r1 := (hb.cell (p := ⟨w5.heap.size, 1, none⟩) (ecell_in R9.out.1)).trans R9.out.2.1
  have r2 := (hb.cell (p := ⟨w5.heap.size, 2, none⟩) (ecell_in R9.out.1)).trans R9.out.2.2
  have s0 := (hb.cell (p := ⟨w8.heap.size, 0, none⟩) (ecell_in S9.out.1)).trans S9.out.1
  have s1 := (hb.cell (p := ⟨w8.heap.size, 1, none⟩) (ecell_in S9.out.1)).trans S9.out.2.1
  have s2 := (hb.cell (p := ⟨w8.heap.size, 2, none⟩) (ecell_in S9.out.1)).trans S9.out.2.2
  dsimp only at r0 r1 r2 s0 s1 s2
  have rl := ecell_in r0
  have sl := ecell_in s0
  clear hb B9 R9 S9 R8 B8
  go_wp2
  go_ret
  exact ⟨ret_bool (by simp), BE.out⟩
end Go.Proofs.YtoafdacgekmomaeGreatDoor
