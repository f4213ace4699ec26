/-
  What is proved here: chimelaw2.AlarmTells returns true for every zone, event, two numbers and two rings, where the rule's four lengths together are a number (a contract over the translation; the table of months and errors.errorType are asked as premises).
-/
import Derived.Test.YtoncfgfjdlgfcaaGreatDoorRX
import Derived.Test.YtoncfgfjdlgfcaaGreatDoorRC
import Derived.Test.YtoncfgfjdlgfcaaGreatDoorBL
import Derived.Test.YtoncfgfjdlgfcaaGreatDoorAX
import Derived.Lib.QuietBelow
import Derived.Deep.Cut
import Derived.Deep.CutRange
namespace Go.Proofs.YtoncfgfjdlgfcaaGreatDoor
open Go.RowKit Cal Txt

theorem ordR_below {w w' : World} (h : ∃ q os', w' = Sort.grow (w.drewN q) os') : Below w.heap.size w w' := by
  obtain ⟨q, os, rfl⟩ := h
  exact (blw_drewN _ w q).trans (belowG os (Nat.le_refl _))
theorem dr_ra {a : Int} {l : List (Int × Int)} {e : Evt} {fr t : Int} (h : tcF a l e fr t = 0) : drF a l e fr (t - 1) = raF a l e fr t ∧ drL a l e fr (t - 1) = raL a l e fr t := by
  have q : raF a l e fr t = if 400 < (rgS a l e fr t).length then 4 else 0 := if_neg (fun z => z h)
  unfold drF drL raL
  rw [q, Int.sub_add_cancel]
  by_cases k : 400 < (rgS a l e fr t).length
  · rw [if_pos k, if_pos k, if_neg (by decide)]
    exact ⟨rfl, rfl⟩
  · rw [if_neg k, if_neg k, if_pos rfl]
    exact ⟨rfl, rfl⟩
theorem raL_len (a : Int) (l : List (Int × Int)) (e : Evt) (fr t : Int) : (raL a l e fr t).length ≤ 400 := by
  unfold raL
  split
  · rename_i h
    unfold raF at h
    split at h
    · rename_i q; exact absurd h q
    · split at h
      · cases h
      · omega
  · simp
theorem ring_boxes (W : World) (m n : ByteArray) (x y : Rg) : ∃ V, V = (W.alloc (.cells #[.int .i64 x.1, .string m, .int .i64 x.2.1, .int .i64 x.2.2.1, .int .i64 x.2.2.2] 73)).alloc (.cells #[.int .i64 y.1, .string n, .int .i64 y.2.1, .int .i64 y.2.2.1, .int .i64 y.2.2.2] 73) ∧ Below W.heap.size W V ∧ RBx m V W.heap.size x ∧ RBx n V (W.heap.size + 1) y := by
  refine ⟨_, rfl, ((Below.refl _ _).alloc (Nat.le_refl _) _).alloc (by rw [World.size_alloc]; omega) _, ?_, ?_⟩
  · exact (RBx.new m W x _).on ((Below.refl _ _).alloc (Nat.le_refl _) _)
  · have q := RBx.new n (W.alloc (.cells #[.int .i64 x.1, .string m, .int .i64 x.2.1, .int .i64 x.2.2.1, .int .i64 x.2.2.2] 73)) y 73
    rw [World.size_alloc] at q
    exact q
set_option maxRecDepth 100000 in
set_option maxHeartbeats 16000000 in
theorem atells (a : Int) (l : List (Int × Int)) (v : Value) (e : Evt) (s : Evs) (fr t : Int) (m n : ByteArray) (x y : Rg) (w : World) (hz : ZoneIn w v a l) (hv : EvB w e s) (hs : e.rule.months.length + e.rule.days.length + e.rule.weeks.length + e.rule.pick.length ≤ 9223372036854775807) (hT : Tab w) (hG : ErrTy w) :
    Calls Tryz.prog 5 #[v, .agg (ecells e s), .int .i64 fr, .int .i64 t, .agg #[.int .i64 x.1, .string m, .int .i64 x.2.1, .int .i64 x.2.2.1, .int .i64 x.2.2.2], .agg #[.int .i64 y.1, .string n, .int .i64 y.2.1, .int .i64 y.2.2.1, .int .i64 y.2.2.2]] w fun x w' => x = .returned (.bool true) ∧ Below w.heap.size w w' := by
  have HZ := Lib.hid (fun W (q : Below w.heap.size w W) => hz.on q)
  have HV := Lib.hid (fun W (q : Below w.heap.size w W) => hv.on q)
  have HT := Lib.hid (fun W (q : Below w.heap.size w W) => hT.below q)
  have HG := Lib.hid (fun W (q : Below w.heap.size w W) => hG.below q)
  have HS := Lib.hid hs
  obtain ⟨sa, sc, rfl⟩ := hz.form
  obtain ⟨W0, hW, B0, zz, Z0, R0⟩ := two_boxes w a l sa sc e s
  have HW := Lib.hid hW
  obtain ⟨W9, hW9, B9, RA9, RB9⟩ := ring_boxes W0 m n x y
  rw [zz] at RA9 RB9
  have HW9 := Lib.hid hW9
  have HB := Lib.hid (B0.trans (B9.mono B0.size))
  have HE := Lib.hid (R0.on B9)
  have HX := Lib.hid (Z0.on B9)
  have HR := Lib.hid (And.intro RA9 RB9)
  clear hz hv hT hG hs hW B0 zz Z0 R0 hW9 B9 RA9 RB9
  go_enter Tryz.func5, Tryz.ntmps5
  go_upto_region 1 with fail
  rw [← HW.out, ← HW9.out]
  clear HW HW9
  obtain ⟨z0, z1⟩ := HX.out
  have zl := ecell_in z0
  go_wp2_with (refine ev_load (by rfl) (.tmp 7) (by rfl) (w.heap.size + 1) e s (by rfl) HE.out ?_)
  clear z0 z1 zl
  refine (refReady_any a l _ e s _ (HZ.out _ HB.out) (HV.out _ HB.out) HS.out).mono ?_
  rintro y w1 ⟨rfl, hb⟩
  have B1 := Lib.hid (HB.out.trans (hb.mono HB.out.size))
  have E1 := Lib.hid (HE.out.on hb)
  have X1 := Lib.hid (HX.out.on hb)
  have R1 := Lib.hid (And.intro (HR.out.1.on hb) (HR.out.2.on hb))
  clear hb HB HE HX HS HR
  obtain ⟨F, hF⟩ : ∃ F, F = ezF a l e := ⟨_, rfl⟩
  rw [← hF]
  have HF := Lib.hid hF
  clear hF
  go_upto_if 23 with fail
  go_cut [13] from 19 to 65 (fun sc wx => sc = .int .i64 (tcF a l e fr t) ∧ wx = w1)
  case first =>
    rcases h0 : (F == 0) with _ | _
    · have EV : Hid (tcF a l e fr t = F) := Lib.hid (by rw [HF.out]; exact if_pos (by rw [← HF.out]; simpa using h0))
      go_wp2
      go_meet
      case rel => exact ⟨by rw [EV.out], rfl⟩
    · have EV : Hid (tcF a l e fr t = seF fr t) := Lib.hid (by
        unfold tcF seF
        rw [if_neg (fun z => z (by rw [← HF.out]; simpa using h0))]
        rcases strB fr t with _ | _ <;> rfl)
      go_wp2_with (go_at_call 25; refine (refStretch_any _ _ _).mono ?_; rintro y wz ⟨rfl, hw⟩; replace hw := hw.symm; subst hw)
      go_meet
      case rel => exact ⟨by rw [EV.out], rfl⟩
  case rest =>
  obtain ⟨rfl, hw⟩ := hcut
  subst hw
  obtain ⟨GG, hGG⟩ : ∃ GG, GG = tcF a l e fr t := ⟨_, rfl⟩
  rw [← hGG]
  have HGG := Lib.hid hGG
  clear hGG HF
  go_upto_if 28 with fail
  go_cut [13, 14] from 19 to 65 (fun s13 s14 wx => s13 = .int .i64 (raF a l e fr t) ∧ RowK (encR e.name) wx s14 (raL a l e fr t) ∧ Below w.heap.size w wx ∧ ZBx wx w.heap.size a (.slice sa l.length sc) ∧ EBox wx (w.heap.size + 1) e s ∧ RBx m wx (w.heap.size + 2) x ∧ RBx n wx (w.heap.size + 2 + 1) y)
  case first =>
    rcases h0 : (GG == 0) with _ | _
    · have EV := Lib.hid (ra_bad (a := a) (l := l) (e := e) (fr := fr) (t := t) (by rw [← HGG.out]; simpa using h0))
      rw [← HGG.out] at EV
      go_wp2
      go_meet
      case rel => exact ⟨by rw [EV.out.1], by rw [EV.out.2]; exact RowK.nil _ _, B1.out, X1.out, E1.out, R1.out.1, R1.out.2⟩
    · have hz0 : tcF a l e fr t = 0 := by rw [← HGG.out]; simpa using h0
      have q1 := tc_good hz0
      have q2 := strB_ends q1.2
      have q3 := ez_good q1.1
      have K := refRings_any a l _ e s fr (t - 1) _ (HZ.out _ B1.out) q3.2 (HV.out _ B1.out) q3.1 (by omega) (by omega) (by omega) (by omega)
      unfold DrA at K
      rw [(dr_ra hz0).1, (dr_ra hz0).2] at K
      have HK := Lib.hid K
      have t1 : 1 ≤ t := by omega
      have t2 : t ≤ 157785120 := by omega
      clear hz0 q1 q2 q3 K
      obtain ⟨z0, z1⟩ := X1.out
      have zl := ecell_in z0
      go_wp2_with (refine ev_load (by rfl) (.tmp 7) (by rfl) (w.heap.size + 1) e s (by rfl) E1.out ?_)
      clear z0 z1 zl
      refine HK.out.mono ?_
      rintro z wq ⟨u, rfl, hx, hb⟩
      have BQ := Lib.hid (B1.out.trans (hb.mono B1.out.size))
      have EQ := Lib.hid (E1.out.on hb)
      have XQ := Lib.hid (X1.out.on hb)
      have RQ := Lib.hid (And.intro (R1.out.1.on hb) (R1.out.2.on hb))
      have IQ := Lib.hid hx
      clear hb HK hx
      go_wp2
      go_meet
      case rel => exact ⟨rfl, IQ.out, BQ.out, XQ.out, EQ.out, RQ.out.1, RQ.out.2⟩
  case rest =>
  obtain ⟨rfl, ht2, hb2, hx2, he2, hr2⟩ := hcut
  obtain ⟨w2, hw2⟩ := wnm5 hb2
  subst hw2
  have B2 := Lib.hid hb2
  have X2 := Lib.hid hx2
  have E2 := Lib.hid he2
  have T2 := Lib.hid ht2
  have R2 := Lib.hid hr2
  obtain ⟨wa, wc2, ew, _⟩ := rowK_at ht2
  subst ew
  clear hb2 hx2 he2 hr2 ht2 B1 X1 E1 R1 HGG
  obtain ⟨z0, z1⟩ := X2.out
  have zl := ecell_in z0
  go_wp2_with (refine ev_load (by rfl) (.tmp 7) (by rfl) (w.heap.size + 1) e s (by rfl) E2.out ?_)
  clear z0 z1 zl
  refine (rings_any a l _ e s fr t _ (HZ.out _ B2.out) (HV.out _ B2.out) (HT.out _ B2.out)).mono ?_
  rintro z w3 ⟨u3, rfl, hb, ow⟩
  have B3 := Lib.hid (B2.out.trans (hb.mono B2.out.size))
  have R3 := Lib.hid (And.intro (R2.out.1.on hb) (R2.out.2.on hb))
  have rk := own_rowK (enc := encR e.name) (k := 5) (fun _ => rfl) (by decide) ow
  have T3 := Lib.hid (And.intro rk (T2.out.on hb))
  have LL := Lib.hid (raL_len a l e fr t)
  obtain ⟨ga, gc, eg, _⟩ := rowK_at rk
  subst eg
  clear hb B2 E2 X2 T2 R2 ow rk
  generalize raF a l e fr t = H
  generalize raL a l e fr t = L at T3 LL ⊢
  go_wp2_with fail
  refine (errT_fault H _ (HG.out _ B3.out)).mono ?_
  rintro z w4 ⟨rfl, hb⟩
  have B4 := Lib.hid (B3.out.trans (hb.mono B3.out.size))
  have R4 := Lib.hid (And.intro (R3.out.1.on hb) (R3.out.2.on hb))
  have T4 := Lib.hid (And.intro (T3.out.1.on hb) (T3.out.2.on hb))
  clear hb B3 R3 T3
  go_wp2_with fail
  refine (sameRings e.name L _ _ _ T4.out.1 T4.out.2 (by have := LL.out; omega)).mono ?_
  rintro z w5 ⟨rfl, hb⟩
  have B5 := Lib.hid (B4.out.trans (hb.mono B4.out.size))
  have R5 := Lib.hid (And.intro (R4.out.1.on hb) (R4.out.2.on hb))
  clear hb B4 R4 T4 LL
  go_upto_region 10 with fail
  have KO := Lib.hid (fun W (_ : Below w5.heap.size w5 W) => (order_any m n x y W).mono (fun y w' ⟨h1, h2⟩ => And.intro h1 (ordR_below h2)))
  have KR := Lib.hid (fun W (_ : Below w5.heap.size w5 W) => (refOrder_any m n x y W))
  generalize cmR m n x y = CV at KO KR
  obtain ⟨x1, x2, x3, x4⟩ := x
  obtain ⟨y1, y2, y3, y4⟩ := y
  obtain ⟨⟨a0, a1, a2, a3, a4⟩, b0, b1, b2, b3, b4⟩ := R5.out
  dsimp only at a0 a1 a2 a3 a4 b0 b1 b2 b3 b4 KO KR ⊢
  have n0 := cell_regrown a0
  have n1 := cell_regrown a1
  have n2 := cell_regrown a2
  have n3 := cell_regrown a3
  have n4 := cell_regrown a4
  have n5 := cell_regrown b0
  have n6 := cell_regrown b1
  have n7 := cell_regrown b2
  have n8 := cell_regrown b3
  have n9 := cell_regrown b4
  clear a0 a1 a2 a3 a4 b0 b1 b2 b3 b4
  refine wp_region_quiet_below (by kernel_rfl) (by kernel_rfl) ?_
  repeat (go_big_quiet_step (first | (go_at_call 29; exact Calls.regrown_of (KO.out _ (below_regrown w5 _ _))) | (go_at_call 30; exact Calls.regrown_of (KR.out _ (below_regrown w5 _ _)))))
  refine wpQuiet_nil ?_
  intro _ hw'
  obtain ⟨⟨dq, osq⟩, hw''⟩ := hw'
  subst hw''
  have BE := Lib.hid (B5.out.trans ((below_regrown w5 dq osq).mono B5.out.size))
  clear n0 n1 n2 n3 n4 n5 n6 n7 n8 n9 KO KR
  go_wp2
  go_ret
  exact ⟨ret_bool (by simp), BE.out⟩
end Go.Proofs.YtoncfgfjdlgfcaaGreatDoor
