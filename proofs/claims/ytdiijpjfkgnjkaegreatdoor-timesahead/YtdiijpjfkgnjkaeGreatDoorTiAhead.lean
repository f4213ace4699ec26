/-
  What is proved here: the walk of chimelaw4.TimesAhead: it returns true for every event and four numbers, and turns nothing that was there; the table of months is asked as a premise.
-/
import Derived.Test.YtdiijpjfkgnjkaeGreatDoorBZ
import Derived.BigQuiet
namespace Go.Proofs.YtdiijpjfkgnjkaeGreatDoor
open Go.RowKit Cal Txt

theorem nil_ev (w : World) : EvB w (ev1 [97] 5000) nil8 := ⟨nil_int _, nil_int _, nil_nth _, nil_int _, nil_int _, nil_int _, nil_nth _, nil_alm _⟩
/-- Both lists, where both are told. -/
theorem both_told {a m : Int} {e : Evt} {fr t : Int} (m1 : -900 ≤ m) (m2 : m ≤ 900) (f1 : 2000 ≤ fr) (t1 : t ≤ 150000000) (ft : fr ≤ t) (h1 : tbF a [] e fr t = 0) (h2 : tbF (wrap64 (a + m)) [] e (fr - m) (t - m) = 0) :
    tbL (wrap64 (a + m)) [] e (fr - m) (t - m) = (tbL a [] e fr t).map (shT m) ∧ (tbL a [] e fr t).length ≤ 200 ∧ ∀ y ∈ tbL a [] e fr t, (0 ≤ y.2.1 ∧ y.2.1 ≤ 200000000) ∧ 0 ≤ y.2.2 ∧ y.2.2 ≤ 200000000 := by
  obtain ⟨⟨e1, z1⟩, s1, l1, n1⟩ := tb_good h1
  have ab := zf_nil z1
  have ew : wrap64 (a + m) = a + m := by unfold wrap64; omega
  rw [ew] at h2 ⊢
  obtain ⟨⟨_, z2⟩, _, l2, _⟩ := tb_good h2
  refine ⟨by rw [l1, l2]; exact ahead_list e1 z1 z2 m1 m2 f1 t1 ft, by rw [l1]; exact n1, fun y hy => ?_⟩
  rw [l1] at hy
  obtain ⟨_, ⟨r, _, ht⟩, q1, q2⟩ := (tmL_mem e1 z1 (str_ok s1)).1 hy
  obtain ⟨_, _, t3, t4⟩ := tim_some ht
  have lb := (evF_lens e1).2.2.2.2.2
  omega
theorem sh_getD (m : Int) (l : List Tm) (k : Nat) (h : k < l.length) : (l.map (shT m)).getD k (0, 0, 0) = shT m (l.getD k (0, 0, 0)) := by
  rw [List.getD_eq_getElem?_getD, List.getD_eq_getElem?_getD, List.getElem?_map, List.getElem?_eq_getElem h]; rfl
theorem tm_in {l : List Tm} {k : Nat} (h : k < l.length) : l.getD k (0, 0, 0) ∈ l := by rw [List.getD_eq_getElem?_getD, List.getElem?_eq_getElem h]; exact List.getElem_mem h
set_option maxRecDepth 100000 in
set_option maxHeartbeats 8000000 in
theorem tahead (e : Evt) (s : Evs) (a m fr t : Int) (w : World) (hv : EvB w e s) (hT : Tab w) :
    Calls Tryz.prog 6 #[.agg (ecells e s), .int .i64 a, .int .i64 m, .int .i64 fr, .int .i64 t] w fun x w' => x = .returned (.bool true) ∧ Below w.heap.size w w' := by
  have B0 := (Below.refl w.heap.size w).alloc (Nat.le_refl _) (.cells (ecells e s) 29)
  have R0 := EBox.new w e s 29
  have HV := Lib.hid (fun W (q : Below w.heap.size w W) => hv.on q)
  have HT := Lib.hid (fun W (q : Below w.heap.size w W) => hT.below q)
  have sz0 : (w.alloc (.cells (ecells e s) 29)).heap.size = w.heap.size + 1 := World.size_alloc _ _
  have SZ := Lib.hid sz0
  have OC : Hid ((ecells (ev1 [97] 5000) nil8).all (fun x => x.oneCell') = true) := Lib.hid (by simp [Value.oneCell'])
  have HB0 := Lib.hid B0
  have HR0 := Lib.hid R0
  clear hv hT B0 R0 sz0
  go_enter Tryz.func6, Tryz.ntmps6
  go_upto_region 1 with fail
  go_wp2_with (first | (refine ev_store ?h1 (.tmp 11) (.tmp 19) ?h2 (w.heap.size + 1) _ _ ?h3 SZ.out (ev1 [97] 5000) nil8 ?h4 ?h5 ?h6 ?h7; (case h1 => rfl); (case h2 => rfl); (case h3 => rfl); (case h4 => exact OC.out); (case h5 => rfl); (case h6 => rfl); intro W1 r1 b1; have Q1 := Lib.hid (And.intro r1 b1); clear r1 b1) | (refine ev_load ?i1 (.tmp 11) ?i2 (w.heap.size + 1) (ev1 [97] 5000) nil8 ?i3 Q1.out.1.1 ?i4; (case i1 => rfl); (case i2 => rfl); (case i3 => rfl)))
  have B1 := Lib.hid (HB0.out.trans (Q1.out.2.mono HB0.out.size))
  have R1 := Lib.hid (HR0.out.on Q1.out.2)
  clear HB0 HR0 SZ OC Q1
  have K := tnext_any 60 [] _ (ev1 [97] 5000) nil8 100 W1 (zone_nil W1 60) (nil_ev W1) (HT.out _ B1.out)
  rw [evA_told.1, evA_told.2, efault_0] at K
  refine K.mono ?_
  clear K
  rintro x w2 ⟨rfl, hb⟩
  have b2 := B1.out.trans (hb.mono B1.out.size)
  have r2 := R1.out.on hb
  have BA : Below w2.heap.size w2 (w2.alloc (.cells #[.int .i64 5000, .int .i64 4940, .int .i64 4940] 49)) := (Below.refl _ _).alloc (Nat.le_refl _) _
  have B3 := Lib.hid (b2.trans (BA.mono b2.size))
  have R3 := Lib.hid (r2.on BA)
  have c1 : (w2.alloc (.cells #[.int .i64 5000, .int .i64 4940, .int .i64 4940] 49)).cell? ⟨w2.heap.size, 1, none⟩ = some (.int .i64 4940) := by simp
  obtain ⟨W3, hW3⟩ : ∃ W3, W3 = w2.alloc (.cells #[.int .i64 5000, .int .i64 4940, .int .i64 4940] 49) := ⟨_, rfl⟩
  rw [← hW3] at B3 R3 c1
  have HW3 := Lib.hid hW3
  have cl := ecell_in c1
  clear hb b2 r2 BA hW3 B1 R1
  go_upto_region 3 with fail
  rw [← HW3.out]
  clear HW3
  by_cases m1 : m < -900
  · go_wp2
    go_ret
    exact ⟨rfl, B3.out⟩
  by_cases m2 : 900 < m
  · go_wp2
    go_ret
    exact ⟨rfl, B3.out⟩
  by_cases f1 : fr < 2000
  · go_wp2
    go_ret
    exact ⟨rfl, B3.out⟩
  by_cases t1 : 150000000 < t
  · go_wp2
    go_ret
    exact ⟨rfl, B3.out⟩
  by_cases ft : t < fr
  · go_wp2
    go_ret
    exact ⟨rfl, B3.out⟩
  have BT := Lib.hid (fun h1 h2 => both_told (a := a) (m := m) (e := e) (fr := fr) (t := t) (by omega) (by omega) (by omega) (by omega) (by omega) h1 h2)
  have K1 := Lib.hid (tbetween_any a [] _ e s fr t W3 (zone_nil W3 a) (HV.out _ B3.out) (HT.out _ B3.out))
  have KK := Lib.hid (fun W (q : Below w.heap.size w W) => tbetween_any (wrap64 (a + m)) [] _ e s (fr - m) (t - m) W (zone_nil W _) (HV.out _ q) (HT.out _ q))
  generalize tbF a [] e fr t = F1 at BT K1
  generalize tbF (wrap64 (a + m)) [] e (fr - m) (t - m) = F2 at BT KK
  generalize tbL a [] e fr t = L1 at BT K1
  generalize tbL (wrap64 (a + m)) [] e (fr - m) (t - m) = L2 at BT KK
  clear HV HT
  go_wp2_with (refine ev_load ?j1 (.tmp 5) ?j2 w.heap.size e s ?j3 R3.out ?j4; (case j1 => rfl); (case j2 => rfl); (case j3 => rfl))
  clear c1 cl
  refine K1.out.mono ?_
  rintro x w4 ⟨u1, rfl, ht1, hb, _⟩
  have B4 := Lib.hid (B3.out.trans (hb.mono B3.out.size))
  have R4 := Lib.hid (R3.out.on hb)
  have T1 := Lib.hid ht1
  clear hb ht1 K1 B3 R3
  have K2 := Lib.hid (KK.out _ B4.out)
  clear KK
  go_wp2_with (refine ev_load ?k1 (.tmp 5) ?k2 w.heap.size e s ?k3 R4.out ?k4; (case k1 => rfl); (case k2 => rfl); (case k3 => rfl))
  refine K2.out.mono ?_
  rintro x w5 ⟨u2, rfl, ht2, hb, _⟩
  have B5 := Lib.hid (B4.out.trans (hb.mono B4.out.size))
  have T2 := Lib.hid (T1.out.on hb)
  have T3 := Lib.hid ht2
  clear hb ht2 K2 B4 R4 T1
  by_cases q1 : F1 = 0
  case neg =>
    rw [efault_ne q1]
    by_cases q2 : F2 = 0
    · rw [q2, efault_0]
      clear q1 q2 BT T2 T3
      go_wp2
      go_ret
      exact ⟨rfl, B5.out⟩
    · rw [efault_ne q2]
      clear q1 q2 BT T2 T3
      go_wp2
      go_ret
      exact ⟨rfl, B5.out⟩
  by_cases q2 : F2 = 0
  case neg =>
    rw [q1, efault_0, efault_ne q2]
    clear q1 q2 BT T2 T3
    go_wp2
    go_ret
    exact ⟨rfl, B5.out⟩
  obtain ⟨el, ln, yb⟩ := BT.out q1 q2
  rw [q1, q2, efault_0]
  have t2 := T2.out
  have t3 := T3.out
  rw [el] at t3
  obtain ⟨a1, c1, rfl, h1⟩ := t2
  obtain ⟨a2, c2, e2, h2⟩ := t3
  rw [List.length_map] at e2 h2
  subst e2
  have H1 := Lib.hid h1
  have H2 := Lib.hid h2
  have YB := Lib.hid yb
  clear q1 q2 BT T2 T3 el h1 h2 yb
  go_wp2_with fail
  go_loopw [18] (fun iv wr => ∃ k : Nat, k ≤ L1.length ∧ iv = .int .i64 k ∧ Dra w5 wr) (fun iv _ => L1.length - (intOf iv).toNat)
  case atStart => exact ⟨0, Nat.zero_le _, rfl, Dra.refl _⟩
  case round =>
    obtain ⟨k, hk, rfl, hD⟩ := hrel
    have HD := Lib.hid hD
    clear hD
    by_cases hlt : k < L1.length
    · rcases H1.out with hc | ⟨b1, o1, rfl, hh⟩
      · rw [hc] at hlt; simp at hlt
      rcases H2.out with hc | ⟨b2, o2, rfl, gg⟩
      · rw [List.map_eq_nil_iff.1 hc] at hlt; simp at hlt
      obtain ⟨x0, x1, x2⟩ := hh k hlt
      obtain ⟨z0, z1, z2⟩ := gg k hlt
      have yb := YB.out _ (tm_in hlt)
      rw [sh_getD m L1 k hlt] at z0 z1 z2
      generalize L1.getD k (0, 0, 0) = y at x0 x1 x2 z0 z1 z2 yb
      obtain ⟨p, q, r⟩ := y
      replace x0 : wr.cell? ⟨b1, o1 + k * 3, none⟩ = some (.int .i64 p) := (HD.out.cell _).trans x0
      replace x1 : wr.cell? ⟨b1, o1 + k * 3 + 1, none⟩ = some (.int .i64 q) := (HD.out.cell _).trans x1
      replace x2 : wr.cell? ⟨b1, o1 + k * 3 + 2, none⟩ = some (.int .i64 r) := (HD.out.cell _).trans x2
      replace z0 : wr.cell? ⟨b2, o2 + k * 3, none⟩ = some (.int .i64 p) := (HD.out.cell _).trans z0
      replace z1 : wr.cell? ⟨b2, o2 + k * 3 + 1, none⟩ = some (.int .i64 (q - m)) := (HD.out.cell _).trans z1
      replace z2 : wr.cell? ⟨b2, o2 + k * 3 + 2, none⟩ = some (.int .i64 (r - m)) := (HD.out.cell _).trans z2
      replace yb : (0 ≤ q ∧ q ≤ 200000000) ∧ 0 ≤ r ∧ r ≤ 200000000 := yb
      obtain ⟨⟨y1, y2⟩, y3, y4⟩ := yb
      clear hh gg
      go_wp2_with fail
      go_quiet (fail)
      go_wp2
      go_roundw
      case rel => exact ⟨k + 1, by omega, by go_num, HD.out.step _⟩
      case measure => simp [intOf]; omega
    · go_wp2
      go_ret
      exact ⟨rfl, B5.out.trans (HD.out.below _)⟩
end Go.Proofs.YtdiijpjfkgnjkaeGreatDoor
