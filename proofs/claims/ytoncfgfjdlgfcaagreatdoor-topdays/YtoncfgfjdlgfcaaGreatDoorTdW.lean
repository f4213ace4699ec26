/-
  What is proved here: the walk of chimetop.TopDays: it returns true for every event and three numbers, and turns nothing that was there; the table of months is asked as a premise.
-/
import Derived.Test.YtoncfgfjdlgfcaaGreatDoorTD
import Derived.Test.YtoncfgfjdlgfcaaGreatDoorPQ
import Derived.Test.YtoncfgfjdlgfcaaGreatDoorTC
import Derived.BigQuiet
namespace Go.Proofs.YtoncfgfjdlgfcaaGreatDoor.Td
open Go.RowKit Cal Txt Pp

/-- An event without what may stand besides its rule. -/
abbrev bare (e : Evt) : Evt := { e with more := [], nots := [], chg := [] }
abbrev bareS (s : Evs) : Evs := { s with vo := .slice none 0 0, vn := .slice none 0 0, vc := .slice none 0 0 }
theorem bare_in {w : World} {e : Evt} {s : Evs} (h : EvB w e s) : EvB w (bare e) (bareS s) := by
  obtain ⟨q1, q2, q3, q4, _, _, _, q8⟩ := h
  exact ⟨q1, q2, q3, q4, nil_int w, nil_int w, nil_nth w, q8⟩
theorem bare_box {W : World} {b : Nat} {e : Evt} {s : Evs} (h : EBox W b e s) : EBox (((W.setCell ⟨b, 13, none⟩ (.slice none 0 0)).setCell ⟨b, 14, none⟩ (.slice none 0 0)).setCell ⟨b, 15, none⟩ (.slice none 0 0)) b (bare e) (bareS s) := by
  have O : ∀ (o p : Nat) (x v : Value) (X : World), o ≠ p → X.cell? ⟨b, p, none⟩ = some v → (X.setCell ⟨b, o, none⟩ x).cell? ⟨b, p, none⟩ = some v := fun o p x v X hne hv => (World.cell?_setCell_other X ⟨b, o, none⟩ ⟨b, p, none⟩ x (fun q => hne (by injection q))).trans hv
  obtain ⟨⟨a0, a1, a2, a3, a4⟩, ⟨b0, b1, b2, b3, b4, b5, b6, b7⟩, c0, c1, c2, c3⟩ := h
  have P : ∀ p v, p ≠ 13 → p ≠ 14 → p ≠ 15 → W.cell? ⟨b, p, none⟩ = some v → (((W.setCell ⟨b, 13, none⟩ (.slice none 0 0)).setCell ⟨b, 14, none⟩ (.slice none 0 0)).setCell ⟨b, 15, none⟩ (.slice none 0 0)).cell? ⟨b, p, none⟩ = some v := fun p v h1 h2 h3 hv => O _ _ _ _ _ (Ne.symm h3) (O _ _ _ _ _ (Ne.symm h2) (O _ _ _ _ _ (Ne.symm h1) hv))
  have s0 := World.cell?_setCell_same W ⟨b, 13, none⟩ (.slice none 0 0) c0
  have t0 := World.cell?_setCell_same (W.setCell ⟨b, 13, none⟩ (.slice none 0 0)) ⟨b, 14, none⟩ (.slice none 0 0) (O 13 14 (.slice none 0 0) _ W (by decide) c1)
  have u0 := World.cell?_setCell_same ((W.setCell ⟨b, 13, none⟩ (.slice none 0 0)).setCell ⟨b, 14, none⟩ (.slice none 0 0)) ⟨b, 15, none⟩ (.slice none 0 0) (O 14 15 (.slice none 0 0) _ _ (by decide) (O 13 15 (.slice none 0 0) _ W (by decide) c2))
  exact ⟨⟨P _ _ (by decide) (by decide) (by decide) a0, P _ _ (by decide) (by decide) (by decide) a1, P _ _ (by decide) (by decide) (by decide) a2, P _ _ (by decide) (by decide) (by decide) a3, P _ _ (by decide) (by decide) (by decide) a4⟩,
    ⟨P _ _ (by decide) (by decide) (by decide) b0, P _ _ (by decide) (by decide) (by decide) b1, P _ _ (by decide) (by decide) (by decide) b2, P _ _ (by decide) (by decide) (by decide) b3, P _ _ (by decide) (by decide) (by decide) b4, P _ _ (by decide) (by decide) (by decide) b5, P _ _ (by decide) (by decide) (by decide) b6, P _ _ (by decide) (by decide) (by decide) b7⟩,
    O 15 13 _ _ _ (by decide) (O 14 13 _ _ _ (by decide) s0), O 15 14 _ _ _ (by decide) t0, u0, P _ _ (by decide) (by decide) (by decide) c3⟩
/-- An event is loaded where a test wants it. -/
theorem ev_loadG {ops : Array Oper} {rest : List Oper} {op : Oper} {a : Act} {w : World} {Q : Exit → Act → World → Prop} (hw : Region.wanted op (yielded ops a.tmps) = true) (x : Operand) (ho : op.op = .load 33 x)
    (b : Nat) (e : Evt) (s : Evs) (hx : a.eval x = .pointer (some ⟨b, 0, none⟩)) (hE : EBox w b e s) (h : wpList Tryz.prog ops Q rest (a.put op.dst (.agg (ecells e s))) w) : wpList Tryz.prog ops Q (op :: rest) a w :=
  wpList_step fun K hK => by
    rw [if_pos hw]
    exact wp_load_mid 33 x ho b 0 hx (ecells e s).toList _ hE.range Tryz.underlying33 rfl (by kernel_rfl) (hK _ _ h)
/-- A zone without shifts, where both are times. -/
theorem zl_none {a t : Int} (ha : Zo.zf a [] = 0) (h1 : 1 ≤ t - a ∧ t - a ≤ 157785119) (h2 : 1 ≤ t ∧ t ≤ 157785119) : zl a [] (t - a) = 0 ∧ t - a + Zo.zah a [] (Zo.beg (t - a) []) = t := by
  have z : Zo.zah a [] (Zo.beg (t - a) []) = a := rfl
  have q : t - a + a = t := by omega
  rw [z, q]
  refine ⟨?_, rfl⟩
  unfold zl zt
  rw [z, q, if_pos ha, if_pos (show Zo.isT (t - a) = true from decide_eq_true h1), if_pos rfl, if_pos (show Zo.isT t = true from decide_eq_true h2)]
set_option maxRecDepth 100000 in
set_option maxHeartbeats 16000000 in
theorem tdays (e : Evt) (s : Evs) (a y m : Int) (w : World) (hv : EvB w e s) (hT : Tab w) :
    Calls Tryz.prog 6 #[.agg (ecells e s), .int .i64 a, .int .i64 y, .int .i64 m] w fun x w' => x = .returned (.bool true) ∧ Below w.heap.size w w' := by
  have B0 := (Below.refl w.heap.size w).alloc (Nat.le_refl _) (.cells (ecells e s) 33)
  have R0 := EBox.new w e s 33
  have F0 : ∀ i, i < 17 → (w.alloc (.cells (ecells e s) 33)).frozen? ⟨w.heap.size, i, none⟩ = false := fun i hi => by have := (there_newC w (ecells e s) 33 i hi).2; rwa [Nat.zero_add] at this
  obtain ⟨W0, hW⟩ : ∃ W0, W0 = w.alloc (.cells (ecells e s) 33) := ⟨_, rfl⟩
  rw [← hW] at B0 R0 F0
  have HW := Lib.hid hW
  have HB := Lib.hid B0
  have HE := Lib.hid R0
  have HF := Lib.hid F0
  have HV := Lib.hid (fun W (q : Below w.heap.size w W) => hv.on q)
  have HT := Lib.hid (fun W (q : Below w.heap.size w W) => hT.below q)
  clear hv hT B0 R0 hW F0
  go_enter Tryz.func6, Tryz.ntmps6
  go_upto_region 1 with fail
  rw [← HW.out]
  clear HW
  go_wp2_with fail
  refine (one_any W0 (HT.out _ HB.out)).mono ?_
  rintro x w1 ⟨rfl, hb⟩
  have L0 := HE.out.lt
  have B1 := Lib.hid (HB.out.trans (hb.mono HB.out.size))
  have b2 := Bz.below_one w1 (.cells #[.int .i64 a, .slice none 0 0] 24)
  have E2 := (HE.out.on hb).on b2
  have f13 := ((hb.trans (b2.mono hb.size)).frozen (p := ⟨w.heap.size, 13, none⟩) L0).trans (HF.out 13 (by decide))
  have f14 := ((hb.trans (b2.mono hb.size)).frozen (p := ⟨w.heap.size, 14, none⟩) L0).trans (HF.out 14 (by decide))
  have f15 := ((hb.trans (b2.mono hb.size)).frozen (p := ⟨w.heap.size, 15, none⟩) L0).trans (HF.out 15 (by decide))
  have Z2 : ZBx (w1.alloc (.cells #[.int .i64 a, .slice none 0 0] 24)) w1.heap.size a (.slice none 0 0) := by constructor <;> simp
  have ne : w1.heap.size ≠ w.heap.size := by have := hb.size; omega
  have XE := Lib.hid (bare_box E2)
  have XZ : Hid (ZBx ((((w1.alloc (.cells #[.int .i64 a, .slice none 0 0] 24)).setCell ⟨w.heap.size, 13, none⟩ (.slice none 0 0)).setCell ⟨w.heap.size, 14, none⟩ (.slice none 0 0)).setCell ⟨w.heap.size, 15, none⟩ (.slice none 0 0)) w1.heap.size a (.slice none 0 0)) := Lib.hid (by
    have P : ∀ o v, (w1.alloc (.cells #[.int .i64 a, .slice none 0 0] 24)).cell? ⟨w1.heap.size, o, none⟩ = some v → ((((w1.alloc (.cells #[.int .i64 a, .slice none 0 0] 24)).setCell ⟨w.heap.size, 13, none⟩ (.slice none 0 0)).setCell ⟨w.heap.size, 14, none⟩ (.slice none 0 0)).setCell ⟨w.heap.size, 15, none⟩ (.slice none 0 0)).cell? ⟨w1.heap.size, o, none⟩ = some v := fun o v h => by
      have Q : ∀ (X : World) (i : Nat) (x : Value), (X.setCell ⟨w.heap.size, i, none⟩ x).cell? ⟨w1.heap.size, o, none⟩ = X.cell? ⟨w1.heap.size, o, none⟩ := fun X i x => World.cell?_setCell_other X ⟨w.heap.size, i, none⟩ ⟨w1.heap.size, o, none⟩ x (fun q => ne (by injection q with q; exact q.symm))
      rw [Q, Q, Q, h]
    exact ⟨P 0 _ Z2.1, P 1 _ Z2.2⟩)
  have XB : Hid (Below w.heap.size w ((((w1.alloc (.cells #[.int .i64 a, .slice none 0 0] 24)).setCell ⟨w.heap.size, 13, none⟩ (.slice none 0 0)).setCell ⟨w.heap.size, 14, none⟩ (.slice none 0 0)).setCell ⟨w.heap.size, 15, none⟩ (.slice none 0 0))) := Lib.hid
    ((((B1.out.trans (b2.mono B1.out.size)).setCell (p := ⟨w.heap.size, 13, none⟩) (Nat.le_refl _) _).setCell (p := ⟨w.heap.size, 14, none⟩) (Nat.le_refl _) _).setCell (p := ⟨w.heap.size, 15, none⟩) (Nat.le_refl _) _)
  obtain ⟨_, _, c13, c14, c15, _⟩ := E2
  have c14' := (World.cell?_setCell_other (w1.alloc (.cells #[.int .i64 a, .slice none 0 0] 24)) ⟨w.heap.size, 13, none⟩ ⟨w.heap.size, 14, none⟩ (.slice none 0 0) (by simp)).trans c14
  have c15' := (World.cell?_setCell_other ((w1.alloc (.cells #[.int .i64 a, .slice none 0 0] 24)).setCell ⟨w.heap.size, 13, none⟩ (.slice none 0 0)) ⟨w.heap.size, 14, none⟩ ⟨w.heap.size, 15, none⟩ (.slice none 0 0) (by simp)).trans ((World.cell?_setCell_other (w1.alloc (.cells #[.int .i64 a, .slice none 0 0] 24)) ⟨w.heap.size, 13, none⟩ ⟨w.heap.size, 15, none⟩ (.slice none 0 0) (by simp)).trans c15)
  have l2 := ecell_in c13
  clear hb HE HF HB ne Z2 b2
  go_upto_region 5 with fail
  generalize w1.alloc (.cells #[.int .i64 a, .slice none 0 0] 24) = W2 at *
  go_upto_region 8 with fail
  generalize ((W2.setCell ⟨w.heap.size, 13, none⟩ (.slice none 0 0)).setCell ⟨w.heap.size, 14, none⟩ (.slice none 0 0)).setCell ⟨w.heap.size, 15, none⟩ (.slice none 0 0) = W3 at XE XZ XB ⊢
  clear c13 c14 c15 c14' c15' f13 f14 f15 l2 L0 B1
  have VB := Lib.hid (fun W (q : Below w.heap.size w W) => bare_in (HV.out W q))
  obtain ⟨z0, z1⟩ := XZ.out
  have zll := ecell_in z0
  by_cases hz : Zo.zf a [] = 0
  case neg =>
    have KZ := zcheck_any a [] (Value.agg #[.int .i64 a, .slice none 0 0]) W3 (zone_nil W3 a)
    rw [zfault_ne hz] at KZ
    have KH := Lib.hid KZ
    clear KZ hz
    go_wp2_with fail
    refine KH.out.mono ?_
    rintro x w4 ⟨rfl, hb⟩
    have B4 := Lib.hid (XB.out.trans (hb.mono XB.out.size))
    clear hb KH z0 z1 zll
    go_wp2_with fail
    go_ret
    exact ⟨rfl, B4.out⟩
  have KZ := zcheck_any a [] (Value.agg #[.int .i64 a, .slice none 0 0]) W3 (zone_nil W3 a)
  rw [hz, efault_0] at KZ
  have KH := Lib.hid KZ
  have HZ0 := Lib.hid hz
  clear KZ hz
  go_wp2_with fail
  refine KH.out.mono ?_
  rintro x w4 ⟨rfl, hb⟩
  have B4 := Lib.hid (XB.out.trans (hb.mono XB.out.size))
  have E4 := Lib.hid (XE.out.on hb)
  have X4 := Lib.hid (XZ.out.on hb)
  clear hb KH z0 z1 zll XE XZ XB HV
  obtain ⟨e2, he2⟩ : ∃ e2, e2 = bare e := ⟨_, rfl⟩
  obtain ⟨s2, hs2⟩ : ∃ s2, s2 = bareS s := ⟨_, rfl⟩
  rw [← he2, ← hs2] at E4 VB
  have P3 : e2.more = [] ∧ e2.nots = [] ∧ e2.chg = [] := by rw [he2]; exact ⟨rfl, rfl, rfl⟩
  clear he2 hs2
  by_cases he : evF e2 = 0
  case neg =>
    have KC := echeck_any e2 s2 w4 (VB.out w4 B4.out)
    rw [efault_ne he] at KC
    have KH := Lib.hid KC
    clear KC he P3
    go_wp2_with (refine ev_loadG (by rfl) (.tmp 4) (by rfl) w.heap.size e2 s2 (by rfl) E4.out ?_)
    refine KH.out.mono ?_
    rintro x w5 ⟨rfl, hb⟩
    have B5 := Lib.hid (B4.out.trans (hb.mono B4.out.size))
    clear hb KH
    go_wp2_with fail
    go_ret
    exact ⟨rfl, B5.out⟩
  have KC := echeck_any e2 s2 w4 (VB.out w4 B4.out)
  rw [he, efault_0] at KC
  have KH := Lib.hid KC
  have HE0 := Lib.hid he
  clear KC he
  go_wp2_with (refine ev_loadG (by rfl) (.tmp 4) (by rfl) w.heap.size e2 s2 (by rfl) E4.out ?_)
  refine KH.out.mono ?_
  rintro x w5 ⟨rfl, hb⟩
  have B5 := Lib.hid (B4.out.trans (hb.mono B4.out.size))
  have E5 := Lib.hid (E4.out.on hb)
  have X5 := Lib.hid (X4.out.on hb)
  clear hb KH E4 X4 B4
  have r4 := E5.out.1.2.2.2.2
  have r4l := ecell_in r4
  rcases hr : e2.rep with _ | _
  · rw [hr] at r4
    clear P3 hr
    go_wp2_with fail
    go_ret
    exact ⟨rfl, B5.out⟩
  rw [hr] at r4
  have PL := Lib.hid (show Plain e2 from ⟨HE0.out, hr, P3.1, P3.2.1, P3.2.2⟩)
  clear P3 hr HE0
  by_cases hm : isMn y m
  case neg =>
    have KO := Lib.hid (of_no y m 1 w5 (HT.out _ B5.out) (fun q => hm ⟨q.1, q.2.1, q.2.2.1, q.2.2.2.1⟩))
    clear hm
    go_wp2_with fail
    refine KO.out.mono ?_
    rintro x w6 ⟨rfl, hb⟩
    have B6 := Lib.hid (B5.out.trans (hb.mono B5.out.size))
    clear hb KO r4 r4l
    go_wp2_with fail
    go_ret
    exact ⟨rfl, B6.out⟩
  have KO := Lib.hid (of_yes y m 1 w5 (HT.out _ B5.out) (mn_one hm))
  have HM := Lib.hid hm
  clear hm
  go_wp2_with fail
  refine KO.out.mono ?_
  rintro x w6 ⟨rfl, hb⟩
  have B6 := Lib.hid (B5.out.trans (hb.mono B5.out.size))
  have E6 := Lib.hid (E5.out.on hb)
  have X6 := Lib.hid (X5.out.on hb)
  have VB2 := VB.out w6 B6.out
  clear hb KO r4 r4l E5 X5 B5 VB2
  by_cases h1 : y < 1901
  · go_wp2_with fail
    go_ret
    exact ⟨rfl, B6.out⟩
  by_cases h2 : 2198 < y
  · go_wp2_with fail
    go_ret
    exact ⟨rfl, B6.out⟩
  have y1 : 1901 ≤ y := by omega
  have y2 : y ≤ 2198 := by omega
  obtain ⟨a1, a2, m1, m2⟩ := id HM.out
  have KD := days_yes y m w6 (HT.out _ B6.out) a1 a2 m1 m2
  have TD := td_told PL.out HM.out y1 y2 HZ0.out
  have TL := td_load PL.out HM.out y1 y2 s2
  have TB := td_days (y := y) (m := m) PL.out
  obtain ⟨f1, f2⟩ := mid_bd HM.out y1 y2
  have mb := ml_bd y m
  have az := zone_in HZ0.out
  have st := (evF_lens PL.out.1).2.2.1
  have sb := of_decide_eq_true st
  have KS := Lib.hid (split_yes e2.start w6 sb.1 sb.2)
  obtain ⟨q, q0, q1, q2, q3, q4⟩ := pl_start PL.out
  have HQ4 := Lib.hid q4
  have SD : Hid (e2.start / 1440 + 1 = dyo e2.start) := Lib.hid (dyo_ok st).1.symm
  have KB := betw_uni e2.rule (rval e2 s2) (dyo e2.start) (num y m 1) (num y m 1 + ml y m - 1) w6 (VB.out w6 B6.out).rule (HT.out _ B6.out) (by omega)
  rw [TB.1, TB.2, efault_0] at KB
  have KT : Hid (∀ W, Below w.heap.size w W → Calls Tryz.prog 8 #[(Value.agg #[.int .i64 a, .slice none 0 0]), .agg (ecells e2 s2), .int .i64 (frD y m a), .int .i64 (toD y m a)] W (TbA W ((dsL e2 (num y m 1) (num y m 1 + ml y m - 1)).map (dTm e2 a)) 0)) := Lib.hid (fun W q => by
    have K := tbetween_any a [] (Value.agg #[.int .i64 a, .slice none 0 0]) e2 s2 (frD y m a) (toD y m a) W (zone_nil W a) (VB.out W q) (HT.out W q)
    rwa [TD.1, TD.2] at K)
  have KL : Hid (∀ W vl, Below w.heap.size w W → Evl W vl [(e2, s2)] → Calls Tryz.prog 22 #[vl, .int .i64 y, .int .i64 m] W (LdA W (ldL y m [(e2, s2)]) 0)) := Lib.hid (fun W vl q hL => by
    have K := load_any [(e2, s2)] y m vl W hL (by simp) (HT.out W q)
    rwa [TL.1] at K)
  have DI := Lib.hid (fun n (hn : n ∈ dsL e2 (num y m 1) (num y m 1 + ml y m - 1)) => (mem_ds.1 hn).2)
  have DLn : (dsL e2 (num y m 1) (num y m 1 + ml y m - 1)).length ≤ 31 := ds_len e2 _ _ 31 (by omega)
  obtain ⟨_, t1, t2, t3, t4⟩ := TL
  obtain ⟨M, hM⟩ : ∃ M : Nat, ml y m = (M : Int) := ⟨(ml y m).toNat, by omega⟩
  have eT : toD y m a = frD y m a + (M : Int) * 1440 := by unfold toD; rw [hM]
  have eF : frD y m a = (num y m 1 - 1) * 1440 - a := rfl
  rw [eT] at KT
  rw [eF] at KT
  rw [hM, Int.toNat_natCast] at t1
  generalize ldL y m [(e2, s2)] = LD at KL t1 t2 t3 t4
  rw [hM] at KB KT KD DI DLn t2 t3 f2 mb
  generalize dsL e2 (num y m 1) (num y m 1 + (M : Int) - 1) = DS at KB KT DI DLn t2 t3
  generalize num y m 1 = F at KB KT DI t3 f1 f2 ⊢
  have HD := Lib.hid KD
  have HKB := Lib.hid KB
  have T2 := Lib.hid t2
  have T3 := Lib.hid t3
  have T4 := Lib.hid t4
  have hq : e2.start % 1440 = q := q3.symm
  have c2 := E6.out.1.2.2.1
  have c2l := ecell_in c2
  obtain ⟨r0, r1, r2, r3, r4, r5, r6, r7⟩ := E6.out.2.1
  clear KD KB t2 t3 t4 TD TB eT eF HM q2 q3 q4 st a1 a2 m1 m2 y1 y2 HT PL
  go_wp2_with (first | (go_at_call 35; refine HD.out.mono ?_; rintro x w' ⟨rfl, hw⟩; replace hw := hw.symm; subst hw) | (go_at_call 36; refine KS.out.mono ?_; rintro x w' ⟨rfl, hw⟩; replace hw := hw.symm; subst hw))
  rw [SD.out]
  refine HKB.out.mono ?_
  rintro x w7 ⟨u7, rfl, hi7, hb⟩
  obtain ⟨da, dc, rfl, hdc⟩ := hi7
  have B7 := Lib.hid (B6.out.trans (hb.mono B6.out.size))
  have E7 := Lib.hid (E6.out.on hb)
  have X7 := Lib.hid (X6.out.on hb)
  have HDC := Lib.hid hdc
  clear hb hdc HKB KS HD SD E6 X6 B6 r0 r1 r2 r3 r4 r5 r6 r7 c2 c2l
  have K7 := Lib.hid (KT.out w7 B7.out)
  obtain ⟨z0, z1⟩ := X7.out
  have zll := ecell_in z0
  go_wp2_with (refine ev_load (by rfl) (.tmp 4) (by rfl) w.heap.size e2 s2 (by rfl) E7.out ?_)
  refine K7.out.mono ?_
  rintro x w8 ⟨u8, rfl, ht8, hb, _⟩
  rw [efault_0]
  obtain ⟨la, lc, rfl, hlc⟩ := ht8
  have el : (DS.map (dTm e2 a)).length = DS.length := List.length_map _
  rw [el] at hlc ⊢
  have B8 := Lib.hid (B7.out.trans (hb.mono B7.out.size))
  have E8 := Lib.hid (E7.out.on hb)
  have X8 := Lib.hid (X7.out.on hb)
  have HD8 : Hid (DS = [] ∨ ∃ b off, da = some ⟨b, off, none⟩ ∧ ∀ i, i < DS.length → w8.cell? ⟨b, off + i, none⟩ = some (.int .i64 (DS.getD i 0))) := Lib.hid (by
    rcases HDC.out with h | ⟨b, off, h1, h2⟩
    · exact Or.inl h
    · exact Or.inr ⟨b, off, h1, fun i hi => (hb.cell (p := ⟨b, off + i, none⟩) (ecell_in (h2 i hi))).trans (h2 i hi)⟩)
  have HLC := Lib.hid hlc
  have V8 := Lib.hid (VB.out w8 B8.out)
  clear hb hlc HDC K7 KT E7 X7 z0 z1 zll
  go_wp2_with (first | (refine ev_load (by rfl) (.tmp 4) (by rfl) w.heap.size e2 s2 (by rfl) E8.out ?_) | (refine ev_build1 (by rfl) (.tmp 113) (by rfl) (some 114) (by rfl) e2 s2 (by rfl) V8.out ?_; intro W9 r9 b9; have Q9 := Lib.hid (And.intro r9 b9); clear r9 b9))
  have K9 := Lib.hid (KL.out W9 _ (B8.out.trans (Q9.out.2.mono B8.out.size)) Q9.out.1)
  refine K9.out.mono ?_
  rintro x w10 ⟨u10, rfl, hw10, hb⟩
  rw [efault_0]
  have b10 := Q9.out.2.trans (hb.mono Q9.out.2.size)
  obtain ⟨va, vc, rfl, hvc⟩ := hw10.ints
  rw [t1] at hvc ⊢
  have B10 := Lib.hid (B8.out.trans (b10.mono B8.out.size))
  have X10 := Lib.hid (X8.out.on b10)
  have HDD : Hid (DS = [] ∨ ∃ b off, da = some ⟨b, off, none⟩ ∧ ∀ i, i < DS.length → w10.cell? ⟨b, off + i, none⟩ = some (.int .i64 (DS.getD i 0))) := Lib.hid (by
    rcases HD8.out with h | ⟨b, off, h1, h2⟩
    · exact Or.inl h
    · exact Or.inr ⟨b, off, h1, fun i hi => (b10.cell (p := ⟨b, off + i, none⟩) (ecell_in (h2 i hi))).trans (h2 i hi)⟩)
  have HTT : Hid (DS.map (dTm e2 a) = [] ∨ ∃ b off, la = some ⟨b, off, none⟩ ∧ ∀ i, i < DS.length → w10.cell? ⟨b, off + i * 3, none⟩ = some (.int .i64 ((DS.map (dTm e2 a)).getD i (0, 0, 0)).1) ∧ w10.cell? ⟨b, off + i * 3 + 1, none⟩ = some (.int .i64 ((DS.map (dTm e2 a)).getD i (0, 0, 0)).2.1)) := Lib.hid (by
    rcases HLC.out with h | ⟨b, off, h1, h2⟩
    · exact Or.inl h
    · refine Or.inr ⟨b, off, h1, fun i hi => ?_⟩
      obtain ⟨g0, g1, _⟩ := h2 i hi
      exact ⟨(b10.cell (p := ⟨b, off + i * 3, none⟩) (ecell_in g0)).trans g0, (b10.cell (p := ⟨b, off + i * 3 + 1, none⟩) (ecell_in g1)).trans g1⟩)
  have HVC := Lib.hid hvc
  clear hb b10 hvc hw10 HD8 HLC K9 KL E8 X8 B8 Q9 V8 VB
  go_wp2_with fail
  have S1 := Lib.hid (Below.refl w10.heap.size w10)
  go_loopw [23, 24] (fun sv iv wr => ∃ k : Nat, k ≤ M ∧ iv = .int .i64 k ∧ sv = .int .i64 (sumL (LD.take k)) ∧ Below w10.heap.size w10 wr) (fun _ iv _ => M - (intOf iv).toNat)
  case atStart => exact ⟨0, Nat.zero_le _, rfl, rfl, S1.out⟩
  case round =>
    obtain ⟨k, hk, rfl, rfl, hB⟩ := hrel
    have HBr := Lib.hid hB
    by_cases hlt : k < M
    · rcases HVC.out with hc | ⟨vb, vo, rfl, hc⟩
      · rw [hc] at t1; simp at t1; omega
      have k0 := (hB.cell (p := ⟨vb, vo + k, none⟩) (ecell_in (hc k (by omega)))).trans (hc k (by omega))
      have vl := ecell_in k0
      have sm := Lib.hid (sumL_take (l := LD) (k := k) (by omega))
      have p1 := sumL_part T4.out k
      have p2 := sumL_part T4.out (k + 1)
      rw [sm.out] at p2
      have tt := T2.out
      generalize LD.getD k 0 = x at k0 sm p2
      generalize sumL LD = SL at p1 p2 tt
      generalize sumL (LD.take k) = sk at sm p1 p2 ⊢
      clear hc hB
      go_wp2_with fail
      go_roundw
      case rel => exact ⟨k + 1, by omega, by go_num, by rw [sm.out], HBr.out⟩
      case measure => simp [intOf]; omega
    have hk2 : k = M := by omega
    have SE : Hid (sumL (LD.take k) = (DS.length : Int)) := Lib.hid (by
      have e : LD.take k = LD := by rw [hk2, ← t1, List.take_length]
      rw [e, T2.out])
    rw [SE.out]
    obtain ⟨w11, hw11⟩ : ∃ w11, w11 = wr := ⟨_, rfl⟩
    subst hw11
    have B11 := Lib.hid (B10.out.trans (hB.mono B10.out.size))
    have X11 := Lib.hid (X10.out.on hB)
    clear hk2 SE hB B10 X10
    go_wp2_with fail
    have S2 := Lib.hid (Below.refl w11.heap.size w11)
    go_loopw [25, 26, 27, 28] (fun iv _ _ _ wr => ∃ k : Nat, k ≤ DS.length ∧ iv = .int .i64 k ∧ Below w11.heap.size w11 wr) (fun iv _ _ _ _ => DS.length - (intOf iv).toNat)
    case atStart => exact ⟨0, Nat.zero_le _, rfl, S2.out⟩
    case round =>
      obtain ⟨k, hk, rfl, hB⟩ := hrel
      have HBx := Lib.hid hB
      by_cases hlt : k < DS.length
      case neg =>
        have hk2 : k = DS.length := by omega
        have BE := Lib.hid (B11.out.trans (hB.mono B11.out.size))
        clear hB
        go_wp2_with fail
        go_ret
        exact ⟨by simp, BE.out⟩
      rcases HDD.out with hc | ⟨db, dof, rfl, hc⟩
      · rw [hc] at hlt; simp at hlt
      rcases HTT.out with hd | ⟨tb, tof, rfl, hd⟩
      · have := congrArg List.length hd
        rw [List.length_map] at this
        simp at this
        rw [this] at hlt; simp at hlt
      have d0 := hc k hlt
      obtain ⟨g0, g1⟩ := hd k hlt
      have em : (DS.map (dTm e2 a)).getD k (0, 0, 0) = dTm e2 a (DS.getD k 0) := by
        rw [List.getD_eq_getElem?_getD, List.getElem?_map, List.getD_eq_getElem?_getD, List.getElem?_eq_getElem hlt]
        rfl
      rw [em] at g0 g1
      have hn : DS.getD k 0 ∈ DS := by rw [List.getD_eq_getElem?_getD, List.getElem?_eq_getElem hlt]; exact List.getElem_mem hlt
      have dn := DI.out _ hn
      have l1 := T3.out _ hn
      generalize DS.getD k 0 = n at d0 g0 g1 dn l1
      have e4 := HQ4.out n
      unfold dTm at g0 g1
      dsimp only at g0 g1
      rw [e4] at g0 g1
      obtain ⟨jj, hjj⟩ : ∃ jj : Nat, n - F = (jj : Int) := ⟨(n - F).toNat, by omega⟩
      rw [hjj, Int.toNat_natCast] at l1
      rcases HVC.out with hv | ⟨vb, vo, rfl, hv⟩
      · rw [hv] at t1; simp at t1; omega
      have v0 := hv jj (by omega)
      rw [l1] at v0
      obtain ⟨x0, x1⟩ := X11.out.on hB
      have hB2 := HBr.out.trans (hB.mono HBr.out.size)
      have q1' := (hB2.cell (p := ⟨db, dof + k, none⟩) (ecell_in d0)).trans d0
      have q2' := (hB2.cell (p := ⟨tb, tof + k * 3, none⟩) (ecell_in g0)).trans g0
      have q3' := (hB2.cell (p := ⟨tb, tof + k * 3 + 1, none⟩) (ecell_in g1)).trans g1
      have q4' := (hB2.cell (p := ⟨vb, vo + jj, none⟩) (ecell_in v0)).trans v0
      have zz := zl_none (a := a) (t := (n - 1) * 1440 + q) HZ0.out (by omega) (by omega)
      have KX : Hid (∀ W, Below wr.heap.size wr W → Calls Tryz.prog 38 #[(Value.agg #[.int .i64 a, .slice none 0 0]), .int .i64 ((n - 1) * 1440 + q - a)] W fun e w' => e = .returned (.tuple #[.int .i64 ((n - 1) * 1440 + q), .nilIface]) ∧ Below W.heap.size W w') := Lib.hid (fun W _ => (zlocal_any a [] (Value.agg #[.int .i64 a, .slice none 0 0]) ((n - 1) * 1440 + q - a) W (zone_nil W a)).mono (fun e w' ⟨h1, h2⟩ => ⟨by rw [h1, NumA_yes zz.1, zz.2], h2⟩))
      have L1 := ecell_in q1'
      have L2 := ecell_in q2'
      have L4 := ecell_in q4'
      have lz := ecell_in x0
      clear hc hd hv d0 g0 g1 em hn e4 v0 zz hB hB2 l1
      go_wp2_with fail
      have r1 := cell_regrown q1'
      have r2 := cell_regrown q2'
      have r4 := cell_regrown q4'
      have r3 := cell_regrown q3'
      have r5 := cell_regrown x0
      have r6 := cell_regrown x1
      refine wp_region_quiet_below (by kernel_rfl) (by kernel_rfl) ?_
      repeat (go_big_quiet_step (first | (go_at_call 38; exact Calls.regrown_of (KX.out _ (below_regrown wr _ _)))))
      refine wpQuiet_nil ?_
      intro _ hw'
      obtain ⟨⟨dq, osq⟩, hw''⟩ := hw'
      subst hw''
      have hb3 := Lib.hid (HBx.out.trans ((below_regrown wr dq osq).mono HBx.out.size))
      have s1 := r1 dq osq
      have s2 := r2 dq osq
      have s4 := r4 dq osq
      clear r1 r2 r3 r4 r5 r6 q1' q2' q3' q4' KX x0 x1
      generalize Sort.grow (redrawn wr dq) osq = W3 at hb3 s1 s2 s4 ⊢
      have n1 := ecell_in s1
      have n2 := ecell_in s2
      have n4 := ecell_in s4
      go_wp2_with fail
      go_roundw
      case rel => exact ⟨k + 1, by omega, by go_num, hb3.out⟩
      case measure => simp [intOf]; omega
end Go.Proofs.YtoncfgfjdlgfcaaGreatDoor.Td
