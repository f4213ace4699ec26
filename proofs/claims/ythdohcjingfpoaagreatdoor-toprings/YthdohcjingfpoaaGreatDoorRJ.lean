/-
  What is proved here: what event.Real answers of an event that is right (a contract over the translation).
  What is proved here: what times.timeOf answers (a contract over the translation).
-/
import Derived.Test.YthdohcjingfpoaaGreatDoorDB
import Derived.Test.YthdohcjingfpoaaGreatDoorRE
namespace Go.Proofs.YthdohcjingfpoaaGreatDoor
open Go.RowKit Cal Txt

theorem sty_len {e : Evt} {fr t : Int} (h : evF e = 0) : (sty e fr t).length ≤ 200100 := by
  unfold sty
  rw [List.length_map]
  exact Nat.le_trans (List.length_filter_le _ _) (evL_len h (stL_len h))
theorem mvd_len {e : Evt} {fr t : Int} (h : evF e = 0) : (mvd e fr t).length ≤ 100 := by
  unfold mvd
  exact Nat.le_trans (Nat.le_trans (List.length_filter_le _ _) (List.length_filter_le _ _)) (evF_lens h).2.2.2.2.1
/-- The ends of a stretch within the calendar. -/
def loE (fr : Int) : Int := if fr < 1 then 1 else fr
def hiE (t : Int) : Int := if t < 157785119 then t else 157785119
set_option maxRecDepth 100000 in
set_option maxHeartbeats 4000000 in
theorem real_any (e : Evt) (s : Evs) (fr t : Int) (w : World) (hv : EvB w e s) (hT : Tab w) (h : evF e = 0) :
    Calls Tryz.prog 167 #[.agg (ecells e s), .int .i64 fr, .int .i64 t] w (RowC w (mom e (loE fr) (hiE t))) := by
  have B0 := (Below.refl w.heap.size w).alloc (Nat.le_refl _) (.cells (ecells e s) 40)
  have R0 := EBox.new w e s 40
  obtain ⟨W0, hW⟩ : ∃ W0, W0 = w.alloc (.cells (ecells e s) 40) := ⟨_, rfl⟩
  rw [← hW] at B0 R0
  have HW := Lib.hid hW
  have HB := Lib.hid B0
  have HE := Lib.hid R0
  have HV := Lib.hid (fun W (q : Below w.heap.size w W) => hv.on q)
  have HT := Lib.hid (fun W (q : Below w.heap.size w W) => hT.below q)
  have KC := Lib.hid (echeck_any e s W0 (hv.on B0))
  rw [h, efault_0] at KC
  have H0 := Lib.hid h
  clear hv hT h B0 R0 hW
  obtain ⟨F, hF⟩ : ∃ F, F = loE fr := ⟨_, rfl⟩
  obtain ⟨T, hT⟩ : ∃ T, T = hiE t := ⟨_, rfl⟩
  rw [← hF, ← hT]
  have LS := sty_len (fr := F) (t := T) H0.out
  have LM := mvd_len (fr := F) (t := T) H0.out
  have EM : Hid (mom e F T = sty e F T ++ mvd e F T) := Lib.hid rfl
  have KS := Lib.hid (fun W (q : Below w.heap.size w W) => staying_any e s F T W (HV.out _ q) (HT.out _ q) H0.out)
  have KM := Lib.hid (fun W (q : Below w.heap.size w W) => movedInto_any e s F T W (HV.out _ q) (HT.out _ q) H0.out)
  generalize mom e F T = MO at EM ⊢
  generalize sty e F T = SL at EM LS KS
  generalize mvd e F T = ML at EM LM KM
  have f1 : max fr 1 = F := by rw [hF]; unfold loE; split <;> omega
  have t1 : min t 157785119 = T := by rw [hT]; unfold hiE; split <;> omega
  clear hF hT
  go_enter Tryz.func167, Tryz.ntmps167
  go_upto_region 1 with fail
  rw [← HW.out]
  clear HW
  go_wp2_with (refine ev_load ?h1 (.tmp 3) ?h2 w.heap.size e s ?h3 HE.out ?h4; (case h1 => rfl); (case h2 => rfl); (case h3 => rfl))
  refine KC.out.mono ?_
  rintro y w1 ⟨rfl, hb⟩
  have B1 := Lib.hid (HB.out.trans (hb.mono HB.out.size))
  have E1 := Lib.hid (HE.out.on hb)
  clear hb KC HB HE
  go_upto_region 5 with (go_at_call 88; refine (clast_any _).mono ?_; rintro y w' ⟨rfl, hw⟩; replace hw := hw.symm; subst hw)
  clear f1 t1
  have K1 := Lib.hid (KS.out w1 B1.out)
  go_wp2_with (refine ev_load ?i1 (.tmp 3) ?i2 w.heap.size e s ?i3 E1.out ?i4; (case i1 => rfl); (case i2 => rfl); (case i3 => rfl))
  refine K1.out.mono ?_
  rintro y w2 ⟨v2, rfl, ho, hb⟩
  have B2 := Lib.hid (B1.out.trans (hb.mono B1.out.size))
  have E2 := Lib.hid (E1.out.on hb)
  have O2 := Lib.hid ho
  have Z1 := Lib.hid B1.out.size
  clear hb ho K1 B1 E1 KS
  have K2 := Lib.hid (KM.out w2 B2.out)
  go_wp2_with (refine ev_load ?j1 (.tmp 3) ?j2 w.heap.size e s ?j3 E2.out ?j4; (case j1 => rfl); (case j2 => rfl); (case j3 => rfl))
  refine K2.out.mono ?_
  rintro y w3 ⟨v3, rfl, hn, hb⟩
  have ho3 : w3.ownsRow w.heap.size 135 2 v2 SL.length (Zo.prc SL) := by
    have q := ow_below O2.out hb
    exact ⟨q.1, q.2.imp id (fun ⟨g, cap, cur, h1, h2, h3⟩ => ⟨g, cap, cur, h1, Nat.le_trans Z1.out h2, h3⟩)⟩
  have B3 := B2.out.trans (hb.mono B2.out.size)
  obtain ⟨v4, w4, ap, o4, b4⟩ := app2_any ho3 hn B3.size (by omega)
  rw [← EM.out] at o4
  have AP := Lib.hid ap
  have ZZ := Lib.hid (show RowC w MO (.returned (.tuple #[v4, .nilIface])) w4 from ⟨v4, rfl, o4, B3.trans b4⟩)
  clear hb hn ho3 B3 ap o4 b4 K2 O2 B2 E2 KM EM
  go_wp2_with (at_builtin; refine wpList_app rfl _ _ 38 rfl _ _ _ _ rfl rfl AP.out ?_)
  go_ret2
  exact ZZ.out
end Go.Proofs.YthdohcjingfpoaaGreatDoor
namespace Go.Proofs.YthdohcjingfpoaaGreatDoor
open Go.RowKit Cal Txt

/-- A Time as it is told, or none. -/
def tmR : Option Tm → Value
  | some y => .tuple #[.agg #[.int .i64 y.1, .int .i64 y.2.1, .int .i64 y.2.2], .bool true]
  | none => .tuple #[.agg #[.int .i64 0, .int .i64 0, .int .i64 0], .bool false]
theorem wor_none {a : Int} {l : List (Int × Int)} {t : Int} (h : (Zo.twi a l t).length = 0) : wor a l t = none := by
  unfold wor; rw [List.eq_nil_of_length_eq_zero h]; rfl
theorem wor_some {a : Int} {l : List (Int × Int)} {t : Int} (h : ¬ (Zo.twi a l t).length = 0) : wor a l t = some ((Zo.twi a l t).getD 0 0) ∧ 1 ≤ (Zo.twi a l t).getD 0 0 ∧ (Zo.twi a l t).getD 0 0 ≤ 157785119 := by
  have hm : (Zo.twi a l t).getD 0 0 ∈ Zo.twi a l t := by rw [List.getD_eq_getElem?_getD, List.getElem?_eq_getElem (by omega)]; exact List.getElem_mem (by omega)
  have := of_decide_eq_true (Zo.twi_mem.1 hm).1
  refine ⟨?_, this⟩
  unfold wor
  rw [List.head?_eq_getElem?, List.getD_eq_getElem?_getD, List.getElem?_eq_getElem (by omega)]
  rfl
set_option maxRecDepth 100000 in
set_option maxHeartbeats 4000000 in
theorem timeOf_any (a : Int) (l : List (Int × Int)) (v : Value) (e : Evt) (c : Int × Int) (w : World) (hv : ZoneIn w v a l) (hz : Zo.zf a l = 0) (hc : ist c.2 = true) (h0 : 0 ≤ e.len) (h1 : e.len ≤ 100000) :
    Calls Tryz.prog 168 #[v, .agg #[.int .i64 c.1, .int .i64 c.2], .int .i64 e.len] w fun y w' => y = .returned (tmR (tim a l e c)) ∧ Below w.heap.size w w' := by
  have HV := Lib.hid (fun W (q : Below w.heap.size w W) => hv.on q)
  obtain ⟨sa, sc, rfl⟩ := hv.form
  have B0 := (Below.refl w.heap.size w).alloc (Nat.le_refl _) (.cells #[.int .i64 a, .slice sa l.length sc] 24)
  have B1 := B0.alloc B0.size (.cells #[.int .i64 c.1, .int .i64 c.2] 135)
  have B2 := B1.alloc B1.size (.cells #[.int .i64 0, .int .i64 0, .int .i64 0] 145)
  obtain ⟨W1, hW1⟩ : ∃ W1, W1 = w.alloc (.cells #[.int .i64 a, .slice sa l.length sc] 24) := ⟨_, rfl⟩
  have g0 : W1.cell? ⟨w.heap.size, 0, none⟩ = some (.int .i64 a) ∧ W1.cell? ⟨w.heap.size, 1, none⟩ = some (.slice sa l.length sc) := by rw [hW1]; constructor <;> simp
  have z1 : W1.heap.size = w.heap.size + 1 := by rw [hW1, World.size_alloc]
  obtain ⟨W2, hW2⟩ : ∃ W2, W2 = W1.alloc (.cells #[.int .i64 c.1, .int .i64 c.2] 135) := ⟨_, rfl⟩
  have g1 : W2.cell? ⟨w.heap.size + 1, 0, none⟩ = some (.int .i64 c.1) ∧ W2.cell? ⟨w.heap.size + 1, 1, none⟩ = some (.int .i64 c.2) := by rw [hW2, ← z1]; constructor <;> simp
  have z2 : W2.heap.size = w.heap.size + 1 + 1 := by rw [hW2, World.size_alloc, z1]
  obtain ⟨W0, hW0⟩ : ∃ W0, W0 = W2.alloc (.cells #[.int .i64 0, .int .i64 0, .int .i64 0] 145) := ⟨_, rfl⟩
  have f2 : (W0.cell? ⟨w.heap.size + 1 + 1, 0, none⟩ = some (.int .i64 0) ∧ W0.cell? ⟨w.heap.size + 1 + 1, 1, none⟩ = some (.int .i64 0) ∧ W0.cell? ⟨w.heap.size + 1 + 1, 2, none⟩ = some (.int .i64 0)) ∧ (W0.frozen? ⟨w.heap.size + 1 + 1, 0, none⟩ = false ∧ W0.frozen? ⟨w.heap.size + 1 + 1, 1, none⟩ = false ∧ W0.frozen? ⟨w.heap.size + 1 + 1, 2, none⟩ = false) := by
    rw [hW0, ← z2]
    refine ⟨⟨?_, ?_, ?_⟩, ?_, ?_, ?_⟩ <;> simp
  have f0 : W0.cell? ⟨w.heap.size, 0, none⟩ = some (.int .i64 a) ∧ W0.cell? ⟨w.heap.size, 1, none⟩ = some (.slice sa l.length sc) := by
    rw [hW0, hW2]
    exact ⟨Lib.cell?_alloc_some _ (Lib.cell?_alloc_some _ g0.1), Lib.cell?_alloc_some _ (Lib.cell?_alloc_some _ g0.2)⟩
  have f1 : W0.cell? ⟨w.heap.size + 1, 0, none⟩ = some (.int .i64 c.1) ∧ W0.cell? ⟨w.heap.size + 1, 1, none⟩ = some (.int .i64 c.2) := by
    rw [hW0]
    exact ⟨Lib.cell?_alloc_some _ g1.1, Lib.cell?_alloc_some _ g1.2⟩
  have hW : W0 = ((w.alloc (.cells #[.int .i64 a, .slice sa l.length sc] 24)).alloc (.cells #[.int .i64 c.1, .int .i64 c.2] 135)).alloc (.cells #[.int .i64 0, .int .i64 0, .int .i64 0] 145) := by rw [hW0, hW2, hW1]
  clear g0 g1 z1 z2 hW0 hW2 hW1 W1 W2
  rw [← hW] at B2
  have HW := Lib.hid hW
  have HB := Lib.hid B2
  have H1 := Lib.hid f1
  have H2 := Lib.hid f2
  have KW := Lib.hid (zworld_any a l _ c.2 W0 (HV.out _ B2))
  have hzt : zt a l c.2 = 0 := by unfold zt; rw [if_pos hz, if_pos (by rw [isT_ist]; exact hc)]
  have ZW : Hid (zw a l c.2 = if (Zo.twi a l c.2).length = 0 then 8 else 0) := Lib.hid (if_pos hzt)
  have WN := Lib.hid (@wor_none a l c.2)
  have WS := Lib.hid (@wor_some a l c.2)
  have TI : Hid (tim a l e c = match wor a l c.2 with | none => none | some f => if f + e.len ≤ 157785119 then some (c.1, f, f + e.len) else none) := Lib.hid rfl
  obtain ⟨c00, c01⟩ := f0
  obtain ⟨c10, c11⟩ := f1
  have bl := ecell_in c00
  have bl1 := ecell_in c10
  generalize tim a l e c = T at TI ⊢
  generalize (Zo.twi a l c.2).getD 0 0 = f at KW WS
  generalize (Zo.twi a l c.2).length = n at ZW WN WS
  generalize wor a l c.2 = O at TI WN WS
  generalize zw a l c.2 = ZZ at ZW KW
  clear hv hz hc B0 B1 B2 hW hzt f2 HV
  go_enter Tryz.func168, Tryz.ntmps168
  go_upto_region 1 with fail
  rw [← HW.out]
  clear HW
  go_wp2_with fail
  clear c00 c01 c10 c11
  refine KW.out.mono ?_
  rintro y w1 ⟨rfl, hb⟩
  obtain ⟨cc, ff⟩ := bcell hb
  have z1 := ecell_in H2.out.1.1
  have r0 := (cc _ _ z1).trans H2.out.1.1
  have r1 := (cc _ _ z1).trans H2.out.1.2.1
  have r2 := (cc _ _ z1).trans H2.out.1.2.2
  have q0 := (ff _ _ z1).trans H2.out.2.1
  have q1 := (ff _ _ z1).trans H2.out.2.2.1
  have q2 := (ff _ _ z1).trans H2.out.2.2.2
  have l3 : w.heap.size + 1 + 1 < w1.heap.size := Nat.lt_of_lt_of_le z1 hb.size
  have wl : w.heap.size ≤ w.heap.size + 1 + 1 := by omega
  have d0 := (cc _ _ (ecell_in H1.out.1)).trans H1.out.1
  have d1 := (cc _ _ (ecell_in H1.out.1)).trans H1.out.2
  have dl := ecell_in d0
  have B3 := Lib.hid (HB.out.trans (hb.mono HB.out.size))
  clear cc ff hb KW HB H1 H2 z1
  by_cases hn : n = 0
  · have E0 : Hid (T = none) := Lib.hid (by rw [TI.out, WN.out hn])
    have Z8 : ZZ = 8 := by rw [ZW.out, if_pos hn]
    subst Z8
    rw [NumA_no (by decide)]
    clear TI WN WS ZW
    go_wp2
    refine bodyPost_ret (v := .tuple #[.agg #[.int .i64 0, .int .i64 0, .int .i64 0], .bool false]) (by simp [results, Tryz.results168, go_sem, r0, r1, r2]) rfl ⟨by rw [E0.out]; rfl, ?_⟩
    repeat (first | exact B3.out | refine Below.setCell ?_ wl _)
  have Z0 : ZZ = 0 := by rw [ZW.out, if_neg hn]
  obtain ⟨w1e, g1, g2⟩ := WS.out hn
  have EO : Hid (T = if f + e.len ≤ 157785119 then some (c.1, f, f + e.len) else none) := Lib.hid (by rw [TI.out, w1e])
  subst Z0
  rw [NumA_yes rfl]
  clear TI WN WS ZW w1e
  by_cases hl : f + e.len ≤ 157785119
  · have E0 : Hid (T = some (c.1, f, f + e.len)) := Lib.hid (by rw [EO.out, if_pos hl])
    clear EO
    go_wp2_with (go_at_call 192; refine (add_yes f e.len _ g1 g2 (by omega) hl).mono ?_; rintro y w2 ⟨rfl, hw⟩; replace hw := hw.symm; subst hw)
    refine bodyPost_ret (v := .tuple #[.agg #[.int .i64 c.1, .int .i64 f, .int .i64 (f + e.len)], .bool true]) (by simp [results, Tryz.results168, go_sem, r0, r1, r2]) rfl ⟨by rw [E0.out]; rfl, ?_⟩
    repeat (first | exact B3.out | refine Below.setCell ?_ wl _)
  · have E0 : Hid (T = none) := Lib.hid (by rw [EO.out, if_neg hl])
    clear EO
    go_wp2_with (go_at_call 192; refine (add_no f e.len _ (by omega)).mono ?_; rintro y w2 ⟨rfl, hw⟩; replace hw := hw.symm; subst hw)
    refine bodyPost_ret (v := .tuple #[.agg #[.int .i64 0, .int .i64 0, .int .i64 0], .bool false]) (by simp [results, Tryz.results168, go_sem, r0, r1, r2]) rfl ⟨by rw [E0.out]; rfl, ?_⟩
    repeat (first | exact B3.out | refine Below.setCell ?_ wl _)
end Go.Proofs.YthdohcjingfpoaaGreatDoor
