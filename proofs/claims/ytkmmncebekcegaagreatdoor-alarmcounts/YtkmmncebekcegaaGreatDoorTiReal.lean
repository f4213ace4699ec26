/-
  What is proved here: what event.Real answers of an event that is right (a contract over the translation).
-/
import Derived.Test.YtkmmncebekcegaaGreatDoorTiMov
namespace Go.Proofs.YtkmmncebekcegaaGreatDoor
open Go.RowKit Cal Txt

theorem sty_len {e : Evt} {fr t : Int} (h : evF e = 0) : (sty e fr t).length ≤ 200100 := by
  unfold sty
  rw [List.length_map]
  exact Nat.le_trans (List.length_filter_le _ _) (evL_len h (stL_len h))
theorem mvd_len {e : Evt} {fr t : Int} (h : evF e = 0) : (mvd e fr t).length ≤ 100 := by
  unfold mvd
  exact Nat.le_trans (Nat.le_trans (List.length_filter_le _ _) (List.length_filter_le _ _)) (evF_lens h).2.2.2.2.1
/-- The ends of a stretch within the calendar. -/
def loE (fr : Int) : Int := if fr < 1 then 1 else fr
def hiE (t : Int) : Int := if t < 157785119 then t else 157785119
set_option maxRecDepth 100000 in
set_option maxHeartbeats 4000000 in
theorem real_any (e : Evt) (s : Evs) (fr t : Int) (w : World) (hv : EvB w e s) (hT : Tab w) (h : evF e = 0) :
    Calls Tryz.prog 55 #[.agg (ecells e s), .int .i64 fr, .int .i64 t] w (RowC w (mom e (loE fr) (hiE t))) := by
  have B0 := (Below.refl w.heap.size w).alloc (Nat.le_refl _) (.cells (ecells e s) 32)
  have R0 := EBox.new w e s 32
  obtain ⟨W0, hW⟩ : ∃ W0, W0 = w.alloc (.cells (ecells e s) 32) := ⟨_, rfl⟩
  rw [← hW] at B0 R0
  have HW := Lib.hid hW
  have HB := Lib.hid B0
  have HE := Lib.hid R0
  have HV := Lib.hid (fun W (q : Below w.heap.size w W) => hv.on q)
  have HT := Lib.hid (fun W (q : Below w.heap.size w W) => hT.below q)
  have KC := Lib.hid (echeck_any e s W0 (hv.on B0))
  rw [h, efault_0] at KC
  have H0 := Lib.hid h
  clear hv hT h B0 R0 hW
  obtain ⟨F, hF⟩ : ∃ F, F = loE fr := ⟨_, rfl⟩
  obtain ⟨T, hT⟩ : ∃ T, T = hiE t := ⟨_, rfl⟩
  rw [← hF, ← hT]
  have LS := sty_len (fr := F) (t := T) H0.out
  have LM := mvd_len (fr := F) (t := T) H0.out
  have EM : Hid (mom e F T = sty e F T ++ mvd e F T) := Lib.hid rfl
  have KS := Lib.hid (fun W (q : Below w.heap.size w W) => staying_any e s F T W (HV.out _ q) (HT.out _ q) H0.out)
  have KM := Lib.hid (fun W (q : Below w.heap.size w W) => movedInto_any e s F T W (HV.out _ q) (HT.out _ q) H0.out)
  generalize mom e F T = MO at EM ⊢
  generalize sty e F T = SL at EM LS KS
  generalize mvd e F T = ML at EM LM KM
  have f1 : max fr 1 = F := by rw [hF]; unfold loE; split <;> omega
  have t1 : min t 157785119 = T := by rw [hT]; unfold hiE; split <;> omega
  clear hF hT
  go_enter Tryz.func55, Tryz.ntmps55
  go_upto_region 1 with fail
  rw [← HW.out]
  clear HW
  go_wp2_with (refine ev_load ?h1 (.tmp 3) ?h2 w.heap.size e s ?h3 HE.out ?h4; (case h1 => rfl); (case h2 => rfl); (case h3 => rfl))
  refine KC.out.mono ?_
  rintro y w1 ⟨rfl, hb⟩
  have B1 := Lib.hid (HB.out.trans (hb.mono HB.out.size))
  have E1 := Lib.hid (HE.out.on hb)
  clear hb KC HB HE
  go_upto_region 5 with (go_at_call 54; refine (clast_any _).mono ?_; rintro y w' ⟨rfl, hw⟩; replace hw := hw.symm; subst hw)
  clear f1 t1
  have K1 := Lib.hid (KS.out w1 B1.out)
  go_wp2_with (refine ev_load ?i1 (.tmp 3) ?i2 w.heap.size e s ?i3 E1.out ?i4; (case i1 => rfl); (case i2 => rfl); (case i3 => rfl))
  refine K1.out.mono ?_
  rintro y w2 ⟨v2, rfl, ho, hb⟩
  have B2 := Lib.hid (B1.out.trans (hb.mono B1.out.size))
  have E2 := Lib.hid (E1.out.on hb)
  have O2 := Lib.hid ho
  have Z1 := Lib.hid B1.out.size
  clear hb ho K1 B1 E1 KS
  have K2 := Lib.hid (KM.out w2 B2.out)
  go_wp2_with (refine ev_load ?j1 (.tmp 3) ?j2 w.heap.size e s ?j3 E2.out ?j4; (case j1 => rfl); (case j2 => rfl); (case j3 => rfl))
  refine K2.out.mono ?_
  rintro y w3 ⟨v3, rfl, hn, hb⟩
  have ho3 : w3.ownsRow w.heap.size 74 2 v2 SL.length (Zo.prc SL) := by
    have q := ow_below O2.out hb
    exact ⟨q.1, q.2.imp id (fun ⟨g, cap, cur, h1, h2, h3⟩ => ⟨g, cap, cur, h1, Nat.le_trans Z1.out h2, h3⟩)⟩
  have B3 := B2.out.trans (hb.mono B2.out.size)
  obtain ⟨v4, w4, ap, o4, b4⟩ := app2_any ho3 hn B3.size (by omega)
  rw [← EM.out] at o4
  have AP := Lib.hid ap
  have ZZ := Lib.hid (show RowC w MO (.returned (.tuple #[v4, .nilIface])) w4 from ⟨v4, rfl, o4, B3.trans b4⟩)
  clear hb hn ho3 B3 ap o4 b4 K2 O2 B2 E2 KM EM
  go_wp2_with (at_builtin; refine wpList_app rfl _ _ 29 rfl _ _ _ _ rfl rfl AP.out ?_)
  go_ret2
  exact ZZ.out
end Go.Proofs.YtkmmncebekcegaaGreatDoor
