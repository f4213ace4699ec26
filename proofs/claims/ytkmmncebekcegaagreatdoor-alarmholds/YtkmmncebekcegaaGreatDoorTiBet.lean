/-
  What is proved here: what package times' checkBoth, Between and Next answer (contracts over the translation).
-/
import Derived.Test.YtkmmncebekcegaaGreatDoorTiAll
namespace Go.Proofs.YtkmmncebekcegaaGreatDoor
open Go.RowKit Cal Txt

/-- A zone's two cells lie in a block. -/
def ZBx (W : World) (b : Nat) (a : Int) (u : Value) : Prop := W.cell? ⟨b, 0, none⟩ = some (.int .i64 a) ∧ W.cell? ⟨b, 1, none⟩ = some u
theorem ZBx.on {W W' : World} {b : Nat} {a : Int} {u : Value} (h : ZBx W b a u) (q : Below W.heap.size W W') : ZBx W' b a u :=
  ⟨(q.cell (p := ⟨b, 0, none⟩) (ecell_in h.1)).trans h.1, (q.cell (p := ⟨b, 1, none⟩) (ecell_in h.1)).trans h.2⟩
/-- A zone and an event, boxed one behind the other. -/
theorem two_boxes (w : World) (a : Int) (l : List (Int × Int)) (sa : Option Addr) (sc : Nat) (e : Evt) (s : Evs) : ∃ W, W = (w.alloc (.cells #[.int .i64 a, .slice sa l.length sc] 24)).alloc (.cells (ecells e s) 32) ∧ Below w.heap.size w W ∧ W.heap.size = w.heap.size + 2 ∧ ZBx W w.heap.size a (.slice sa l.length sc) ∧ EBox W (w.heap.size + 1) e s := by
  obtain ⟨W1, hW1⟩ : ∃ W1, W1 = w.alloc (.cells #[.int .i64 a, .slice sa l.length sc] 24) := ⟨_, rfl⟩
  have g0 : ZBx W1 w.heap.size a (.slice sa l.length sc) := by rw [hW1]; constructor <;> simp
  have z1 : W1.heap.size = w.heap.size + 1 := by rw [hW1, World.size_alloc]
  have b1 : Below w.heap.size w W1 := by rw [hW1]; exact (Below.refl _ _).alloc (Nat.le_refl _) _
  have R0 := EBox.new W1 e s 32
  rw [z1] at R0
  exact ⟨_, by rw [hW1], b1.alloc b1.size _, by rw [World.size_alloc, z1], g0.on ((Below.refl _ _).alloc (Nat.le_refl _) _), R0⟩
/-- What is wrong with an event, or else with a zone. -/
def ezF (a : Int) (l : List (Int × Int)) (e : Evt) : Int := if ¬ evF e = 0 then evF e else Zo.zf a l
set_option maxRecDepth 100000 in
set_option maxHeartbeats 2000000 in
theorem tcheck_any (a : Int) (l : List (Int × Int)) (v : Value) (e : Evt) (s : Evs) (w : World) (hz : ZoneIn w v a l) (hv : EvB w e s) :
    Calls Tryz.prog 44 #[v, .agg (ecells e s)] w fun x w' => x = .returned (fault (ezF a l e)) ∧ Below w.heap.size w w' := by
  have HZ := Lib.hid (fun W (q : Below w.heap.size w W) => hz.on q)
  obtain ⟨sa, sc, rfl⟩ := hz.form
  obtain ⟨W0, hW, B0, _, Z0, R0⟩ := two_boxes w a l sa sc e s
  have HW := Lib.hid hW
  have HB := Lib.hid B0
  have HE := Lib.hid R0
  have HX := Lib.hid Z0
  have KC := Lib.hid (echeck_any e s W0 (hv.on B0))
  have KZ := Lib.hid (fun W (q : Below w.heap.size w W) => zcheck_any a l _ W (HZ.out _ q))
  have N1 : Hid (¬ evF e = 0 → ezF a l e = evF e) := Lib.hid (fun q => if_pos q)
  have N2 : Hid (evF e = 0 → ezF a l e = Zo.zf a l) := Lib.hid (fun q => if_neg (fun z => z q))
  generalize ezF a l e = F at N1 N2 ⊢
  generalize evF e = EF at N1 N2 KC
  generalize Zo.zf a l = ZF at N2 KZ
  clear hz hv hW B0 Z0 R0
  go_enter Tryz.func44, Tryz.ntmps44
  go_upto_region 1 with fail
  rw [← HW.out]
  clear HW
  go_wp2_with (refine ev_load ?h1 (.tmp 3) ?h2 (w.heap.size + 1) e s ?h3 HE.out ?h4; (case h1 => rfl); (case h2 => rfl); (case h3 => rfl))
  refine KC.out.mono ?_
  rintro y w1 ⟨rfl, hb⟩
  have B1 := Lib.hid (HB.out.trans (hb.mono HB.out.size))
  have X1 := Lib.hid (HX.out.on hb)
  clear hb KC HB HE HX
  by_cases hq : EF = 0
  case neg =>
    have N := Lib.hid (N1.out hq)
    rw [efault_ne hq]
    have HQ := Lib.hid hq
    clear hq N1 N2 KZ
    go_wp2
    go_ret
    exact ⟨by rw [N.out, efault_ne HQ.out]; rfl, B1.out⟩
  have N := Lib.hid (N2.out hq)
  have K := Lib.hid (KZ.out _ B1.out)
  rw [hq, efault_0]
  obtain ⟨c0, c1⟩ := X1.out
  have cl := ecell_in c0
  clear hq N1 N2 KZ
  go_wp2_with fail
  clear c0 c1 cl
  refine K.out.mono ?_
  rintro y w2 ⟨rfl, hb⟩
  have B2 := Lib.hid (B1.out.trans (hb.mono B1.out.size))
  clear hb K
  go_wp2
  go_ret
  exact ⟨by rw [N.out]; rfl, B2.out⟩
/-- What Between tells. -/
def tbF (a : Int) (l : List (Int × Int)) (e : Evt) (fr t : Int) : Int := if ¬ ezF a l e = 0 then ezF a l e else if strB fr t = false then 1 else if 200 < (tmL a l e fr t).length then 4 else 0
def tbL (a : Int) (l : List (Int × Int)) (e : Evt) (fr t : Int) : List Tm := if tbF a l e fr t = 0 then tmL a l e fr t else []
theorem ez_good {a : Int} {l : List (Int × Int)} {e : Evt} (h : ezF a l e = 0) : evF e = 0 ∧ Zo.zf a l = 0 := by
  unfold ezF at h
  split at h
  · rename_i q; exact absurd h q
  · rename_i q; exact ⟨Decidable.byContradiction q, h⟩
theorem str_ok {fr t : Int} (h : strB fr t = true) : okS fr t := by
  have := strB_ends h
  unfold okS
  omega
/-- What is told: a list and a fault. -/
def TbA (w : World) (l : List Tm) (f : Int) (x : Ending) (w' : World) : Prop := ∃ u, x = .returned (.tuple #[u, fault f]) ∧ Tms w' u l ∧ Below w.heap.size w w' ∧ w'.ownsRow w.heap.size 54 3 u l.length (prt l)
theorem nil_tms (w : World) : Tms w (.slice none 0 0) [] := ⟨none, 0, rfl, Or.inl rfl⟩
/-- What Check tells. -/
def tcF (a : Int) (l : List (Int × Int)) (e : Evt) (fr t : Int) : Int := if ¬ ezF a l e = 0 then ezF a l e else if strB fr t = false then 1 else 0
theorem tc_good {a : Int} {l : List (Int × Int)} {e : Evt} {fr t : Int} (h : tcF a l e fr t = 0) : ezF a l e = 0 ∧ strB fr t = true := by
  unfold tcF at h
  split at h
  · rename_i q; exact absurd h q
  · rename_i q
    split at h
    · cases h
    · rename_i k; exact ⟨Decidable.byContradiction q, by simpa using k⟩
theorem tb_bad {a : Int} {l : List (Int × Int)} {e : Evt} {fr t : Int} (h : ¬ tcF a l e fr t = 0) : tbF a l e fr t = tcF a l e fr t := by
  unfold tbF tcF at *
  split
  · rfl
  · rename_i q
    rw [if_neg q] at h
    split
    · rfl
    · rename_i k; rw [if_neg k] at h; exact absurd rfl h
theorem tb_fine {a : Int} {l : List (Int × Int)} {e : Evt} {fr t : Int} (h : tcF a l e fr t = 0) : tbF a l e fr t = if 200 < (tmL a l e fr t).length then 4 else 0 := by
  obtain ⟨h1, h2⟩ := tc_good h
  unfold tbF
  rw [if_neg (fun z => z h1), if_neg (by rw [h2]; decide)]
set_option maxRecDepth 100000 in
set_option maxHeartbeats 4000000 in
theorem tchk_any (a : Int) (l : List (Int × Int)) (v : Value) (e : Evt) (s : Evs) (fr t : Int) (w : World) (hz : ZoneIn w v a l) (hv : EvB w e s) :
    Calls Tryz.prog 21 #[v, .agg (ecells e s), .int .i64 fr, .int .i64 t] w fun x w' => x = .returned (fault (tcF a l e fr t)) ∧ Below w.heap.size w w' := by
  have HZ := Lib.hid (fun W (q : Below w.heap.size w W) => hz.on q)
  obtain ⟨sa, sc, rfl⟩ := hz.form
  obtain ⟨W0, hW, B0, _, Z0, R0⟩ := two_boxes w a l sa sc e s
  have HW := Lib.hid hW
  have HB := Lib.hid B0
  have HE := Lib.hid R0
  have HX := Lib.hid Z0
  have KC := Lib.hid (tcheck_any a l _ e s W0 (HZ.out _ B0) (hv.on B0))
  have N1 : Hid (¬ ezF a l e = 0 → tcF a l e fr t = ezF a l e) := Lib.hid (fun q => if_pos q)
  have N2 : Hid (ezF a l e = 0 → strB fr t = false → tcF a l e fr t = 1) := Lib.hid (fun q k => by unfold tcF; rw [if_neg (fun z => z q), if_pos k])
  have N3 : Hid (ezF a l e = 0 → strB fr t = true → tcF a l e fr t = 0) := Lib.hid (fun q k => by unfold tcF; rw [if_neg (fun z => z q), if_neg (by rw [k]; decide)])
  generalize tcF a l e fr t = F at N1 N2 N3 ⊢
  generalize ezF a l e = EF at N1 N2 N3 KC
  clear hz hv hW B0 Z0 R0
  go_enter Tryz.func21, Tryz.ntmps21
  go_upto_region 1 with fail
  rw [← HW.out]
  clear HW
  obtain ⟨z0, z1⟩ := HX.out
  have zl := ecell_in z0
  go_wp2_with (refine ev_load ?h1 (.tmp 5) ?h2 (w.heap.size + 1) e s ?h3 HE.out ?h4; (case h1 => rfl); (case h2 => rfl); (case h3 => rfl))
  clear z0 z1 zl
  refine KC.out.mono ?_
  rintro y w1 ⟨rfl, hb⟩
  have B1 := Lib.hid (HB.out.trans (hb.mono HB.out.size))
  clear hb KC HB HE HX
  by_cases hq : EF = 0
  case neg =>
    have N : Hid (F = EF) := Lib.hid (N1.out hq)
    rw [efault_ne hq]
    have HQ := Lib.hid hq
    clear hq N1 N2 N3
    go_wp2
    go_ret
    exact ⟨by rw [N.out, efault_ne HQ.out]; rfl, B1.out⟩
  rw [hq, efault_0]
  have HQ := Lib.hid hq
  clear hq N1
  have EH : Hid (strB fr t = (((ist fr && ist t) && decide (fr ≤ t)) && decide (t - fr ≤ 1000000))) := Lib.hid rfl
  have NB : Hid (strB fr t = false → F = 1) := Lib.hid (fun q => N2.out HQ.out q)
  clear N2
  go_wp2_with fail
  refine (isTime_any fr _).mono ?_
  rintro x w2 ⟨rfl, hw⟩
  replace hw := hw.symm
  subst hw
  rcases h1 : ist fr with _ | _
  · have N := Lib.hid (NB.out (by rw [EH.out, h1]; rfl))
    clear N3 NB
    go_wp2
    go_ret
    exact ⟨by rw [N.out]; rfl, B1.out⟩
  go_wp2_with fail
  refine (isTime_any t _).mono ?_
  rintro x w2 ⟨rfl, hw⟩
  replace hw := hw.symm
  subst hw
  rcases h2 : ist t with _ | _
  · have N := Lib.hid (NB.out (by rw [EH.out, h1, h2]; rfl))
    clear N3 NB
    go_wp2
    go_ret
    exact ⟨by rw [N.out]; rfl, B1.out⟩
  obtain ⟨f1, f2⟩ := of_decide_eq_true h1
  obtain ⟨t1, t2⟩ := of_decide_eq_true h2
  by_cases h3 : fr ≤ t
  case neg =>
    have N := Lib.hid (NB.out (by rw [EH.out, h1, h2, decide_eq_false h3]; rfl))
    clear N3 NB h1 h2
    go_wp2
    go_ret
    exact ⟨by rw [N.out]; rfl, B1.out⟩
  by_cases h4 : t - fr ≤ 1000000
  case neg =>
    have N := Lib.hid (NB.out (by rw [EH.out, h1, h2, decide_eq_true h3, decide_eq_false h4]; rfl))
    clear N3 NB h1 h2
    go_wp2
    go_ret
    exact ⟨by rw [N.out]; rfl, B1.out⟩
  have hS : strB fr t = true := by rw [EH.out, h1, h2, decide_eq_true h3, decide_eq_true h4]; rfl
  have G2 := Lib.hid (N3.out HQ.out hS)
  clear N3 NB hS h1 h2
  go_wp2
  go_ret
  exact ⟨by rw [G2.out]; rfl, B1.out⟩
set_option maxRecDepth 100000 in
set_option maxHeartbeats 4000000 in
theorem tbetween_any (a : Int) (l : List (Int × Int)) (v : Value) (e : Evt) (s : Evs) (fr t : Int) (w : World) (hz : ZoneIn w v a l) (hv : EvB w e s) (hT : Tab w) :
    Calls Tryz.prog 14 #[v, .agg (ecells e s), .int .i64 fr, .int .i64 t] w (TbA w (tbL a l e fr t) (tbF a l e fr t)) := by
  have HZ := Lib.hid (fun W (q : Below w.heap.size w W) => hz.on q)
  obtain ⟨sa, sc, rfl⟩ := hz.form
  obtain ⟨W0, hW, B0, _, Z0, R0⟩ := two_boxes w a l sa sc e s
  have HW := Lib.hid hW
  have HB := Lib.hid B0
  have HE := Lib.hid R0
  have HX := Lib.hid Z0
  have KC := Lib.hid (tchk_any a l _ e s fr t W0 (HZ.out _ B0) (hv.on B0))
  have KA := Lib.hid (fun (h : tcF a l e fr t = 0) W (q : Below w.heap.size w W) => tall_any a l _ e s fr t W (HZ.out _ q) (ez_good (tc_good h).1).2 (hv.on q) (hT.below q) (ez_good (tc_good h).1).1 (str_ok (tc_good h).2))
  have N1 : Hid (¬ tcF a l e fr t = 0 → tbF a l e fr t = tcF a l e fr t) := Lib.hid tb_bad
  have N3 : Hid (tcF a l e fr t = 0 → tbF a l e fr t = if 200 < (tmL a l e fr t).length then 4 else 0) := Lib.hid tb_fine
  have L0 : Hid (¬ tbF a l e fr t = 0 → tbL a l e fr t = []) := Lib.hid (fun q => if_neg q)
  have L1 : Hid (tbF a l e fr t = 0 → tbL a l e fr t = tmL a l e fr t) := Lib.hid (fun q => if_pos q)
  generalize tbL a l e fr t = L at L0 L1 ⊢
  generalize tbF a l e fr t = F at N1 N3 L0 L1 ⊢
  generalize tmL a l e fr t = RES at N3 L1 KA
  generalize tcF a l e fr t = EF at N1 N3 KC KA
  clear hz hv hT hW B0 Z0 R0
  go_enter Tryz.func14, Tryz.ntmps14
  go_upto_region 1 with fail
  rw [← HW.out]
  clear HW
  obtain ⟨z0, z1⟩ := HX.out
  have zl := ecell_in z0
  go_wp2_with (refine ev_load ?h1 (.tmp 5) ?h2 (w.heap.size + 1) e s ?h3 HE.out ?h4; (case h1 => rfl); (case h2 => rfl); (case h3 => rfl))
  clear z0 z1 zl
  refine KC.out.mono ?_
  rintro y w1 ⟨rfl, hb⟩
  have B1 := Lib.hid (HB.out.trans (hb.mono HB.out.size))
  have E1 := Lib.hid (HE.out.on hb)
  have X1 := Lib.hid (HX.out.on hb)
  clear hb KC HB HE HX
  by_cases hq : EF = 0
  case neg =>
    have N : Hid (F = EF ∧ L = []) := Lib.hid ⟨N1.out hq, L0.out (by rw [N1.out hq]; exact hq)⟩
    rw [efault_ne hq]
    have HQ := Lib.hid hq
    clear hq N1 N3 L0 L1 KA
    go_wp2
    go_ret2
    exact ⟨.slice none 0 0, by rw [N.out.1, efault_ne HQ.out]; rfl, by rw [N.out.2]; exact nil_tms _, B1.out, by rw [N.out.2]; exact World.ownsRow_nil _ _ _ _⟩
  have G2 := Lib.hid (N3.out hq)
  have K := Lib.hid (KA.out hq _ B1.out)
  rw [hq, efault_0]
  clear hq N1 N3 KA
  obtain ⟨z0, z1⟩ := X1.out
  have zl := ecell_in z0
  go_wp2_with (refine ev_load ?i1 (.tmp 5) ?i2 (w.heap.size + 1) e s ?i3 E1.out ?i4; (case i1 => rfl); (case i2 => rfl); (case i3 => rfl))
  clear z0 z1 zl
  refine K.out.mono ?_
  rintro x w2 ⟨u, rfl, ht, hb, ow⟩
  have OW := Lib.hid (own_mono ow B1.out.size)
  clear ow
  have B2 := Lib.hid (B1.out.trans (hb.mono B1.out.size))
  have HTM := Lib.hid ht
  obtain ⟨a9, c9, rfl, _⟩ := ht
  clear hb K B1 E1 X1
  by_cases hq : 200 < RES.length
  · have N : Hid (F = 4 ∧ L = []) := Lib.hid (by have := G2.out; rw [if_pos hq] at this; exact ⟨this, L0.out (by rw [this]; decide)⟩)
    clear L0 L1 G2
    go_wp2
    go_ret2
    exact ⟨.slice none 0 0, by rw [N.out.1]; rfl, by rw [N.out.2]; exact nil_tms _, B2.out, by rw [N.out.2]; exact World.ownsRow_nil _ _ _ _⟩
  · have N : Hid (F = 0 ∧ L = RES) := Lib.hid (by have := G2.out; rw [if_neg hq] at this; exact ⟨this, L1.out this⟩)
    clear L0 L1 G2
    go_wp2
    go_ret2
    exact ⟨.slice a9 RES.length c9, by rw [N.out.1]; rfl, by rw [N.out.2]; exact HTM.out, B2.out, by rw [N.out.2]; exact OW.out⟩
end Go.Proofs.YtkmmncebekcegaaGreatDoor
