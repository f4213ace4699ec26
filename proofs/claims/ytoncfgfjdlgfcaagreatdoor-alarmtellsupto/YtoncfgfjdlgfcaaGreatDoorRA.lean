/-
  What is proved here: what the document's Time answers (a contract over the translation).
  What is proved here: what the document's changed answers of an event that is right (a contract over the translation).
  What is proved here: plain facts on the document's list of Times: how it is put in order, and that it is the program's; a Time stored into a row that a call owns.
-/
import Derived.Test.YtoncfgfjdlgfcaaGreatDoorBX
import Derived.Test.YtoncfgfjdlgfcaaGreatDoorRD
import Derived.Test.YtoncfgfjdlgfcaaGreatDoorDA
import Derived.Deep.RegionHeld3
import Derived.Test.YtoncfgfjdlgfcaaGreatDoorRI
import Derived.Test.YtoncfgfjdlgfcaaGreatDoorTiApp
import Derived.Laws.OwnMore
namespace Go.Proofs.YtoncfgfjdlgfcaaGreatDoor
open Go.RowKit Cal Txt

/-- When a time is, of the whole world. -/
def tmO (a : Int) (l : List (Int × Int)) (e : Evt) (x : Int) : Option Tm := match rea e x with | none => none | some r => tim a l e (x, r)
theorem rea_off {e : Evt} {x : Int} (h : onB e.chg x = false) : rea e x = none := by
  unfold onB at h
  unfold rea
  rcases q : chOf e.chg x with _ | n
  · rw [q] at h; cases h
  · rw [q] at h
    show (if n = 0 then none else some n) = none
    rw [if_pos (by simpa using h)]
theorem rea_on {e : Evt} {x : Int} (h : onB e.chg x = true) : rea e x = some ((chOf e.chg x).getD x) := by
  unfold onB at h
  unfold rea
  rcases q : chOf e.chg x with _ | n
  · rfl
  · rw [q] at h
    show (if n = 0 then none else some n) = _
    rw [if_neg (by simpa using h)]
    rfl
/-- What Time tells. -/
def TmA (a : Int) (l : List (Int × Int)) (e : Evt) (x : Int) (w : World) (z : Ending) (w' : World) : Prop := ∃ (T : Tm) (ok : Bool), z = .returned (.tuple #[.agg #[.int .i64 T.1, .int .i64 T.2.1, .int .i64 T.2.2], .bool ok]) ∧ tmO a l e x = (if ok = true then some T else none) ∧ Below w.heap.size w w'
set_option maxRecDepth 100000 in
set_option maxHeartbeats 4000000 in
theorem refTm_any (a : Int) (l : List (Int × Int)) (v : Value) (e : Evt) (s : Evs) (x : Int) (w : World) (hz : ZoneIn w v a l) (hf : Zo.zf a l = 0) (hv : EvB w e s) (h : evF e = 0) (hr : ∀ r, rea e x = some r → ist r = true) :
    Calls Tryz.prog 96 #[v, .agg (ecells e s), .int .i64 x] w (TmA a l e x w) := by
  have HZ := Lib.hid (fun W (q : Below w.heap.size w W) => hz.on q)
  obtain ⟨sa, sc, rfl⟩ := hz.form
  obtain ⟨W2, hW2, b2, z2, Z2, R2⟩ := two_boxes w a l sa sc e s
  have b3 : Below W2.heap.size W2 (W2.alloc (.cells #[.int .i64 0, .int .i64 0, .int .i64 0] 44)) := (Below.refl _ _).alloc (Nat.le_refl _) _
  have q3 : Zr3 (W2.alloc (.cells #[.int .i64 0, .int .i64 0, .int .i64 0] 44)) (w.heap.size + 1 + 1) := by
    have z3 : w.heap.size + 1 + 1 = W2.heap.size := by omega
    rw [z3]
    refine ⟨⟨?_, ?_, ?_⟩, ?_, ?_, ?_⟩ <;> simp
  obtain ⟨W0, hW0⟩ : ∃ W0, W0 = W2.alloc (.cells #[.int .i64 0, .int .i64 0, .int .i64 0] 44) := ⟨_, rfl⟩
  rw [← hW0] at b3 q3
  have hW : W0 = ((w.alloc (.cells #[.int .i64 a, .slice sa l.length sc] 24)).alloc (.cells (ecells e s) 33)).alloc (.cells #[.int .i64 0, .int .i64 0, .int .i64 0] 44) := by rw [hW0, hW2]
  have B0 := b2.trans (b3.mono b2.size)
  have HW := Lib.hid hW
  have HB := Lib.hid B0
  have HE := Lib.hid (R2.on b3)
  have HX := Lib.hid (Z2.on b3)
  have HR := Lib.hid q3
  have cl := (evF_lens h).2.2.2.2
  have KR := Lib.hid (refReally_any e s x W0 (hv.on B0).2.2.2.2.2.2.1 (by omega))
  obtain ⟨cl1, ln1, ln2⟩ := cl
  have OFF := Lib.hid (fun q => rea_off (e := e) (x := x) q)
  have ON := Lib.hid (fun q => rea_on (e := e) (x := x) q)
  have HRT := Lib.hid hr
  have KT := Lib.hid (fun r (q1 : 1 ≤ r) (q2 : r ≤ 157785119) W (q : Below w.heap.size w W) => refTwice_any a l _ r W (HZ.out _ q) hf q1 q2)
  have TO : Hid (∀ r, rea e x = some r → tmO a l e x = tim a l e (x, r)) := Lib.hid (fun r q => by unfold tmO; rw [q])
  have TN : Hid (rea e x = none → tmO a l e x = none) := Lib.hid (fun q => by unfold tmO; rw [q])
  generalize (chOf e.chg x).getD x = RR at KR ON
  generalize onB e.chg x = OB at KR ON OFF
  have wl : w.heap.size ≤ w.heap.size + 1 + 1 := by omega
  clear hz hv hW B0 b2 b3 z2 Z2 R2 q3 hW2 hW0 W2 h hr hf
  go_enter Tryz.func96, Tryz.ntmps96
  go_upto_region 1 with fail
  rw [← HW.out]
  clear HW
  go_wp2_with (refine ev_load ?h1 (.tmp 4) ?h2 (w.heap.size + 1) e s ?h3 HE.out ?h4; (case h1 => rfl); (case h2 => rfl); (case h3 => rfl))
  refine KR.out.mono ?_
  rintro y w1 ⟨rfl, hb⟩
  have B1 := Lib.hid (HB.out.trans (hb.mono HB.out.size))
  have E1 := Lib.hid (HE.out.on hb)
  have X1 := Lib.hid (HX.out.on hb)
  have R1 := Lib.hid (HR.out.on hb)
  clear hb KR HB HE HX HR
  rcases OB with _ | _
  · have N := Lib.hid (TN.out (OFF.out rfl))
    obtain ⟨⟨r0, r1, r2⟩, q0, q1, q2⟩ := R1.out
    have rl := ecell_in r0
    clear KT TO TN ON OFF HRT
    go_wp2
    refine bodyPost_ret (v := .tuple #[.agg #[.int .i64 0, .int .i64 0, .int .i64 0], .bool false]) (by simp [results, Tryz.results96, go_sem, r0, r1, r2]) rfl ⟨(0, 0, 0), false, rfl, by rw [N.out]; rfl, ?_⟩
    repeat (first | exact B1.out | refine Below.setCell ?_ wl _)
  have hre := ON.out rfl
  have rt := of_decide_eq_true (HRT.out _ hre)
  have N := Lib.hid (TO.out _ hre)
  have K := Lib.hid (KT.out RR rt.1 rt.2 _ B1.out)
  clear KT TO TN ON OFF HRT hre rt
  obtain ⟨z0, z1⟩ := X1.out
  have zl := ecell_in z0
  go_wp2_with fail
  clear z0 z1 zl
  refine K.out.mono ?_
  rintro y w2 ⟨u, rfl, hi, hb⟩
  have B2 := Lib.hid (B1.out.trans (hb.mono B1.out.size))
  have E2 := Lib.hid (E1.out.on hb)
  have R2 := Lib.hid (R1.out.on hb)
  obtain ⟨ua, uc, rfl, hc⟩ := hi
  have WO : Hid (wor a l RR = (Zo.twi a l RR).head?) := Lib.hid rfl
  have TI : Hid (tim a l e (x, RR) = match wor a l RR with | none => none | some f => if f + e.len ≤ 157785119 then some (x, f, f + e.len) else none) := Lib.hid rfl
  have TMEM := Lib.hid (fun f (q : f ∈ Zo.twi a l RR) => of_decide_eq_true (Zo.twi_mem.1 q).1)
  generalize Zo.twi a l RR = TW at hc WO TMEM
  clear hb K B1 E1 X1 R1
  rcases TW with _ | ⟨f, TW⟩
  · have N0 : Hid (tmO a l e x = none) := Lib.hid (by rw [N.out, TI.out, WO.out]; rfl)
    obtain ⟨⟨r0, r1, r2⟩, q0, q1, q2⟩ := R2.out
    have rl := ecell_in r0
    clear N TI WO TMEM hc
    go_wp2
    refine bodyPost_ret (v := .tuple #[.agg #[.int .i64 0, .int .i64 0, .int .i64 0], .bool false]) (by simp [results, Tryz.results96, go_sem, r0, r1, r2]) rfl ⟨(0, 0, 0), false, rfl, by rw [N0.out]; rfl, ?_⟩
    repeat (first | exact B2.out | refine Below.setCell ?_ wl _)
  · have fm := TMEM.out f List.mem_cons_self
    obtain ⟨fm1, fm2⟩ := fm
    rcases hc with hc | ⟨cb, co, rfl, hc⟩
    · cases hc
    have c0 : w2.cell? ⟨cb, co, none⟩ = some (.int .i64 f) := hc 0 (by simp)
    obtain ⟨n, hn⟩ : ∃ n, n = (f :: TW).length := ⟨_, rfl⟩
    have np : 0 < n := by rw [hn]; simp
    rw [← hn]
    have n0 : ((n : Int) == 0) = false := by simp; omega
    have n1 : (0 : Int) < (n : Int) := by omega
    have e3 := E2.out.1.2.2.2.1
    have N1 : Hid (tmO a l e x = if ist (f + e.len) = true then some (x, f, f + e.len) else none) := Lib.hid (by
      rw [N.out, TI.out, WO.out]
      show (if f + e.len ≤ 157785119 then some (x, f, f + e.len) else none) = _
      unfold ist
      by_cases q : f + e.len ≤ 157785119
      · rw [if_pos q, if_pos (by simp; omega)]
      · rw [if_neg q, if_neg (by simp; omega)])
    have HS : Hid (∀ X, Below w2.heap.size w2 X → X.cell? ⟨cb, co, none⟩ = some (.int .i64 f) ∧ X.cell? ⟨w.heap.size + 1, 3, none⟩ = some (.int .i64 e.len)) := Lib.hid (fun X q => ⟨(q.cell (p := ⟨cb, co, none⟩) (ecell_in c0)).trans c0, (q.cell (p := ⟨w.heap.size + 1, 3, none⟩) (ecell_in e3)).trans e3⟩)
    have RR2 := Lib.hid R2.out
    clear N TI WO TMEM hc hn c0 e3
    go_wp2_with fail
    go_region_held3 (fun X => X.cell? ⟨cb, co, none⟩ = some (.int .i64 f) ∧ X.cell? ⟨w.heap.size + 1, 3, none⟩ = some (.int .i64 e.len))
      (first | exact HS.out _ (Below.drew (Below.refl _ w2)) | exact HS.out _ (Below.alloc (Below.drew (Below.refl _ w2)) (Nat.le_refl _) _) | exact HS.out _ (Below.drew (Below.alloc (Below.refl _ w2) (Nat.le_refl _) _)))
      (fail)
    have we : IntKind.i64.wrap (f + e.len) = f + e.len := by rw [IntKind.wrap_i64]; omega
    rw [we]
    have b5 : Below w2.heap.size w2 (w2.alloc (.cells #[.int .i64 x, .int .i64 f, .int .i64 (f + e.len)] 44)).drew := Below.drew ((Below.refl _ w2).alloc (Nat.le_refl _) _)
    have t0 : (w2.alloc (.cells #[.int .i64 x, .int .i64 f, .int .i64 (f + e.len)] 44)).drew.cell? ⟨w2.heap.size, 0, none⟩ = some (.int .i64 x) := by simp
    have t1 : (w2.alloc (.cells #[.int .i64 x, .int .i64 f, .int .i64 (f + e.len)] 44)).drew.cell? ⟨w2.heap.size, 1, none⟩ = some (.int .i64 f) := by simp
    have t2 : (w2.alloc (.cells #[.int .i64 x, .int .i64 f, .int .i64 (f + e.len)] 44)).drew.cell? ⟨w2.heap.size, 2, none⟩ = some (.int .i64 (f + e.len)) := by simp
    obtain ⟨⟨r0, r1, r2⟩, q0, q1, q2⟩ := RR2.out.on b5
    have B5 := Lib.hid (B2.out.trans (b5.mono B2.out.size))
    generalize (w2.alloc (.cells #[.int .i64 x, .int .i64 f, .int .i64 (f + e.len)] 44)).drew = W5 at b5 t0 t1 t2 r0 r1 r2 q0 q1 q2 B5 ⊢
    have tl := ecell_in t0
    have rl := ecell_in r0
    have HI := Lib.hid (fun W => refTime_any (f + e.len) W)
    generalize ist (f + e.len) = OK at N1 HI
    generalize f + e.len = S at t2 N1 HI
    clear we b5 HS RR2 np n0 n1
    go_wp2_with (go_at_call 16; refine (HI.out _).mono ?_; rintro y w' ⟨rfl, hw⟩; replace hw := hw.symm; subst hw)
    refine bodyPost_ret (v := .tuple #[.agg #[.int .i64 x, .int .i64 f, .int .i64 S], .bool OK]) (by simp [results, Tryz.results96, go_sem, r0, r1, r2]) rfl ⟨(x, f, S), OK, rfl, N1.out, ?_⟩
    repeat (first | exact B5.out | refine Below.setCell ?_ wl _)
end Go.Proofs.YtoncfgfjdlgfcaaGreatDoor
namespace Go.Proofs.YtoncfgfjdlgfcaaGreatDoor
open Go.RowKit Cal Txt

/-- The times that are moved or called off, of so many changes. -/
def chK (A : List Int) (l : List (Int × Int)) (k : Nat) : List Int := ((l.take k).filter (fun c => A.contains c.1)).map (fun c => c.1)
def chD (e : Evt) : List Int := if e.chg.length = 0 then [] else chK (dcL e 1 (e.chg.getD (e.chg.length - 1) (0, 0)).1) e.chg e.chg.length
theorem chK_len (A : List Int) (l : List (Int × Int)) (k : Nat) : (chK A l k).length ≤ k := by
  unfold chK
  rw [List.length_map]
  refine Nat.le_trans (List.length_filter_le _ _) ?_
  rw [List.length_take]; omega
theorem chK_yes {A : List Int} {l : List (Int × Int)} {k : Nat} (h : k < l.length) (q : A.contains (l.getD k (0, 0)).1 = true) : chK A l (k + 1) = chK A l k ++ [(l.getD k (0, 0)).1] := by
  unfold chK
  rw [List.take_succ_eq_append_getElem h, List.filter_append, List.map_append]
  rw [List.getD_eq_getElem?_getD, List.getElem?_eq_getElem h] at q ⊢
  have q' : A.contains l[k].1 = true := q
  simp only [List.filter_cons, q', if_true, List.filter_nil, List.map_cons, List.map_nil]
  rfl
theorem chK_no {A : List Int} {l : List (Int × Int)} {k : Nat} (h : k < l.length) (q : A.contains (l.getD k (0, 0)).1 = false) : chK A l (k + 1) = chK A l k := by
  unfold chK
  rw [List.take_succ_eq_append_getElem h, List.filter_append, List.map_append]
  rw [List.getD_eq_getElem?_getD, List.getElem?_eq_getElem h] at q
  have q' : A.contains l[k].1 = false := q
  simp only [List.filter_cons, q', List.filter_nil]
  simp
theorem chD_mem {e : Evt} (h : evF e = 0) (x : Int) : x ∈ chD e ↔ isE e x ∧ ∃ n, chOf e.chg x = some n := by
  obtain ⟨h1, h2⟩ := evF_chg h
  have pw := cri_pair h2
  unfold chD
  split
  · rename_i q
    have q0 : e.chg = [] := List.eq_nil_of_length_eq_zero q
    constructor
    · intro z; cases z
    · rintro ⟨_, n, hn⟩
      rw [q0] at hn
      cases hn
  · rename_i q
    unfold chK
    rw [List.take_length, List.mem_map]
    constructor
    · rintro ⟨c, hc, rfl⟩
      obtain ⟨c1, c2⟩ := List.mem_filter.1 hc
      have c3 : c.1 ∈ dcL e 1 (e.chg.getD (e.chg.length - 1) (0, 0)).1 := by simpa using c2
      exact ⟨((dcL_mem h).1 c3).1, c.2, chOf_of pw c1⟩
    · rintro ⟨h3, n, hn⟩
      have m := chOf_mem hn
      refine ⟨(x, n), List.mem_filter.2 ⟨m, ?_⟩, rfl⟩
      have tm : ist x = true := by
        have := List.all_eq_true.1 h1 _ m
        unfold chB at this
        rw [Bool.and_eq_true] at this
        exact this.1
      have t1 := of_decide_eq_true tm
      have le : x ≤ (e.chg.getD (e.chg.length - 1) (0, 0)).1 := by
        obtain ⟨i, hi, ei⟩ := List.getElem_of_mem m
        rw [List.getD_eq_getElem?_getD, List.getElem?_eq_getElem (by omega)]
        rcases (by omega : i = e.chg.length - 1 ∨ i < e.chg.length - 1) with z | z
        · subst z
          rw [show (some e.chg[e.chg.length - 1]).getD (0, 0) = e.chg[e.chg.length - 1] from rfl, ei]
          exact Int.le_refl _
        · have := List.pairwise_iff_getElem.1 pw i (e.chg.length - 1) hi (by omega) z
          rw [ei] at this
          show x ≤ (e.chg[e.chg.length - 1]).1
          omega
      have : x ∈ dcL e 1 (e.chg.getD (e.chg.length - 1) (0, 0)).1 := (dcL_mem h).2 ⟨h3, t1.1, le⟩
      simpa using this
set_option maxRecDepth 100000 in
set_option maxHeartbeats 8000000 in
theorem refChg_any (e : Evt) (s : Evs) (w : World) (hv : EvB w e s) (h : evF e = 0) :
    Calls Tryz.prog 57 #[.agg (ecells e s)] w fun x w' => ∃ v, x = .returned v ∧ Ints w' v (chD e) ∧ Below w.heap.size w w' := by
  obtain ⟨i0, hi, hz0, hz1, hz2⟩ := info_parts info_ev_int
  obtain ⟨vm, vd, vw, vp, vo, vn, vc, va⟩ := s
  obtain ⟨ca, cc, ec, hc0⟩ := id hv.2.2.2.2.2.2.1
  have ec2 : vc = .slice ca e.chg.length cc := ec
  subst ec2
  obtain ⟨n, hn⟩ : ∃ n, n = e.chg.length := ⟨_, rfl⟩
  rw [← hn] at hv ⊢
  have HNN := Lib.hid hn
  clear ec hc0
  have B0 := (Below.refl w.heap.size w).alloc (Nat.le_refl _) (.cells (ecells e ⟨vm, vd, vw, vp, vo, vn, .slice ca n cc, va⟩) 33)
  have R0 := EBox.new w e ⟨vm, vd, vw, vp, vo, vn, .slice ca n cc, va⟩ 33
  have HV := Lib.hid (fun W (q : Below w.heap.size w W) => hv.on q)
  obtain ⟨W0, hW⟩ : ∃ W0, W0 = w.alloc (.cells (ecells e ⟨vm, vd, vw, vp, vo, vn, .slice ca n cc, va⟩) 33) := ⟨_, rfl⟩
  rw [← hW] at B0 R0
  have HW := Lib.hid hW
  have HB := Lib.hid B0
  have HE := Lib.hid R0
  have cl := (evF_lens h).2.2.2.2.1
  have H0 := Lib.hid h
  obtain ⟨ca', cc', ec, hc⟩ := (hv.on B0).2.2.2.2.2.2.1
  obtain ⟨rfl, hx, rfl⟩ : ca = ca' ∧ n = e.chg.length ∧ cc = cc' := by simpa using ec
  clear hx
  have c15 : W0.cell? ⟨w.heap.size, 15, none⟩ = some (.slice ca n cc) := R0.2.2.2.2.1
  have rl := R0.lt
  have CD0 : Hid (e.chg.length = 0 → chD e = []) := Lib.hid (fun q => if_pos q)
  have CD1 : Hid (¬ e.chg.length = 0 → chD e = chK (dcL e 1 (e.chg.getD (e.chg.length - 1) (0, 0)).1) e.chg e.chg.length) := Lib.hid (fun q => if_neg q)
  generalize chD e = RES at CD0 CD1 ⊢
  clear hv B0 R0 hW h ec hn
  go_enter Tryz.func57, Tryz.ntmps57
  go_upto_region 1 with fail
  rw [← HW.out]
  clear HW
  rcases Nat.eq_zero_or_pos e.chg.length with l0 | lp
  · have N := Lib.hid (CD0.out l0)
    have n0 : n = 0 := HNN.out.trans l0
    subst n0
    clear HNN
    clear CD0 CD1 hc l0
    go_wp2
    go_ret
    exact ⟨_, rfl, by rw [N.out]; exact nil_int _, HB.out⟩
  rcases hc with hc | ⟨cb, co, rfl, hc⟩
  · rw [hc] at lp; simp at lp
  have hn := HNN.out
  obtain ⟨m, hm⟩ : ∃ m, e.chg.length = m + 1 := ⟨e.chg.length - 1, by omega⟩
  have hm1 : e.chg.length - 1 = m := by omega
  have N := CD1.out (by omega)
  rw [hm1] at N
  have HN := Lib.hid N
  have k1 := (hc m (by omega)).1
  have t1 : ist (e.chg.getD m (0, 0)).1 = true := by
    have mm : e.chg.getD m (0, 0) ∈ e.chg := by rw [List.getD_eq_getElem?_getD, List.getElem?_eq_getElem (by omega)]; exact List.getElem_mem _
    have := List.all_eq_true.1 (evF_chg H0.out).1 _ mm
    unfold chB at this
    rw [Bool.and_eq_true] at this
    exact this.1
  have t2 := of_decide_eq_true t1
  generalize (e.chg.getD m (0, 0)).1 = LA at k1 HN t2
  have KL := Lib.hid (fun X (q : Below W0.heap.size W0 X) => refLocal_any e ⟨vm, vd, vw, vp, vo, vn, .slice (some ⟨cb, co, none⟩) n cc, va⟩ 1 LA X (HV.out _ (HB.out.trans (q.mono HB.out.size))) H0.out (by omega) (by omega))
  have DL := Lib.hid (dbL_len (t := LA) H0.out)
  have HC := Lib.hid hc
  have kl := ecell_in k1
  have HS : Hid (∀ X, Below W0.heap.size W0 X → (X.cell? ⟨w.heap.size, 0, none⟩ = some (.string e.name) ∧ X.cell? ⟨w.heap.size, 1, none⟩ = some (.string e.text) ∧ X.cell? ⟨w.heap.size, 2, none⟩ = some (.int .i64 e.start) ∧ X.cell? ⟨w.heap.size, 3, none⟩ = some (.int .i64 e.len) ∧ X.cell? ⟨w.heap.size, 4, none⟩ = some (.bool e.rep) ∧ X.cell? ⟨w.heap.size, 5, none⟩ = some (.int .i64 e.rule.freq) ∧ X.cell? ⟨w.heap.size, 6, none⟩ = some (.int .i64 e.rule.every) ∧ X.cell? ⟨w.heap.size, 7, none⟩ = some (.int .i64 e.rule.count) ∧ X.cell? ⟨w.heap.size, 8, none⟩ = some (.int .i64 e.rule.till) ∧ X.cell? ⟨w.heap.size, 9, none⟩ = some vm ∧ X.cell? ⟨w.heap.size, 10, none⟩ = some vd ∧ X.cell? ⟨w.heap.size, 11, none⟩ = some vw ∧ X.cell? ⟨w.heap.size, 12, none⟩ = some vp ∧ X.cell? ⟨w.heap.size, 13, none⟩ = some vo ∧ X.cell? ⟨w.heap.size, 14, none⟩ = some vn ∧ X.cell? ⟨w.heap.size, 15, none⟩ = some (.slice (some ⟨cb, co, none⟩) n cc) ∧ X.cell? ⟨w.heap.size, 16, none⟩ = some va) ∧ X.cell? ⟨cb, co + m * 2, none⟩ = some (.int .i64 LA)) := Lib.hid (fun X q => by
    obtain ⟨a0, a1, a2, a3, a4, a5, a6, a7, a8, a9, a10, a11, a12, a13, a14, a15, a16⟩ := ebox17 (HE.out.on q)
    exact ⟨⟨a0, a1, a2, a3, a4, a5, a6, a7, a8, a9, a10, a11, a12, a13, a14, a15, a16⟩, (q.cell (p := ⟨cb, co + m * 2, none⟩) kl).trans k1⟩)
  have lne : ((n : Int) == 0) = false := by simp; omega
  have i1 : (0 : Int) ≤ (m : Int) := by omega
  have i2 : (m : Int) < (n : Int) := by omega
  have i3 : (n : Int) - 1 = (m : Int) := by omega
  have i4 : (0 : Int) < (n : Int) := by omega
  have i5 : 0 < n := by omega
  have nl : n ≤ 1000 := by omega
  have i7 : m < n := by omega
  have i8 : IntKind.i64.wrap (m : Int) = (m : Int) := by rw [IntKind.wrap_i64]; omega
  have i9 : wrap64 (m : Int) = (m : Int) := by unfold wrap64; omega
  clear hc hm hm1 N k1 t1 t2 lp CD0 CD1 kl hn
  go_wp2_with fail
  go_region_held3 (fun X => (X.cell? ⟨w.heap.size, 0, none⟩ = some (.string e.name) ∧ X.cell? ⟨w.heap.size, 1, none⟩ = some (.string e.text) ∧ X.cell? ⟨w.heap.size, 2, none⟩ = some (.int .i64 e.start) ∧ X.cell? ⟨w.heap.size, 3, none⟩ = some (.int .i64 e.len) ∧ X.cell? ⟨w.heap.size, 4, none⟩ = some (.bool e.rep) ∧ X.cell? ⟨w.heap.size, 5, none⟩ = some (.int .i64 e.rule.freq) ∧ X.cell? ⟨w.heap.size, 6, none⟩ = some (.int .i64 e.rule.every) ∧ X.cell? ⟨w.heap.size, 7, none⟩ = some (.int .i64 e.rule.count) ∧ X.cell? ⟨w.heap.size, 8, none⟩ = some (.int .i64 e.rule.till) ∧ X.cell? ⟨w.heap.size, 9, none⟩ = some vm ∧ X.cell? ⟨w.heap.size, 10, none⟩ = some vd ∧ X.cell? ⟨w.heap.size, 11, none⟩ = some vw ∧ X.cell? ⟨w.heap.size, 12, none⟩ = some vp ∧ X.cell? ⟨w.heap.size, 13, none⟩ = some vo ∧ X.cell? ⟨w.heap.size, 14, none⟩ = some vn ∧ X.cell? ⟨w.heap.size, 15, none⟩ = some (.slice (some ⟨cb, co, none⟩) n cc) ∧ X.cell? ⟨w.heap.size, 16, none⟩ = some va) ∧ X.cell? ⟨cb, co + m * 2, none⟩ = some (.int .i64 LA))
    (first | exact HS.out _ hb3 | exact HS.out _ (Below.drew (Below.refl _ W0)))
    (first | (go_at_call 56; refine (KL.out _ (Below.drew (Below.refl _ W0))).mono ?_; rintro y w3 ⟨v3, rfl, hi3, hb3'⟩; have hb3 : Below W0.heap.size W0 w3 := Below.trans (Below.drew (Below.refl _ W0)) hb3'; have IA := Lib.hid hi3; clear hb3' hi3))
  have HB3 := Lib.hid (HB.out.trans (hb3.mono HB.out.size))
  have E3 := Lib.hid (HE.out.on hb3)
  have AN := Lib.hid (evL_len (fr := 1) (t := LA) H0.out (show (dbL e LA).length ≤ 200000 by have := DL.out; omega))
  have EA : evL (dbL e LA) e 1 LA = dcL e 1 LA := rfl
  rw [EA] at AN
  have C3 := Lib.hid (fun k (q : k < e.chg.length) => (hb3.cell (p := ⟨cb, co + k * 2, none⟩) (ecell_in (HC.out k q).1)).trans (HC.out k q).1)
  have nn := HNN.out
  have SZ := Lib.hid HB3.out.size
  generalize dcL e 1 LA = AL at IA HN AN
  clear hb3 HS KL HB HE DL HC lne i1 i2 i3 i4 i5 i7 i8 i9 EA
  go_wp2_with fail
  go_loopw [4, 5, 6] (fun lv iv _ wr => ∃ k : Nat, k ≤ n ∧ iv = .int .i64 k ∧ wr.ownsRow w3.heap.size 3 1 lv (chK AL e.chg k).length (nums (chK AL e.chg k)) ∧ Below w3.heap.size w3 wr) (fun _ iv _ _ => n - (intOf iv).toNat)
  case atStart => exact ⟨0, Nat.zero_le _, rfl, World.ownsRow_nil _ _ _ _, Below.refl _ _⟩
  case round =>
    obtain ⟨k, hk, rfl, hown, hB⟩ := hrel
    have HO := Lib.hid hown
    have HBr := Lib.hid hB
    have d15 : wr.cell? ⟨w.heap.size, 15, none⟩ = some (.slice (some ⟨cb, co, none⟩) n cc) := (E3.out.on hB).2.2.2.2.1
    have dl := ecell_in d15
    have fl := chK_len AL e.chg k
    by_cases hlt : k < n
    · have ck := (hB.cell (p := ⟨cb, co + k * 2, none⟩) (ecell_in (C3.out k (by omega)))).trans (C3.out k (by omega))
      have kl := ecell_in ck
      have KY := Lib.hid (fun q => chK_yes (A := AL) (l := e.chg) (k := k) (by omega) q)
      have KN := Lib.hid (fun q => chK_no (A := AL) (l := e.chg) (k := k) (by omega) q)
      generalize (e.chg.getD k (0, 0)).1 = x at ck KY KN
      have KI := Lib.hid (Zo.refIn_any v3 AL x wr (IA.out.on hB) (by have := AN.out; omega))
      generalize chK AL e.chg k = XS at HO fl KY KN hown
      have sz := hB.size
      clear hown hB nn
      rcases hi1 : AL.contains x with _ | _
      · have N1 := Lib.hid (KN.out hi1)
        rw [hi1] at KI
        clear KY KN hi1
        go_wp2_with (go_at_call 103; refine KI.out.mono ?_; rintro y w5 ⟨rfl, hw⟩; replace hw := hw.symm; subst hw)
        go_roundw
        case rel => exact ⟨k + 1, by omega, by go_num, by rw [N1.out]; exact HO.out, HBr.out⟩
        case measure => simp [intOf]; omega
      · have N1 := Lib.hid (KY.out hi1)
        rw [hi1] at KI
        clear KY KN hi1
        go_wp2_with (first | (go_at_call 103; refine KI.out.mono ?_; rintro y w5 ⟨rfl, hw⟩; replace hw := hw.symm; subst hw) | (at_builtin; refine wpList_append_own _ rfl _ _ 26 rfl w3.heap.size 3 i0 (.int .i64 0) 1 8 Tryz.underlying26 hi hz0 hz1 hz2 rfl (by decide) _ _ _ rfl (HO.out.alloc _) ⟨wr.heap.size, 0, none⟩ 1 1 [.int .i64 x] rfl rfl ?d1 ?d2 ?d3 ?d4 ?d5 ?_))
        case d1 =>
          intro j u hj
          match j, hj with
          | 0, hj => simp at hj; subst hj; simp [Addr.add]
        case d2 => intro u hu; simp at hu; subst hu; rfl
        case d3 => unfold maxLen; omega
        case d4 => omega
        case d5 => simp; omega
        intro v' w5 hown' hgrow _
        have Q2 := Lib.hid (ow_grow sz HBr.out (Below.refl _ _) HO.out hgrow)
        have Q1 := Lib.hid hown'
        rw [← nums_snoc] at Q1
        clear hown' hgrow HO ck
        go_wp2
        go_roundw
        case rel => exact ⟨k + 1, by omega, by go_num, by rw [N1.out, List.length_append]; exact Q1.out, Q2.out⟩
        case measure => simp [intOf]; omega
    · have ek : k = e.chg.length := by omega
      have IS0 := ow_ints HO.out
      rw [ek, ← HN.out] at IS0
      have ZZ := Lib.hid (And.intro IS0 (HB3.out.trans (hB.mono HB3.out.size)))
      clear IS0 HO hown ek hB
      go_wp2
      go_ret
      exact ⟨_, rfl, ZZ.out.1, ZZ.out.2⟩
end Go.Proofs.YtoncfgfjdlgfcaaGreatDoor
namespace Go.Proofs.YtoncfgfjdlgfcaaGreatDoor
open Go.RowKit Cal Txt

/-- What counts of a stretch. -/
def pkO (a : Int) (l : List (Int × Int)) (e : Evt) (fr t : Int) (x : Int) : Option Tm := match tmO a l e x with | none => none | some y => if fr ≤ y.2.1 ∧ y.2.1 < t then some y else none
theorem tmO_some {a : Int} {l : List (Int × Int)} {e : Evt} {x : Int} {y : Tm} (h : tmO a l e x = some y) : y.1 = x ∧ ∃ r, rea e x = some r ∧ tim a l e (x, r) = some y := by
  unfold tmO at h
  split at h
  · cases h
  · rename_i r hr
    exact ⟨(tim_some h).1, r, hr, h⟩
theorem pkO_some {a : Int} {l : List (Int × Int)} {e : Evt} {fr t x : Int} {y : Tm} : pkO a l e fr t x = some y ↔ tmO a l e x = some y ∧ fr ≤ y.2.1 ∧ y.2.1 < t := by
  unfold pkO
  split
  · rename_i q; rw [q]; simp
  · rename_i z q
    rw [q]
    constructor
    · intro h
      split at h
      · rename_i g; cases h; exact ⟨rfl, g⟩
      · cases h
    · rintro ⟨h, g⟩
      cases h
      rw [if_pos g]
/-- How far the list has come. -/
def BtI (a : Int) (l : List (Int × Int)) (e : Evt) (fr t : Int) (p : List Int) (i : Nat) (O : List Tm) : Prop := O.Pairwise ltT ∧ (∀ y, y ∈ O ↔ ∃ x, x ∈ p.take i ∧ pkO a l e fr t x = some y) ∧ O.length ≤ i
theorem BtI.end {a : Int} {l : List (Int × Int)} {e : Evt} {fr t : Int} {p : List Int} {O : List Tm} (h : evF e = 0) (hz : Zo.zf a l = 0) (hp : ∀ x, x ∈ p ↔ x ∈ dcL e (fr - 3000) (t + 3000) ∨ x ∈ chD e) (hO : BtI a l e fr t p p.length O) : O = tmA a l e fr t := by
  refine tm_ext hO.1 (tmA_rise h) (fun y => ?_)
  rw [hO.2.1 y, tmA_mem h hz, List.take_length]
  unfold isTm
  constructor
  · rintro ⟨x, hx, hq⟩
    obtain ⟨q1, q2⟩ := pkO_some.1 hq
    obtain ⟨rfl, r, hr, ht⟩ := tmO_some q1
    refine ⟨?_, ⟨r, hr, ht⟩, q2⟩
    rcases (hp _).1 hx with z | z
    · exact ((dcL_mem h).1 z).1
    · exact ((chD_mem h _).1 z).1
  · rintro ⟨h1, ⟨r, hr, ht⟩, h2, h3⟩
    refine ⟨y.1, (hp _).2 ?_, pkO_some.2 ⟨by unfold tmO; rw [hr]; exact ht, h2, h3⟩⟩
    rcases q : chOf e.chg y.1 with _ | n
    · left
      have hr2 : r = y.1 := by
        unfold rea at hr
        rw [q] at hr
        simpa using hr.symm
      obtain ⟨_, t1, _, _⟩ := tim_some ht
      obtain ⟨_, t3⟩ := Zo.twi_mem.1 t1
      have t4 := Zo.zah_in hz (Zo.beg_le y.2.1 l)
      refine (dcL_mem h).2 ⟨h1, ?_, ?_⟩
      · simp only at t3; omega
      · simp only at t3; omega
    · exact Or.inr ((chD_mem h _).2 ⟨h1, n, q⟩)
theorem BtI.start {a : Int} {l : List (Int × Int)} {e : Evt} {fr t : Int} {p : List Int} : BtI a l e fr t p 0 [] := ⟨List.Pairwise.nil, fun y => by simp, Nat.le_refl _⟩
theorem BtI.skip {a : Int} {l : List (Int × Int)} {e : Evt} {fr t : Int} {p : List Int} {i : Nat} {O : List Tm} (h : BtI a l e fr t p i O) (hi : i < p.length) (hq : pkO a l e fr t (p.getD i 0) = none) : BtI a l e fr t p (i + 1) O := by
  refine ⟨h.1, fun y => ?_, by have := h.2.2; omega⟩
  rw [h.2.1 y, List.take_succ_eq_append_getElem hi]
  rw [List.getD_eq_getElem?_getD, List.getElem?_eq_getElem hi] at hq
  have hq' : pkO a l e fr t p[i] = none := hq
  constructor
  · rintro ⟨x, hx, hy⟩; exact ⟨x, List.mem_append_left _ hx, hy⟩
  · rintro ⟨x, hx, hy⟩
    rcases List.mem_append.1 hx with z | z
    · exact ⟨x, z, hy⟩
    · rw [List.mem_singleton.1 z, hq'] at hy; cases hy
/-- A Time is put in. -/
theorem ins_rise {O : List Tm} {y : Tm} {k : Nat} (hO : O.Pairwise ltT) (hk : k ≤ O.length) (h1 : ∀ j, k ≤ j → j < O.length → ltT y (O.getD j (0, 0, 0))) (h2 : 0 < k → ltT (O.getD (k - 1) (0, 0, 0)) y) : (O.take k ++ y :: O.drop k).Pairwise ltT := by
  have tr : ∀ a b c : Tm, ltT a b → ltT b c → ltT a c := fun a b c p q => by unfold ltT at *; omega
  have lo : ∀ x ∈ O.take k, ltT x y := fun x hx => by
    obtain ⟨i, hi, rfl⟩ := List.getElem_of_mem hx
    rw [List.length_take] at hi
    rw [List.getElem_take]
    have hk1 := h2 (by omega)
    rw [List.getD_eq_getElem?_getD, List.getElem?_eq_getElem (by omega)] at hk1
    rcases (by omega : i = k - 1 ∨ i < k - 1) with z | z
    · subst z; exact hk1
    · exact tr _ _ _ (List.pairwise_iff_getElem.1 hO i (k - 1) (by omega) (by omega) z) hk1
  have up : ∀ x ∈ O.drop k, ltT y x := fun x hx => by
    obtain ⟨i, hi, rfl⟩ := List.getElem_of_mem hx
    rw [List.length_drop] at hi
    rw [List.getElem_drop]
    have := h1 (k + i) (by omega) (by omega)
    rwa [List.getD_eq_getElem?_getD, List.getElem?_eq_getElem (by omega)] at this
  rw [List.pairwise_append, List.pairwise_cons]
  refine ⟨hO.sublist (List.take_sublist k O), ⟨up, hO.sublist (List.drop_sublist k O)⟩, fun x hx z hz => ?_⟩
  rcases List.mem_cons.1 hz with rfl | hz
  · exact lo x hx
  · exact tr _ _ _ (lo x hx) (up z hz)
theorem BtI.put {a : Int} {l : List (Int × Int)} {e : Evt} {fr t : Int} {p : List Int} {i k : Nat} {O : List Tm} {y : Tm} (h : BtI a l e fr t p i O) (hi : i < p.length) (hq : pkO a l e fr t (p.getD i 0) = some y) (hk : k ≤ O.length) (h1 : ∀ j, k ≤ j → j < O.length → ltT y (O.getD j (0, 0, 0))) (h2 : 0 < k → ltT (O.getD (k - 1) (0, 0, 0)) y) : BtI a l e fr t p (i + 1) (O.take k ++ y :: O.drop k) := by
  refine ⟨ins_rise h.1 hk h1 h2, fun z => ?_, by have := h.2.2; simp; omega⟩
  rw [List.getD_eq_getElem?_getD, List.getElem?_eq_getElem hi] at hq
  have hq' : pkO a l e fr t p[i] = some y := hq
  have mem : z ∈ O.take k ++ y :: O.drop k ↔ z ∈ O ∨ z = y := by
    rw [List.mem_append, List.mem_cons]
    constructor
    · rintro (q | q | q)
      · exact Or.inl (List.mem_of_mem_take q)
      · exact Or.inr q
      · exact Or.inl (List.mem_of_mem_drop q)
    · rintro (q | q)
      · rw [← List.take_append_drop k O, List.mem_append] at q
        rcases q with q | q
        · exact Or.inl q
        · exact Or.inr (Or.inr q)
      · exact Or.inr (Or.inl q)
  rw [mem, h.2.1 z, List.take_succ_eq_append_getElem hi]
  constructor
  · rintro (⟨x, hx, hy⟩ | rfl)
    · exact ⟨x, List.mem_append_left _ hx, hy⟩
    · exact ⟨p[i], List.mem_append_right _ (List.mem_singleton.2 rfl), hq'⟩
  · rintro ⟨x, hx, hy⟩
    rcases List.mem_append.1 hx with q | q
    · exact Or.inl ⟨x, q, hy⟩
    · rw [List.mem_singleton.1 q, hq'] at hy
      exact Or.inr (Option.some.inj hy).symm
/-- Those that were put in are others. -/
theorem BtI.other {a : Int} {l : List (Int × Int)} {e : Evt} {fr t : Int} {p : List Int} {i : Nat} {O : List Tm} {y : Tm} (h : BtI a l e fr t p i O) (hp : p.Pairwise (· < ·)) (hi : i < p.length) (hq : pkO a l e fr t (p.getD i 0) = some y) {j : Nat} (hj : j < O.length) : (O.getD j (0, 0, 0)).1 ≠ y.1 := by
  have m : O.getD j (0, 0, 0) ∈ O := by rw [List.getD_eq_getElem?_getD, List.getElem?_eq_getElem hj]; exact List.getElem_mem hj
  obtain ⟨x, hx, hy⟩ := (h.2.1 _).1 m
  rw [(tmO_some (pkO_some.1 hy).1).1, (tmO_some (pkO_some.1 hq).1).1, List.getD_eq_getElem?_getD, List.getElem?_eq_getElem hi]
  obtain ⟨n, hn, rfl⟩ := List.getElem_of_mem hx
  rw [List.length_take] at hn
  rw [List.getElem_take]
  have := List.pairwise_iff_getElem.1 hp n i (by omega) hi (by omega)
  show p[n] ≠ p[i]
  omega
/-- A Time is stored into a row that is owned. -/
theorem own_set3 {w : World} {n0 g cap n : Nat} {C : List Tm} (h : w.ownsRow n0 44 3 (.slice (some ⟨g, 0, none⟩) n cap) n (prt C)) (j : Nat) (hj : j < C.length) (y : Tm) : (w.setCells g (j * 3) (encT y)).ownsRow n0 44 3 (.slice (some ⟨g, 0, none⟩) n cap) n (prt (C.set j y)) := by
  have h1 := (h.stored (j * 3) (.int .i64 y.1)).1
  have h2 := (h1.stored (j * 3 + 1) (.int .i64 y.2.1)).1
  have h3 := (h2.stored (j * 3 + 1 + 1) (.int .i64 y.2.2)).1
  have e : (((prt C).set (j * 3) (.int .i64 y.1)).set (j * 3 + 1) (.int .i64 y.2.1)).set (j * 3 + 1 + 1) (.int .i64 y.2.2) = prt (C.set j y) := by
    apply List.ext_getElem?
    intro i
    by_cases hi : i < C.length * 3
    · have q := prt_at (C.set j y) (i / 3) (i % 3) (by rw [List.length_set]; omega) (by omega)
      have q0 := prt_at C (i / 3) (i % 3) (by omega) (by omega)
      rw [show i / 3 * 3 + i % 3 = i by omega] at q q0
      have li : i < (prt C).length := by rw [prt_len]; exact hi
      rw [q]
      by_cases e1 : i / 3 = j
      · have e2 : (C.set j y).getD (i / 3) (0, 0, 0) = y := by rw [e1, List.getD_eq_getElem?_getD, List.getElem?_set_self hj]; rfl
        rw [e2]
        rcases (by omega : i = j * 3 ∨ i = j * 3 + 1 ∨ i = j * 3 + 1 + 1) with z | z | z
        · subst z
          rw [List.getElem?_set_ne (by omega), List.getElem?_set_ne (by omega), List.getElem?_set_self li, show j * 3 % 3 = 0 by omega]
          rfl
        · subst z
          rw [List.getElem?_set_ne (by omega), List.getElem?_set_self (by rw [List.length_set]; exact li), show (j * 3 + 1) % 3 = 1 by omega]
          rfl
        · subst z
          rw [List.getElem?_set_self (by rw [List.length_set, List.length_set]; exact li), show (j * 3 + 1 + 1) % 3 = 2 by omega]
          rfl
      · have e2 : (C.set j y).getD (i / 3) (0, 0, 0) = C.getD (i / 3) (0, 0, 0) := by rw [List.getD_eq_getElem?_getD, List.getElem?_set_ne (by omega), ← List.getD_eq_getElem?_getD]
        rw [e2, ← q0, List.getElem?_set_ne (by omega), List.getElem?_set_ne (by omega), List.getElem?_set_ne (by omega)]
    · rw [List.getElem?_eq_none (by simp [prt_len]; omega), List.getElem?_eq_none (by simp [prt_len]; omega)]
  rw [e] at h3
  exact h3
/-- A row with a gap that goes down. -/
theorem gap_set {O : List Tm} {g : Tm} {j : Nat} (h0 : 0 < j) (hj : j ≤ O.length) : (O.take j ++ g :: O.drop j).set j (O.getD (j - 1) (0, 0, 0)) = O.take (j - 1) ++ (O.getD (j - 1) (0, 0, 0)) :: O.drop (j - 1) := by
  have l1 : (O.take j).length = j := by rw [List.length_take]; omega
  rw [List.set_append, if_neg (by omega), l1, Nat.sub_self, List.set_cons_zero]
  obtain ⟨m, rfl⟩ : ∃ m, j = m + 1 := ⟨j - 1, by omega⟩
  rw [Nat.add_sub_cancel]
  have e1 : O.getD m (0, 0, 0) = O[m] := by rw [List.getD_eq_getElem?_getD, List.getElem?_eq_getElem (by omega)]; rfl
  have e2 : O.drop m = O[m] :: O.drop (m + 1) := List.drop_eq_getElem_cons (by omega)
  rw [e1, e2, List.take_succ_eq_append_getElem (show m < O.length by omega), List.append_assoc]
  rfl
theorem gap_fill {O : List Tm} {g y : Tm} {j : Nat} (hj : j ≤ O.length) : (O.take j ++ g :: O.drop j).set j y = O.take j ++ y :: O.drop j := by
  have l1 : (O.take j).length = j := by rw [List.length_take]; omega
  rw [List.set_append, if_neg (by omega), l1, Nat.sub_self, List.set_cons_zero]
theorem gap_at {O : List Tm} {g : Tm} {j : Nat} (h0 : 0 < j) (hj : j ≤ O.length) : (O.take j ++ g :: O.drop j).getD (j - 1) (0, 0, 0) = O.getD (j - 1) (0, 0, 0) := by
  rw [List.getD_eq_getElem?_getD, List.getElem?_append_left (by rw [List.length_take]; omega), List.getElem?_take, if_pos (by omega), ← List.getD_eq_getElem?_getD]
theorem gap_start (O : List Tm) (y : Tm) : O ++ [y] = O.take O.length ++ y :: O.drop O.length := by simp
end Go.Proofs.YtoncfgfjdlgfcaaGreatDoor
