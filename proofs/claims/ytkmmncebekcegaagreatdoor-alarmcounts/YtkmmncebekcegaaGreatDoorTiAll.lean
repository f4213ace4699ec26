/-
  What is proved here: what times.all answers of an event and a zone that are right (a contract over the translation).
-/
import Derived.Test.YtkmmncebekcegaaGreatDoorTiSort
namespace Go.Proofs.YtkmmncebekcegaaGreatDoor
open Go.RowKit Cal Txt

theorem info_ti_tm : (Tryz.prog.info? 54).map (fun i => (i.zero, i.size, i.bytes)) = some (some (.agg #[.int .i64 0, .int .i64 0, .int .i64 0]), 3, 24) := by kernel_rfl
/-- What has been gathered of so many. -/
def pks (f : Int × Int → Option Tm) (k : Nat) (l : List (Int × Int)) : List Tm := (l.take k).filterMap f
theorem pks_len (f : Int × Int → Option Tm) (k : Nat) (l : List (Int × Int)) : (pks f k l).length ≤ k := by
  unfold pks
  refine Nat.le_trans (List.length_filterMap_le _ _) ?_
  rw [List.length_take]; omega
theorem pks_some {f : Int × Int → Option Tm} {k : Nat} {l : List (Int × Int)} (h : k < l.length) {y : Tm} (hy : f (l.getD k (0, 0)) = some y) : pks f (k + 1) l = pks f k l ++ [y] := by
  unfold pks
  rw [List.take_succ_eq_append_getElem h, List.filterMap_append]
  rw [List.getD_eq_getElem?_getD, List.getElem?_eq_getElem h] at hy
  have hy' : f l[k] = some y := hy
  simp [hy']
theorem pks_none {f : Int × Int → Option Tm} {k : Nat} {l : List (Int × Int)} (h : k < l.length) (hy : f (l.getD k (0, 0)) = none) : pks f (k + 1) l = pks f k l := by
  unfold pks
  rw [List.take_succ_eq_append_getElem h, List.filterMap_append]
  rw [List.getD_eq_getElem?_getD, List.getElem?_eq_getElem h] at hy
  have hy' : f l[k] = none := hy
  simp [hy']
theorem mom_len {e : Evt} {fr t : Int} (h : evF e = 0) : (mom e fr t).length ≤ 200200 := by
  unfold mom
  rw [List.length_append]
  have := sty_len (fr := fr) (t := t) h
  have := mvd_len (fr := fr) (t := t) h
  omega
theorem pck_no {a : Int} {l : List (Int × Int)} {e : Evt} {fr t : Int} {c : Int × Int} (h : tim a l e c = none) : pck a l e fr t c = none := by unfold pck; rw [h]
theorem pck_out {a : Int} {l : List (Int × Int)} {e : Evt} {fr t : Int} {c : Int × Int} {y : Tm} (h : tim a l e c = some y) (k : ¬ (fr ≤ y.2.1 ∧ y.2.1 < t)) : pck a l e fr t c = none := by unfold pck; rw [h]; exact if_neg k
theorem pck_in {a : Int} {l : List (Int × Int)} {e : Evt} {fr t : Int} {c : Int × Int} {y : Tm} (h : tim a l e c = some y) (k : fr ≤ y.2.1 ∧ y.2.1 < t) : pck a l e fr t c = some y := by unfold pck; rw [h]; exact if_pos k
/-- A row of Times, and no error. -/
def TmsA (w : World) (l : List Tm) (x : Ending) (w' : World) : Prop := ∃ u, x = .returned (.tuple #[u, .nilIface]) ∧ Tms w' u l ∧ Below w.heap.size w w' ∧ w'.ownsRow w.heap.size 54 3 u l.length (prt l)
set_option maxRecDepth 100000 in
set_option maxHeartbeats 8000000 in
theorem tall_in (a : Int) (l : List (Int × Int)) (v : Value) (e : Evt) (s : Evs) (fr t F T : Int) (w : World) (hz : ZoneIn w v a l) (hf : Zo.zf a l = 0) (hv : EvB w e s) (hT : Tab w) (h : evF e = 0) (hF : max fr 1 = F) (hT2 : min t 157785120 = T) (hFT : F < T) :
    Calls Tryz.prog 27 #[v, .agg (ecells e s), .int .i64 fr, .int .i64 t] w (TmsA w (tmL a l e F T)) := by
  have ho : okS F T := by unfold okS; omega
  obtain ⟨i0, hi, hz0, hz1, hz2⟩ := info_parts info_ti_tm
  have HZ := Lib.hid (fun W (q : Below w.heap.size w W) => hz.on q)
  have HV := Lib.hid (fun W (q : Below w.heap.size w W) => hv.on q)
  have HT := Lib.hid (fun W (q : Below w.heap.size w W) => hT.below q)
  obtain ⟨sa, sc, rfl⟩ := hz.form
  obtain ⟨W1, hW1⟩ : ∃ W1, W1 = w.alloc (.cells #[.int .i64 a, .slice sa l.length sc] 24) := ⟨_, rfl⟩
  have g0 : W1.cell? ⟨w.heap.size, 0, none⟩ = some (.int .i64 a) ∧ W1.cell? ⟨w.heap.size, 1, none⟩ = some (.slice sa l.length sc) := by rw [hW1]; constructor <;> simp
  have z1 : W1.heap.size = w.heap.size + 1 := by rw [hW1, World.size_alloc]
  have b1 : Below w.heap.size w W1 := by rw [hW1]; exact (Below.refl _ _).alloc (Nat.le_refl _) _
  have R0 := EBox.new W1 e s 32
  obtain ⟨W0, hW0⟩ : ∃ W0, W0 = W1.alloc (.cells (ecells e s) 32) := ⟨_, rfl⟩
  have f0 : Two W0 w.heap.size a 0 ∨ (W0.cell? ⟨w.heap.size, 0, none⟩ = some (.int .i64 a) ∧ W0.cell? ⟨w.heap.size, 1, none⟩ = some (.slice sa l.length sc)) := Or.inr (by rw [hW0]; exact ⟨Lib.cell?_alloc_some _ g0.1, Lib.cell?_alloc_some _ g0.2⟩)
  have f1 : W0.cell? ⟨w.heap.size, 0, none⟩ = some (.int .i64 a) ∧ W0.cell? ⟨w.heap.size, 1, none⟩ = some (.slice sa l.length sc) := by rw [hW0]; exact ⟨Lib.cell?_alloc_some _ g0.1, Lib.cell?_alloc_some _ g0.2⟩
  have B0 : Below w.heap.size w W0 := by rw [hW0]; exact b1.alloc b1.size _
  rw [← hW0, z1] at R0
  have hW : W0 = (w.alloc (.cells #[.int .i64 a, .slice sa l.length sc] 24)).alloc (.cells (ecells e s) 32) := by rw [hW0, hW1]
  have HW := Lib.hid hW
  have HB := Lib.hid B0
  have HE := Lib.hid R0
  have HC := Lib.hid f1
  have K := Lib.hid (real_any e s (F - 900) (T + 900) W0 (hv.on B0) (hT.below B0) h)
  have EM : mom e (loE (F - 900)) (hiE (T + 900)) = mom e (lo9 F) (hi9 T) := rfl
  rw [EM] at K
  obtain ⟨i1, i2⟩ := lo9_time ho
  have MI := Lib.hid (fun c (q : c ∈ mom e (lo9 F) (hi9 T)) => rea_time h ((mom_mem h i1 i2).1 q).1 ((mom_mem h i1 i2).1 q).2.1)
  have ML := mom_len (fr := lo9 F) (t := hi9 T) h
  have PE : Hid (pks (pck a l e F T) (mom e (lo9 F) (hi9 T)).length (mom e (lo9 F) (hi9 T)) = tms a l e F T) := Lib.hid (by unfold pks tms; rw [List.take_length])
  have TO := Lib.hid (fun b (q : (tms a l e F T).Perm b) => tmL_of (a := a) (l := l) h ho q)
  have KT := Lib.hid (fun W (q : Below w.heap.size w W) c (hc : ist c.2 = true) => timeOf_any a l _ e c W (HZ.out _ q) hf hc (evF_lens h).2.2.2.2.2.1 (evF_lens h).2.2.2.2.2.2)
  have o1 : 1 ≤ F := ho.1
  have o2 : F ≤ 157785120 := ho.2.1
  have o3 : 1 ≤ T := ho.2.2.1
  have o4 : T ≤ 200000000 := ho.2.2.2
  generalize tmL a l e F T = TL at TO ⊢
  generalize tms a l e F T = TS at PE TO
  generalize mom e (lo9 F) (hi9 T) = MO at K MI ML PE
  clear hz hf hv hT h ho g0 z1 b1 R0 hW hW0 hW1 W1 f0 f1 B0 EM i1 i2
  go_enter Tryz.func27, Tryz.ntmps27
  go_upto_region 1 with fail
  rw [← HW.out]
  clear HW
  go_upto_region 2 with (go_at_call 54; refine (clast_any _).mono ?_; rintro y w' ⟨rfl, hw⟩; replace hw := hw.symm; subst hw)
  clear hF hT2
  go_wp2_with (refine ev_load ?h1 (.tmp 5) ?h2 (w.heap.size + 1) e s ?h3 HE.out ?h4; (case h1 => rfl); (case h2 => rfl); (case h3 => rfl))
  clear hFT
  refine K.out.mono ?_
  rintro y w1 ⟨v1, rfl, hown, hb⟩
  have B1 := Lib.hid (HB.out.trans (hb.mono HB.out.size))
  have E1 := Lib.hid (HE.out.on hb)
  have C1 := Lib.hid (And.intro ((hb.cell (p := ⟨w.heap.size, 0, none⟩) (ecell_in HC.out.1)).trans HC.out.1) ((hb.cell (p := ⟨w.heap.size, 1, none⟩) (ecell_in HC.out.1)).trans HC.out.2))
  obtain ⟨ma, mc, rfl, mcell⟩ := Zo.own_prs hown
  have LC := Lib.hid mcell
  clear hb hown K HB HE HC mcell
  go_wp2_with fail
  go_loopw [12, 14, 15, 16, 40] (fun lv _ _ _ iv wr => ∃ k : Nat, k ≤ MO.length ∧ iv = .int .i64 k ∧ wr.ownsRow w1.heap.size 54 3 lv (pks (pck a l e F T) k MO).length (prt (pks (pck a l e F T) k MO)) ∧ Below w1.heap.size w1 wr) (fun _ _ _ _ iv _ => MO.length - (intOf iv).toNat)
  case atStart => exact ⟨0, Nat.zero_le _, rfl, World.ownsRow_nil _ _ _ _, Below.refl _ _⟩
  case round =>
    obtain ⟨k, hk, rfl, hown, hB⟩ := hrel
    have HO := Lib.hid hown
    have HBa := Lib.hid hB
    have fl := pks_len (pck a l e F T) k MO
    clear hown
    by_cases hlt : k < MO.length
    · rcases LC.out with hc | ⟨lb, lo, rfl, hc⟩
      · rw [hc] at hlt; simp at hlt
      obtain ⟨k0, k1⟩ := hc k hlt
      have q0 := (hB.cell (p := ⟨lb, lo + k * 2, none⟩) (ecell_in k0)).trans k0
      have q1 := (hB.cell (p := ⟨lb, lo + k * 2 + 1, none⟩) (ecell_in k0)).trans k1
      have lb2 := ecell_in q0
      have ci := MI.out (MO.getD k (0, 0)) (getD_mem hlt)
      have PS := Lib.hid (fun y q => pks_some (f := pck a l e F T) hlt (y := y) q)
      have PN := Lib.hid (fun q => pks_none (f := pck a l e F T) hlt q)
      obtain ⟨X, hX⟩ : ∃ X, X = MO.getD k (0, 0) := ⟨_, rfl⟩
      rw [← hX] at q0 q1 ci PS PN
      have b3 : Below wr.heap.size wr (wr.alloc (.cells #[.int .i64 X.1, .int .i64 X.2] 74)) := (Below.refl _ _).alloc (Nat.le_refl _) _
      have T3 := Two.new wr X.1 X.2 74
      obtain ⟨W3, hW3⟩ : ∃ W3, W3 = wr.alloc (.cells #[.int .i64 X.1, .int .i64 X.2] 74) := ⟨_, rfl⟩
      rw [← hW3] at b3 T3
      have HW3 := Lib.hid hW3
      have BW := Lib.hid (HBa.out.trans (b3.mono HBa.out.size))
      have K := Lib.hid (KT.out W3 (B1.out.trans (BW.out.mono B1.out.size)) X ci)
      have d3 := (E1.out.on BW.out).1.2.2.2.1
      have dl := (E1.out.on BW.out).lt
      have z0 := (BW.out.cell (p := ⟨w.heap.size, 0, none⟩) (ecell_in C1.out.1)).trans C1.out.1
      have z1 := (BW.out.cell (p := ⟨w.heap.size, 1, none⟩) (ecell_in C1.out.1)).trans C1.out.2
      have zl := ecell_in z0
      have t0 := T3.1
      have t1 := T3.2
      have tl := T3.lt
      have HO3 := Lib.hid (ow_below HO.out b3)
      have B3 := Lib.hid b3
      have NN := Lib.hid (fun (q : tim a l e X = none) => pck_no (fr := F) (t := T) q)
      have NO := Lib.hid (fun y (q : tim a l e X = some y) => @pck_out a l e F T X y q)
      have NI := Lib.hid (fun y (q : tim a l e X = some y) => @pck_in a l e F T X y q)
      generalize tim a l e X = TX at K NN NO NI
      generalize pck a l e F T X = PX at NN NO NI PS PN
      generalize pks (pck a l e F T) k MO = xs at HO fl PS PN HO3
      clear hc k0 k1 hX hB b3 T3 hW3 ci
      go_upto_region 11 with fail
      rw [← HW3.out]
      clear HW3 q0 q1 lb2
      go_wp2_with fail
      clear d3 dl z0 z1 zl t0 t1 tl
      refine K.out.mono ?_
      rintro y w4 ⟨rfl, hb⟩
      rcases TX with _ | Y
      · have N1 := Lib.hid (PN.out (NN.out rfl))
        clear NN NO NI PS PN
        dsimp only [tmR]
        have b5 : Below W3.heap.size W3 (w4.alloc (.cells #[.int .i64 0, .int .i64 0, .int .i64 0] 54)) := hb.alloc hb.size _
        have bw5 : Below wr.heap.size wr (w4.alloc (.cells #[.int .i64 0, .int .i64 0, .int .i64 0] 54)) := B3.out.trans (b5.mono B3.out.size)
        have HO5 := Lib.hid (ow_below HO.out bw5)
        have Q5 := Lib.hid (HBa.out.trans (bw5.mono HBa.out.size))
        have B5 := Lib.hid bw5
        have T5 : (w4.alloc (.cells #[.int .i64 0, .int .i64 0, .int .i64 0] 54)).cell? ⟨w4.heap.size, 0, none⟩ = some (.int .i64 0) ∧ (w4.alloc (.cells #[.int .i64 0, .int .i64 0, .int .i64 0] 54)).cell? ⟨w4.heap.size, 1, none⟩ = some (.int .i64 0) ∧ (w4.alloc (.cells #[.int .i64 0, .int .i64 0, .int .i64 0] 54)).cell? ⟨w4.heap.size, 2, none⟩ = some (.int .i64 0) := by refine ⟨?_, ?_, ?_⟩ <;> simp
        obtain ⟨W5, hW5⟩ : ∃ W5, W5 = w4.alloc (.cells #[.int .i64 0, .int .i64 0, .int .i64 0] 54) := ⟨_, rfl⟩
        rw [← hW5] at HO5 Q5 B5 T5
        have HW5 := Lib.hid hW5
        clear hb b5 bw5 hW5 K
        go_upto_region 12 with fail
        rw [← HW5.out]
        clear HW5
        obtain ⟨u0, u1, u2⟩ := T5
        have ul := ecell_in u0
        go_wp2
        go_roundw
        case rel => exact ⟨k + 1, by omega, by go_num, by rw [N1.out]; exact HO5.out, Q5.out⟩
        case measure => simp [intOf]; omega
      · obtain ⟨y1, y2, y3⟩ := Y
        have NO1 := Lib.hid (fun q => PN.out (NO.out _ rfl q))
        have NI1 := Lib.hid (fun q => PS.out _ (NI.out _ rfl q))
        clear NN NO NI PS PN
        dsimp only [tmR] at NO1 NI1 ⊢
        have b5 : Below W3.heap.size W3 (w4.alloc (.cells #[.int .i64 y1, .int .i64 y2, .int .i64 y3] 54)) := hb.alloc hb.size _
        have bw5 : Below wr.heap.size wr (w4.alloc (.cells #[.int .i64 y1, .int .i64 y2, .int .i64 y3] 54)) := B3.out.trans (b5.mono B3.out.size)
        have HO5 := Lib.hid (ow_below HO.out bw5)
        have Q5 := Lib.hid (HBa.out.trans (bw5.mono HBa.out.size))
        have B5 := Lib.hid bw5
        have T5 : (w4.alloc (.cells #[.int .i64 y1, .int .i64 y2, .int .i64 y3] 54)).cell? ⟨w4.heap.size, 0, none⟩ = some (.int .i64 y1) ∧ (w4.alloc (.cells #[.int .i64 y1, .int .i64 y2, .int .i64 y3] 54)).cell? ⟨w4.heap.size, 1, none⟩ = some (.int .i64 y2) ∧ (w4.alloc (.cells #[.int .i64 y1, .int .i64 y2, .int .i64 y3] 54)).cell? ⟨w4.heap.size, 2, none⟩ = some (.int .i64 y3) := by refine ⟨?_, ?_, ?_⟩ <;> simp
        obtain ⟨W5, hW5⟩ : ∃ W5, W5 = w4.alloc (.cells #[.int .i64 y1, .int .i64 y2, .int .i64 y3] 54) := ⟨_, rfl⟩
        rw [← hW5] at HO5 Q5 B5 T5
        have HW5 := Lib.hid hW5
        clear hb b5 bw5 hW5 K
        go_upto_region 12 with fail
        rw [← HW5.out]
        clear HW5
        obtain ⟨u0, u1, u2⟩ := T5
        have ul := ecell_in u0
        by_cases c1 : F ≤ y2
        case neg =>
          have N1 := Lib.hid (NO1.out (fun q => c1 q.1))
          clear NO1 NI1
          go_wp2
          go_roundw
          case rel => exact ⟨k + 1, by omega, by go_num, by rw [N1.out]; exact HO5.out, Q5.out⟩
          case measure => simp [intOf]; omega
        by_cases c2 : y2 < T
        case neg =>
          have N1 := Lib.hid (NO1.out (fun q => c2 q.2))
          clear NO1 NI1
          go_wp2
          go_roundw
          case rel => exact ⟨k + 1, by omega, by go_num, by rw [N1.out]; exact HO5.out, Q5.out⟩
          case measure => simp [intOf]; omega
        have N1 := Lib.hid (NI1.out ⟨c1, c2⟩)
        have sz5 := B5.out.size
        have szw := HBa.out.size
        clear NO1 NI1
        go_wp2_with (at_builtin; refine wpList_append_own _ rfl _ _ 50 rfl w1.heap.size 54 i0 (.agg #[.int .i64 0, .int .i64 0, .int .i64 0]) 3 24 Tryz.underlying50 hi hz0 hz1 hz2 rfl (by decide) _ _ _ rfl (HO5.out.alloc _) ⟨W5.heap.size, 0, none⟩ 1 1 [.int .i64 y1, .int .i64 y2, .int .i64 y3] rfl rfl ?d1 ?d2 ?d3 ?d4 ?d5 ?_)
        case d1 =>
          intro j u hj
          match j, hj with
          | 0, hj => simp at hj; subst hj; simp [Addr.add]
          | 1, hj => simp at hj; subst hj; simp [Addr.add]
          | 2, hj => simp at hj; subst hj; simp [Addr.add]
        case d2 => intro u hu; simp at hu; rcases hu with rfl | rfl | rfl <;> rfl
        case d3 => unfold maxLen; omega
        case d4 => omega
        case d5 => simp; omega
        intro v' w6 hown' hgrow _
        have Q2 := Lib.hid (ow_grow HBa.out.size HBa.out B5.out HO.out hgrow)
        have Q1 := Lib.hid hown'
        clear hown' hgrow HO HO5 u0 u1 u2
        go_wp2
        go_roundw
        case rel => exact ⟨k + 1, by omega, by go_num, by rw [N1.out, List.length_append, prt_snoc]; exact Q1.out, Q2.out⟩
        case measure => simp [intOf]; omega
    · have ek : k = MO.length := by omega
      have O9 := HO.out
      rw [ek, PE.out] at O9
      have tl := fl
      rw [ek, PE.out] at tl
      have KS := Lib.hid (sort_any TS w1.heap.size _ wr O9 hB.size (by omega))
      have B9 := Lib.hid (B1.out.trans (hB.mono B1.out.size))
      have Z9 := Lib.hid B1.out.size
      clear O9 HO ek tl fl hB
      go_wp2_with fail
      refine KS.out.mono ?_
      rintro y w9 ⟨rfl, b, hp, hs, ht, hb, ow⟩
      have eb := TO.out b hp hs
      rw [hp.length_eq] at ow
      subst eb
      obtain ⟨a9, c9, e9, _⟩ := id ht
      have ZZ := Lib.hid (B9.out.trans (hb.mono Z9.out))
      have HTM := Lib.hid ht
      have OW := Lib.hid (own_mono ow Z9.out)
      clear hp hs hb KS TO ow
      subst e9
      go_wp2
      go_ret2
      exact ⟨_, rfl, HTM.out, ZZ.out, OW.out⟩
set_option maxRecDepth 100000 in
set_option maxHeartbeats 4000000 in
theorem tall_out (a : Int) (l : List (Int × Int)) (v : Value) (e : Evt) (s : Evs) (fr t F T : Int) (w : World) (hz : ZoneIn w v a l) (hF : max fr 1 = F) (hT2 : min t 157785120 = T) (hFT : T ≤ F) :
    Calls Tryz.prog 27 #[v, .agg (ecells e s), .int .i64 fr, .int .i64 t] w (TmsA w []) := by
  obtain ⟨sa, sc, rfl⟩ := hz.form
  have b1 := (Below.refl w.heap.size w).alloc (Nat.le_refl _) (.cells #[.int .i64 a, .slice sa l.length sc] 24)
  have B0 := Lib.hid (b1.alloc b1.size (.cells (ecells e s) 32))
  clear hz b1
  go_enter Tryz.func27, Tryz.ntmps27
  go_upto_region 1 with fail
  generalize (w.alloc (.cells #[.int .i64 a, .slice sa l.length sc] 24)).alloc (.cells (ecells e s) 32) = W0 at B0 ⊢
  go_upto_region 2 with (go_at_call 54; refine (clast_any _).mono ?_; rintro y w' ⟨rfl, hw⟩; replace hw := hw.symm; subst hw)
  clear hF hT2
  go_wp2
  go_ret2
  exact ⟨_, rfl, ⟨none, 0, rfl, Or.inl rfl⟩, B0.out, World.ownsRow_nil _ _ _ _⟩
/-- The Times of which From is from one number to below another one, whatever these are. -/
def tmA (a : Int) (l : List (Int × Int)) (e : Evt) (fr t : Int) : List Tm := if max fr 1 < min t 157785120 then tmL a l e (max fr 1) (min t 157785120) else []
theorem isTm_time {a : Int} {l : List (Int × Int)} {e : Evt} {fr t : Int} {y : Tm} (h : isTm a l e fr t y) : 1 ≤ y.2.1 ∧ y.2.1 ≤ 157785119 := by
  obtain ⟨_, ⟨r, _, q⟩, _, _⟩ := h
  obtain ⟨_, t1, _, _⟩ := tim_some q
  exact of_decide_eq_true (Zo.twi_mem.1 t1).1
theorem tmA_okS {fr t : Int} (h : max fr 1 < min t 157785120) : okS (max fr 1) (min t 157785120) := by unfold okS; omega
theorem tmA_mem {a : Int} {l : List (Int × Int)} {e : Evt} {fr t : Int} {y : Tm} (h : evF e = 0) (hz : Zo.zf a l = 0) : y ∈ tmA a l e fr t ↔ isTm a l e fr t y := by
  unfold tmA
  split
  · rename_i q
    rw [tmL_mem h hz (tmA_okS q)]
    constructor
    · intro g
      have := isTm_time g
      obtain ⟨g1, g2, g3, g4⟩ := g
      exact ⟨g1, g2, by omega, by omega⟩
    · intro g
      have := isTm_time g
      obtain ⟨g1, g2, g3, g4⟩ := g
      exact ⟨g1, g2, by omega, by omega⟩
  · rename_i q
    constructor
    · intro g; cases g
    · intro g
      have := isTm_time g
      obtain ⟨_, _, g3, g4⟩ := g
      exact absurd (by omega) q
theorem tmA_rise {a : Int} {l : List (Int × Int)} {e : Evt} {fr t : Int} (h : evF e = 0) : (tmA a l e fr t).Pairwise ltT := by
  unfold tmA
  split
  · rename_i q; exact tmL_rise h (tmA_okS q)
  · exact List.Pairwise.nil
theorem tmA_eq {a : Int} {l : List (Int × Int)} {e : Evt} {fr t : Int} (h : evF e = 0) (hz : Zo.zf a l = 0) (ho : okS fr t) : tmA a l e fr t = tmL a l e fr t :=
  tm_ext (tmA_rise h) (tmL_rise h ho) (fun y => by rw [tmA_mem h hz, tmL_mem h hz ho])
theorem tall_far (a : Int) (l : List (Int × Int)) (v : Value) (e : Evt) (s : Evs) (fr t : Int) (w : World) (hz : ZoneIn w v a l) (hf : Zo.zf a l = 0) (hv : EvB w e s) (hT : Tab w) (h : evF e = 0) :
    Calls Tryz.prog 27 #[v, .agg (ecells e s), .int .i64 fr, .int .i64 t] w (TmsA w (tmA a l e fr t)) := by
  by_cases q : max fr 1 < min t 157785120
  · have e1 : tmA a l e fr t = tmL a l e (max fr 1) (min t 157785120) := if_pos q
    rw [e1]
    exact tall_in a l v e s fr t _ _ w hz hf hv hT h rfl rfl q
  · have e1 : tmA a l e fr t = [] := if_neg q
    rw [e1]
    exact tall_out a l v e s fr t _ _ w hz rfl rfl (by omega)
theorem tall_any (a : Int) (l : List (Int × Int)) (v : Value) (e : Evt) (s : Evs) (fr t : Int) (w : World) (hz : ZoneIn w v a l) (hf : Zo.zf a l = 0) (hv : EvB w e s) (hT : Tab w) (h : evF e = 0) (ho : okS fr t) :
    Calls Tryz.prog 27 #[v, .agg (ecells e s), .int .i64 fr, .int .i64 t] w (TmsA w (tmL a l e fr t)) := by
  rw [← tmA_eq h hf ho]
  exact tall_far a l v e s fr t w hz hf hv hT h
end Go.Proofs.YtkmmncebekcegaaGreatDoor
