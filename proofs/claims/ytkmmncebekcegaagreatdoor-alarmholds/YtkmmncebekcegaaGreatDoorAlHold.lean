/-
  What is proved here: the walk of chimelaw2.AlarmHolds: it returns true for every zone, event and three numbers, and turns nothing that was there; the table of months is asked as a premise.
-/
import Derived.Test.YtkmmncebekcegaaGreatDoorAX
import Derived.Lib.QuietBelow
import Derived.Deep.Cut
import Derived.Deep.CutRange
namespace Go.Proofs.YtkmmncebekcegaaGreatDoor
open Go.RowKit Cal Txt

theorem two_alm {w : World} {b : Nat} (h : ∀ j v, ([.int .i64 (-10), .bool false, .int .i64 1, .int .i64 3, .int .i64 0, .bool true, .int .i64 0, .int .i64 0] : List Value)[j]? = some v → w.cell? ⟨b, j, none⟩ = some v) : Alms w (.slice (some ⟨b, 0, none⟩) 2 2) [(-10, false, 1, 3), (0, true, 0, 0)] :=
  ⟨_, _, rfl, Or.inr ⟨b, 0, rfl, fun i hi => by
    have hi2 : i < 2 := hi
    rcases (by omega : i = 0 ∨ i = 1) with rfl | rfl
    · exact ⟨h 0 _ rfl, h 1 _ rfl, h 2 _ rfl, h 3 _ rfl⟩
    · exact ⟨h 4 _ rfl, h 5 _ rfl, h 6 _ rfl, h 7 _ rfl⟩⟩⟩
/-- An alarm in a row. -/
def ABx' (W : World) (b o : Nat) (x : Al) : Prop := W.cell? ⟨b, o, none⟩ = some (.int .i64 x.1) ∧ W.cell? ⟨b, o + 1, none⟩ = some (.bool x.2.1) ∧ W.cell? ⟨b, o + 2, none⟩ = some (.int .i64 x.2.2.1) ∧ W.cell? ⟨b, o + 3, none⟩ = some (.int .i64 x.2.2.2)
theorem wnm3 {n : Nat} {w w' : World} (_ : Below n w w') : ∃ x, x = w' := ⟨_, rfl⟩
theorem ord_below {w w' : World} (h : ∃ q os', w' = Sort.grow (w.drewN q) os') : Below w.heap.size w w' := by
  obtain ⟨q, os, rfl⟩ := h
  exact (blw_drewN _ w q).trans (belowG os (Nat.le_refl _))
theorem tbL_len (a : Int) (l : List (Int × Int)) (e : Evt) (fr t : Int) : (tbL a l e fr t).length ≤ 200 := by
  by_cases h : tbF a l e fr t = 0
  · obtain ⟨_, _, q, z⟩ := tb_good h
    rw [q]; exact z
  · have : tbL a l e fr t = [] := if_neg h
    rw [this]; simp
theorem any_snoc (l : List Tm) (p : Tm → Bool) (j : Nat) (h : j < l.length) : (l.take (j + 1)).any p = ((l.take j).any p || p (l.getD j (0, 0, 0))) := by
  rw [List.take_succ_eq_append_getElem h, List.any_append, tm_getD h]
  simp
set_option maxRecDepth 100000 in
set_option maxHeartbeats 16000000 in
theorem ahold (a : Int) (l : List (Int × Int)) (v : Value) (e : Evt) (s : Evs) (fr c t : Int) (w : World) (hz : ZoneIn w v a l) (hv : EvB w e s) (hT : Tab w) :
    Calls Tryz.prog 4 #[v, .agg (ecells e s), .int .i64 fr, .int .i64 c, .int .i64 t] w fun x w' => x = .returned (.bool true) ∧ Below w.heap.size w w' := by
  have HZ := Lib.hid (fun W (q : Below w.heap.size w W) => hz.on q)
  obtain ⟨sa, sc, rfl⟩ := hz.form
  obtain ⟨W2, hW, B0, zz, Z0, R0⟩ := two_boxes w a l sa sc e s
  have HW := Lib.hid hW
  have b3 : Below W2.heap.size W2 (W2.alloc (.cells #[.int .i64 (-10), .bool false, .int .i64 1, .int .i64 3, .int .i64 0, .bool true, .int .i64 0, .int .i64 0] 49)) := (Below.refl _ _).alloc (Nat.le_refl _) _
  have HB := Lib.hid (B0.trans (b3.mono B0.size))
  have HE := Lib.hid (R0.on b3)
  have HX := Lib.hid (Z0.on b3)
  have SZ : Hid ((W2.alloc (.cells #[.int .i64 (-10), .bool false, .int .i64 1, .int .i64 3, .int .i64 0, .bool true, .int .i64 0, .int .i64 0] 49)).heap.size = W2.heap.size + 1) := Lib.hid (World.size_alloc _ _)
  have C1 : Hid (∀ j v, ([.int .i64 (-10), .bool false, .int .i64 1, .int .i64 3, .int .i64 0, .bool true, .int .i64 0, .int .i64 0] : List Value)[j]? = some v → (W2.alloc (.cells #[.int .i64 (-10), .bool false, .int .i64 1, .int .i64 3, .int .i64 0, .bool true, .int .i64 0, .int .i64 0] 49)).cell? ⟨W2.heap.size, j, none⟩ = some v) := Lib.hid (fun j v hj => by
    simp only [World.cell?, heap_alloc_new W2 (.cells #[.int .i64 (-10), .bool false, .int .i64 1, .int .i64 3, .int .i64 0, .bool true, .int .i64 0, .int .i64 0] 49)]
    simpa using hj)
  have OC : Hid ((ecells evR (⟨.slice none 0 0, .slice none 0 0, .slice none 0 0, .slice none 0 0, .slice none 0 0, .slice none 0 0, .slice none 0 0, .slice (some ⟨W2.heap.size, 0, none⟩) 2 2⟩ : Evs)).all (fun x => x.oneCell') = true) := Lib.hid (by simp [Value.oneCell'])
  have HV := Lib.hid (fun W (q : Below w.heap.size w W) => hv.on q)
  have HT := Lib.hid (fun W (q : Below w.heap.size w W) => hT.below q)
  clear hz hv hT hW B0 b3 Z0 R0 zz
  go_enter Tryz.func4, Tryz.ntmps4
  go_upto_region 1 with fail
  rw [← HW.out]
  clear HW
  go_wp2_with (first | (refine ev_store ?h1 (.tmp 11) (.tmp 32) ?h2 (W2.heap.size + 1) _ _ ?h3 SZ.out evR (⟨.slice none 0 0, .slice none 0 0, .slice none 0 0, .slice none 0 0, .slice none 0 0, .slice none 0 0, .slice none 0 0, .slice (some ⟨W2.heap.size, 0, none⟩) 2 2⟩ : Evs) ?h4 ?h5 ?h6 ?h7; (case h1 => rfl); (case h2 => rfl); (case h3 => rfl); (case h4 => exact OC.out); (case h5 => rfl); (case h6 => rfl); intro W1 r1 b1; have Q1 := Lib.hid (And.intro r1 b1); clear r1 b1) | (refine ev_load ?i1 (.tmp 11) ?i2 (W2.heap.size + 1) evR (⟨.slice none 0 0, .slice none 0 0, .slice none 0 0, .slice none 0 0, .slice none 0 0, .slice none 0 0, .slice none 0 0, .slice (some ⟨W2.heap.size, 0, none⟩) 2 2⟩ : Evs) ?i3 Q1.out.1.1 ?i4; (case i1 => rfl); (case i2 => rfl); (case i3 => rfl)))
  have B1 := Lib.hid (HB.out.trans (Q1.out.2.mono HB.out.size))
  have E1 := Lib.hid (HE.out.on Q1.out.2)
  have X1 := Lib.hid (HX.out.on Q1.out.2)
  have hvT : EvB W1 evR (⟨.slice none 0 0, .slice none 0 0, .slice none 0 0, .slice none 0 0, .slice none 0 0, .slice none 0 0, .slice none 0 0, .slice (some ⟨W2.heap.size, 0, none⟩) 2 2⟩ : Evs) := ⟨nil_int _, nil_int _, nil_nth _, nil_int _, nil_int _, nil_int _, nil_nth _, two_alm (fun j v hj => (Q1.out.2.cell (p := ⟨W2.heap.size, j, none⟩) (by show W2.heap.size < _; rw [SZ.out]; omega)).trans (C1.out j v hj))⟩
  have K := rings_any 0 [] _ evR (⟨.slice none 0 0, .slice none 0 0, .slice none 0 0, .slice none 0 0, .slice none 0 0, .slice none 0 0, .slice none 0 0, .slice (some ⟨W2.heap.size, 0, none⟩) 2 2⟩ : Evs) 66729000 66730000 W1 (zone_nil W1 0) hvT (HT.out _ B1.out)
  rw [evR_told.1, evR_told.2] at K
  clear hvT HB HE HX Q1 SZ C1 OC
  refine K.mono ?_
  clear K
  rintro x w2 ⟨u, rfl, hb, ow⟩
  rw [efault_0]
  have B2 := Lib.hid (B1.out.trans (hb.mono B1.out.size))
  have E2 := Lib.hid (E1.out.on hb)
  have X2 := Lib.hid (X1.out.on hb)
  obtain ⟨a9, c9, rfl, hc⟩ := rowK_at (own_rowK (enc := encR evR.name) (k := 5) (fun _ => rfl) (by decide) ow)
  rcases hc with hc | ⟨b, off, rfl, hh⟩
  · cases hc
  have k0 : w2.cell? ⟨b, off, none⟩ = some (.int .i64 66729169) := (hh 0 (by decide)).1
  have k1 : w2.cell? ⟨b, off + 5 + 4, none⟩ = some (.int .i64 1) := (hh 1 (by decide)).2.2.2.2
  have k2 : w2.cell? ⟨b, off + 10, none⟩ = some (.int .i64 66729239) := (hh 2 (by decide)).1
  have bl := ecell_in k0
  have el : rgR.length = 3 := rfl
  rw [el]
  clear hb hh el B1 E1 X1 ow
  obtain ⟨z0, z1⟩ := X2.out
  have zl := ecell_in z0
  go_wp2_with (refine ev_load ?j1 (.tmp 6) ?j2 (w.heap.size + 1) e s ?j3 E2.out ?j4; (case j1 => rfl); (case j2 => rfl); (case j3 => rfl))
  clear k0 k1 k2 bl z0 z1 zl
  have K2 := Lib.hid (rings_any a l _ e s fr t w2 (HZ.out _ B2.out) (HV.out _ B2.out) (HT.out _ B2.out))
  have KN := Lib.hid (fun h => knr_of (a := a) (l := l) (e := e) (fr := fr) (c := c) (t := t) h)
  generalize raF a l e fr t = F at K2 KN
  generalize raL a l e fr t = L at K2 KN
  refine K2.out.mono ?_
  rintro x w3 ⟨u, rfl, hb, ow⟩
  have B3 := Lib.hid (B2.out.trans (hb.mono B2.out.size))
  have E3 := Lib.hid (E2.out.on hb)
  have X3 := Lib.hid (X2.out.on hb)
  have LT := Lib.hid (own_rowK (enc := encR e.name) (k := 5) (fun _ => rfl) (by decide) ow)
  clear hb K2 B2 E2 X2 ow
  obtain ⟨la, lc, rfl, hc⟩ := rowK_at LT.out
  by_cases hq : F = 0
  case neg =>
    rw [efault_ne hq]
    clear hq KN hc
    go_wp2
    go_ret
    exact ⟨rfl, B3.out⟩
  have KK := Lib.hid (KN.out hq)
  rw [hq, efault_0]
  have HC := Lib.hid hc
  have ll := KK.out.2.2.2.1
  obtain ⟨ff, tt⟩ := KK.out.2.2.2.2.1
  obtain ⟨e1, e2⟩ := KK.out.2.2.2.2.2.1
  obtain ⟨al4, H4⟩ := KK.out.2.2.2.2.2.2
  have HA4 := Lib.hid H4
  clear hq KN hc H4
  go_upto_region 8 with fail
  go_cut [16] from 24 to 244 (fun s16 wx => s16 = .int .i64 0 ∧ wx = w3)
  case first =>
    go_wp2
    go_meet
    case rel => exact ⟨rfl, rfl⟩
  case rest =>
  as_aux_lemma =>
  obtain ⟨rfl, hw⟩ := hcut
  replace hw := hw.symm
  subst hw
  go_wp2_with fail
  go_loopw [16, 17, 18, 19, 20, 21, 22, 23] (fun iv _ _ _ _ _ _ _ wr => ∃ k : Nat, k ≤ L.length ∧ iv = .int .i64 k ∧ Below w3.heap.size w3 wr) (fun iv _ _ _ _ _ _ _ _ => L.length - (intOf iv).toNat)
  case atStart => exact ⟨0, Nat.zero_le _, rfl, Below.refl _ _⟩
  case round =>
    obtain ⟨k, hk, rfl, hB⟩ := hrel
    have HBr := Lib.hid hB
    by_cases hlt : k < L.length
    · rcases HC.out with hc | ⟨lb, lo, rfl, hh⟩
      · rw [hc] at hlt; simp at hlt
      have ck := (hh k hlt).on hB
      obtain ⟨ka, u, b, o1, o2, o3, o4, o5, o6, ⟨o7, o8⟩, ⟨o9, o10⟩, o11⟩ := KK.out.1 k hlt
      have PV : Hid (∀ j, k = j + 1 → ∃ P, cmR e.name e.name P (L.getD k (0, 0, 0, 0)) < 0 ∧ RgCl e.name wr lb (lo + j * 5) P) := Lib.hid (fun j hj => ⟨L.getD j (0, 0, 0, 0), by rw [hj]; exact KK.out.2.1 j (by omega), (hh j (by omega)).on hB⟩)
      generalize L.getD k (0, 0, 0, 0) = R at ck o2 o3 o6 o9 o10 o11 PV
      obtain ⟨A, Wh, xa, xu⟩ := R
      dsimp only at o2 o3 o6 o9 o10 o11
      subst o2 o3
      have ax := HA4.out _ (alm_mem o1)
      have HAl := (HV.out _ B3.out).2.2.2.2.2.2.2
      obtain ⟨va, vc, ev, hal⟩ := HAl
      have f16 : wr.cell? ⟨w.heap.size + 1, 16, none⟩ = some (.slice va e.alm.length vc) := by rw [← ev]; exact (E3.out.on hB).2.2.2.2.2
      rcases hal with hal | ⟨ab, ao, rfl, hal⟩
      · rw [hal] at o1; simp at o1
      obtain ⟨m0, m1, m2, m3⟩ := hal ka o1
      generalize e.alm.getD ka (0, false, 0, 0) = X at o4 o6 ax m0 m1 m2 m3
      obtain ⟨x1, x2, x3, x4⟩ := X
      dsimp only at o4 o6 m0 m1 m2 m3
      obtain ⟨⟨i1, i2⟩, ⟨i3, i4⟩, ⟨i5, i6⟩, _⟩ := alF_in ax
      dsimp only at i1 i2 i3 i4 i5 i6
      have M4 : Hid (∀ W, Below wr.heap.size wr W → ABx' W ab (ao + ka * 4) (x1, x2, x3, x4)) := Lib.hid (fun W q => by
        have q2 := hB.trans (q.mono hB.size)
        have bl := ecell_in m0
        exact ⟨(q2.cell (p := ⟨ab, ao + ka * 4, none⟩) bl).trans m0, (q2.cell (p := ⟨ab, ao + ka * 4 + 1, none⟩) bl).trans m1, (q2.cell (p := ⟨ab, ao + ka * 4 + 2, none⟩) bl).trans m2, (q2.cell (p := ⟨ab, ao + ka * 4 + 3, none⟩) bl).trans m3⟩)
      have BH := Lib.hid o6
      have ON := Lib.hid o11
      have H16 := Lib.hid f16
      have f0 : wr.cell? ⟨w.heap.size + 1, 0, none⟩ = some (.string e.name) := (E3.out.on hB).1.1
      have H0 := Lib.hid f0
      have E4 := Lib.hid (E3.out.on hB)
      have X4 := Lib.hid (X3.out.on hB)
      have b4 : Below wr.heap.size wr (wr.alloc (.cells #[.int .i64 A, .string e.name, .int .i64 Wh, .int .i64 (ka : Int), .int .i64 (u : Int)] 34)) := (Below.refl _ _).alloc (Nat.le_refl _) _
      have R4 : RBx e.name (wr.alloc (.cells #[.int .i64 A, .string e.name, .int .i64 Wh, .int .i64 (ka : Int), .int .i64 (u : Int)] 34)) wr.heap.size (A, Wh, (ka : Int), (u : Int)) := RBx.new e.name wr (A, Wh, (ka : Int), (u : Int)) _
      obtain ⟨W3, hW3⟩ : ∃ W3, W3 = wr.alloc (.cells #[.int .i64 A, .string e.name, .int .i64 Wh, .int .i64 (ka : Int), .int .i64 (u : Int)] 34) := ⟨_, rfl⟩
      rw [← hW3] at b4 R4
      have HW3 := Lib.hid hW3
      have B4 := Lib.hid b4
      have HR4 := Lib.hid R4
      obtain ⟨c0, c1, c2, c3, c4⟩ := ck
      dsimp only at c0 c1 c2 c3 c4
      have lb2 := ecell_in c0
      clear hh hB o6 o11 ev hal m0 m1 m2 m3 ax f16 f0 b4 R4 hW3
      go_upto_region 12 with fail
      rw [← HW3.out]
      clear HW3 c0 c1 c2 c3 c4 lb2
      go_cut [130] from 77 to 201 (fun sc wx => sc = .bool false ∧ Below W3.heap.size W3 wx)
      case first =>
        have f0 := (B4.out.cell (p := ⟨w.heap.size + 1, 0, none⟩) (ecell_in H0.out)).trans H0.out
        have f16 := (B4.out.cell (p := ⟨w.heap.size + 1, 16, none⟩) (ecell_in H16.out)).trans H16.out
        obtain ⟨t0, t1, t2, t3, t4⟩ := HR4.out
        dsimp only at t0 t1 t2 t3 t4
        have n0 := cell_regrown f0
        have n1 := cell_regrown f16
        have n2 := cell_regrown t0
        have n3 := cell_regrown t1
        have n4 := cell_regrown t2
        have n5 := cell_regrown t3
        have n6 := cell_regrown t4
        have d1 : decide ((ka : Int) < 0) = false := decide_eq_false (by omega)
        have d2 : decide ((ka : Int) ≥ (e.alm.length : Int)) = false := decide_eq_false (by omega)
        have d3 : decide (e.alm.length ≤ ka) = false := decide_eq_false (by omega)
        have d4 : decide (A < fr) = false := decide_eq_false (by omega)
        have d5 : decide (A ≥ t) = false := decide_eq_false (by omega)
        have d6 : decide (t ≤ A) = false := decide_eq_false (by omega)
        rcases Nat.eq_zero_or_pos k with h0 | h0
        · have d7 : decide ((k : Int) > 0) = false := decide_eq_false (by omega)
          have d8 : decide ((0 : Int) < (k : Int)) = false := decide_eq_false (by omega)
          have d9 : decide (0 < k) = false := decide_eq_false (by omega)
          clear h0 PV n0 n1 n2 n3 n4 n5 n6
          have fl := ecell_in f0
          have tl := ecell_in t0
          go_quiet (fail)
          go_wp2
          go_meet
          case rel => exact ⟨rfl, below_drewN (Below.refl _ _) _⟩
        · obtain ⟨j, hj⟩ : ∃ j, k = j + 1 := ⟨k - 1, by omega⟩
          obtain ⟨P, hP, cP⟩ := PV.out j hj
          have KO := Lib.hid (fun W (_ : Below W3.heap.size W3 W) => (order_any e.name e.name P (A, Wh, (ka : Int), (u : Int)) W).mono (fun y w' ⟨h1, h2⟩ => And.intro h1 (ord_below h2)))
          generalize cmR e.name e.name P (A, Wh, (ka : Int), (u : Int)) = CV at KO hP
          obtain ⟨P1, P2, P3, P4⟩ := P
          obtain ⟨p0, p1, p2, p3, p4⟩ := cP.on B4.out
          dsimp only at p0 p1 p2 p3 p4 KO
          have n7 := cell_regrown p0
          have n8 := cell_regrown p1
          have n9 := cell_regrown p2
          have n10 := cell_regrown p3
          have n11 := cell_regrown p4
          have r1 : (0 : Int) ≤ (k : Int) - 1 := by omega
          have r2 : (k : Int) - 1 < (L.length : Int) := by omega
          have r3 : ((k : Int) - 1).toNat = j := by omega
          have w1 : IntKind.i64.wrap ((k : Int) - 1) = (k : Int) - 1 := by rw [IntKind.wrap_i64]; omega
          have w2 : wrap64 ((k : Int) - 1) = (k : Int) - 1 := by unfold wrap64; omega
          have d7 : decide ((k : Int) > 0) = true := decide_eq_true (by omega)
          have d8 : decide ((0 : Int) < (k : Int)) = true := decide_eq_true (by omega)
          have d9 : decide (0 < k) = true := decide_eq_true h0
          have d10 : decide (CV ≥ 0) = false := decide_eq_false (by omega)
          have d11 : decide (0 ≤ CV) = false := decide_eq_false (by omega)
          clear h0 PV f0 f16 t0 t1 t2 t3 t4 p0 p1 p2 p3 p4 cP hj hP
          refine wp_region_quiet_below (by kernel_rfl) (by kernel_rfl) ?_
          repeat (go_big_quiet_step (first | (go_at_call 12; exact Calls.regrown_of (KO.out _ (below_regrown W3 _ _)))))
          refine wpQuiet_nil ?_
          intro _ hw'
          obtain ⟨⟨dq, osq⟩, hw''⟩ := hw'
          subst hw''
          have hb5 := Lib.hid (below_regrown W3 dq osq)
          clear n0 n1 n2 n3 n4 n5 n6 n7 n8 n9 n10 n11 KO
          go_wp2
          go_meet
          case rel => exact ⟨rfl, hb5.out⟩
      case rest =>
      obtain ⟨rfl, hb5⟩ := hcut
      obtain ⟨W5, hW5⟩ := wnm3 hb5
      subst hW5
      have B5 := Lib.hid (B4.out.trans (hb5.mono B4.out.size))
      have R5 := Lib.hid (HR4.out.on hb5)
      clear hb5 PV HR4
      obtain ⟨g0, g1, g2, g3⟩ := M4.out _ B5.out
      dsimp only at g0 g1 g2 g3
      have gl := ecell_in g0
      have f16 := (B5.out.cell (p := ⟨w.heap.size + 1, 16, none⟩) (ecell_in H16.out)).trans H16.out
      have fl := ecell_in f16
      obtain ⟨t0, t1, t2, t3, t4⟩ := R5.out
      dsimp only at t0 t1 t2 t3 t4
      have tl := ecell_in t0
      have b6 : Below W5.heap.size W5 (W5.alloc (.cells #[.int .i64 x1, .bool x2, .int .i64 x3, .int .i64 x4] 49)) := (Below.refl _ _).alloc (Nat.le_refl _) _
      have A6 := ABx.new W5 (x1, x2, x3, x4) 49
      dsimp only at A6
      obtain ⟨W6, hW6⟩ : ∃ W6, W6 = W5.alloc (.cells #[.int .i64 x1, .bool x2, .int .i64 x3, .int .i64 x4] 49) := ⟨_, rfl⟩
      rw [← hW6] at b6 A6
      have HW6 := Lib.hid hW6
      have B6 := Lib.hid (B5.out.trans (b6.mono B5.out.size))
      have R6 := Lib.hid (R5.out.on b6)
      have HA6 := Lib.hid A6
      have E6 := Lib.hid (E4.out.on B6.out)
      have X6 := Lib.hid (X4.out.on B6.out)
      have j1 : (0 : Int) ≤ (ka : Int) := by omega
      have j2 : (ka : Int) < (e.alm.length : Int) := by omega
      clear b6 A6 hW6 M4 H16 H0 E4 X4
      go_upto_region 15 with fail
      rw [← HW6.out]
      clear HW6 g0 g1 g2 g3 gl f16 fl t0 t1 t2 t3 t4 tl R5 B5
      obtain ⟨t0, t1, t2, t3, t4⟩ := R6.out
      dsimp only at t0 t1 t2 t3 t4
      have tl := ecell_in t0
      obtain ⟨a0, a1, a2, a3⟩ := HA6.out
      dsimp only at a0 a1 a2 a3
      have al := ecell_in a0
      obtain ⟨UM, mu⟩ : ∃ UM, (u : Int) * x4 = UM := ⟨_, rfl⟩
      obtain ⟨m1, m2⟩ := mul_in (u := u) (x := x4) o5 i5 i6
      rw [mu] at m1 m2
      have BH2 := BH.out
      rw [mu] at BH2
      have HBH := Lib.hid BH2
      have nu1 : ¬ (u : Int) < 0 := by omega
      have nu2 : ¬ x3 < (u : Int) := by omega
      have e6 := E6.out.1.2.2.2.1
      have el := ecell_in e6
      clear BH BH2
      go_upto_if 159 with fail
      go_cut [19] from 77 to 201 (fun s19 wx => s19 = .int .i64 b ∧ wx = W6)
      case first =>
        have q1 : 0 ≤ A := by omega
        have q2 : A ≤ 200000000 := by omega
        rcases x2 with _ | _
        · have eb : A - x1 - UM = b := by have := HBH.out; unfold bhd at this; simp at this; omega
          have HEB := Lib.hid eb
          clear eb
          go_wp2
          go_meet
          case rel => exact ⟨by rw [← HEB.out], rfl⟩
        · have eb : A - x1 - UM - e.len = b := by have := HBH.out; unfold bhd at this; simp at this; omega
          have HEB := Lib.hid eb
          clear eb
          go_wp2
          go_meet
          case rel => exact ⟨by rw [← HEB.out], rfl⟩
      case rest =>
      obtain ⟨rfl, hw⟩ := hcut
      replace hw := hw.symm
      subst hw
      have HB6 := Lib.hid (HBr.out.trans (B6.out.mono HBr.out.size))
      clear a0 a1 a2 a3 al t0 t1 t2 t3 t4 tl e6 el mu m1 m2 HBH nu1 nu2 HA6
      by_cases h5 : 5 < k
      · go_wp2
        go_roundw
        case rel => exact ⟨k + 1, by omega, by go_num, HB6.out⟩
        case measure => simp [intOf]; omega
      have nb : ¬ b < 1 := by omega
      have bw := B3.out.trans (HB6.out.mono B3.out.size)
      have KB := Lib.hid (tbetween_any a l _ e s b (b + 1) W6 (HZ.out _ bw) (HV.out _ bw) (HT.out _ bw))
      have TLN := Lib.hid (tbL_len a l e b (b + 1))
      generalize tbF a l e b (b + 1) = TF at KB ON
      generalize tbL a l e b (b + 1) = TL at KB ON TLN
      obtain ⟨z0, z1⟩ := X6.out
      have zl := ecell_in z0
      clear bw
      go_wp2_with (refine ev_load (by rfl) (.tmp 6) (by rfl) (w.heap.size + 1) e s (by rfl) E6.out ?_)
      clear z0 z1 zl
      refine KB.out.mono ?_
      rintro x w7 ⟨u7, rfl, ht, hb7, _⟩
      have B7 := Lib.hid (HB6.out.trans (hb7.mono HB6.out.size))
      have R7 := Lib.hid (R6.out.on hb7)
      obtain ⟨a7, c7, rfl, hc7⟩ := ht
      have HC7 := Lib.hid hc7
      clear hb7 hc7 KB HB6 R6 E6 X6
      go_wp2_with fail
      go_loopw [22, 23] (fun fv jv wq => ∃ j : Nat, j ≤ TL.length ∧ jv = .int .i64 j ∧ fv = .bool ((TL.take j).any (fun y => y.1 == Wh)) ∧ Dra w7 wq) (fun _ jv _ => TL.length - (intOf jv).toNat)
      case atStart => exact ⟨0, Nat.zero_le _, rfl, rfl, Dra.refl _⟩
      case round =>
        obtain ⟨j, hj, rfl, rfl, hD⟩ := hrel
        obtain ⟨wq, hwq⟩ := wnm3 (hD.below 0)
        subst hwq
        have HD := Lib.hid hD
        by_cases hjl : j < TL.length
        · rcases HC7.out with hc | ⟨tb0, to0, rfl, hc⟩
          · rw [hc] at hjl; simp at hjl
          have y0 := (HD.out.cell ⟨tb0, to0 + j * 3, none⟩).trans (hc j hjl).1
          have t2 := (HD.out.cell ⟨wr.heap.size, 2, none⟩).trans R7.out.2.2.1
          have tl := ecell_in t2
          have AS := Lib.hid (any_snoc TL (fun y => y.1 == Wh) j hjl)
          have tl2 := TLN.out
          dsimp only at AS t2
          generalize TL.getD j (0, 0, 0) = Y at y0 AS
          obtain ⟨Y1, Y2, Y3⟩ := Y
          dsimp only at y0 AS
          clear hc hD
          rcases hf : (TL.take j).any (fun y => y.1 == Wh) with _ | _
          · rw [hf] at AS
            clear hf
            go_wp2_with fail
            go_quiet (fail)
            go_wp2
            go_roundw
            case rel => exact ⟨j + 1, by omega, by go_num, by rw [AS.out]; rfl, HD.out.step _⟩
            case measure => simp [intOf]; omega
          · rw [hf] at AS
            clear hf
            go_wp2_with fail
            go_quiet (fail)
            go_wp2
            go_roundw
            case rel => exact ⟨j + 1, by omega, by go_num, by rw [AS.out]; rfl, HD.out.step _⟩
            case measure => simp [intOf]; omega
        · have ej : j = TL.length := by omega
          have HB8 := Lib.hid (B7.out.trans (HD.out.below _))
          have AN : Hid (TF = 0 → (TL.take j).any (fun y => y.1 == Wh) = true) := Lib.hid (fun z => by rw [ej, List.take_length]; exact ON.out z)
          generalize (TL.take j).any (fun y => y.1 == Wh) = FV at AN
          clear hD ej
          by_cases hTF : TF = 0
          · have fv := AN.out hTF
            subst fv
            rw [hTF, efault_0]
            clear AN hTF
            go_wp2
            go_roundw
            case rel => exact ⟨k + 1, by omega, by go_num, HB8.out⟩
            case measure => simp [intOf]; omega
          · rw [efault_ne hTF]
            clear AN hTF
            go_wp2
            go_roundw
            case rel => exact ⟨k + 1, by omega, by go_num, HB8.out⟩
            case measure => simp [intOf]; omega
    · have B5 := Lib.hid (B3.out.trans (hB.mono B3.out.size))
      have E5 := Lib.hid (E3.out.on hB)
      have X5 := Lib.hid (X3.out.on hB)
      have T5 := Lib.hid (LT.out.on hB)
      clear HC HBr B3 E3 X3 LT hB
      go_upto_region 29 with fail
      by_cases g1 : c < fr
      · go_wp2
        go_ret
        exact ⟨rfl, B5.out⟩
      by_cases g2 : t < c
      · go_wp2
        go_ret
        exact ⟨rfl, B5.out⟩
      have g3 : ¬ c < 1 := by omega
      obtain ⟨p1, p2, p3⟩ := KK.out.2.2.1 (by omega) (by omega)
      have P2 := Lib.hid p2
      have P3 := Lib.hid p3
      have K3 := rings_any a l _ e s fr c wr (HZ.out _ B5.out) (HV.out _ B5.out) (HT.out _ B5.out)
      rw [p1] at K3
      have HK3 := Lib.hid K3
      clear p1 p2 p3 K3
      obtain ⟨z0, z1⟩ := X5.out
      have zl := ecell_in z0
      go_wp2_with (refine ev_load (by rfl) (.tmp 6) (by rfl) (w.heap.size + 1) e s (by rfl) E5.out ?_)
      clear z0 z1 zl
      refine HK3.out.mono ?_
      rintro x w6 ⟨va, rfl, hb, oa⟩
      rw [efault_0]
      have B6 := Lib.hid (B5.out.trans (hb.mono B5.out.size))
      have E6 := Lib.hid (E5.out.on hb)
      have X6 := Lib.hid (X5.out.on hb)
      have H6 := Lib.hid hb
      have OA := Lib.hid oa
      have S5 := Lib.hid B5.out.size
      clear hb oa B5 E5 X5 HK3
      have K4 := rings_any a l _ e s c t w6 (HZ.out _ B6.out) (HV.out _ B6.out) (HT.out _ B6.out)
      rw [P2.out] at K4
      have HK4 := Lib.hid K4
      clear K4 P2
      obtain ⟨z0, z1⟩ := X6.out
      have zl := ecell_in z0
      go_wp2_with (refine ev_load (by rfl) (.tmp 6) (by rfl) (w.heap.size + 1) e s (by rfl) E6.out ?_)
      clear z0 z1 zl
      refine HK4.out.mono ?_
      rintro x w7 ⟨vb, rfl, hb, ob⟩
      rw [efault_0]
      have B7 := Lib.hid (B6.out.trans (hb.mono B6.out.size))
      have H7 := Lib.hid (H6.out.trans (hb.mono H6.out.size))
      have OA7 := ow_below OA.out hb
      have LB := congrArg List.length P3.out
      rw [List.length_append] at LB
      obtain ⟨v8, w8, happ, ho8, hb8⟩ := app5_any OA7 (own_rowK (enc := encR e.name) (k := 5) (fun _ => rfl) (by decide) ob) H7.out.size (by omega)
      rw [P3.out] at ho8
      have T8 := T5.out.on (H7.out.trans hb8)
      have K5 := Lib.hid (sameRings e.name L v8 _ w8 (own_rowK (enc := encR e.name) (k := 5) (fun _ => rfl) (by decide) ho8) T8 (by omega))
      have B8 := Lib.hid (B7.out.trans (hb8.mono S5.out))
      have HAPP := Lib.hid happ
      clear happ ho8 hb8 T8 OA7 hb ob HK4 B7 B6 E6 X6 OA H6 H7 T5 P3 LB
      go_wp2_with (at_builtin; refine wpList_app rfl _ _ 37 rfl _ _ _ _ rfl rfl HAPP.out ?_)
      refine K5.out.mono ?_
      rintro x w9 ⟨rfl, hb⟩
      have B9 := Lib.hid (B8.out.trans (hb.mono B8.out.size))
      clear hb K5 B8
      go_wp2
      go_ret
      exact ⟨rfl, B9.out⟩
end Go.Proofs.YtkmmncebekcegaaGreatDoor
