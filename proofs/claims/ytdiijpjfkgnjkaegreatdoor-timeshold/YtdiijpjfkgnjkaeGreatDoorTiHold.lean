/-
  What is proved here: the walk of chimelaw2.TimesHold: it returns true for every zone, event and three numbers, and turns nothing that was there; the table of months is asked as a premise.
-/
import Derived.Test.YtdiijpjfkgnjkaeGreatDoorBZ
import Derived.Test.YtdiijpjfkgnjkaeGreatDoorTiApp
import Derived.Lib.QuietBelow
import Derived.Deep.RegionHeld3
import Derived.Deep.Cut
import Derived.Deep.CutRange
namespace Go.Proofs.YtdiijpjfkgnjkaeGreatDoor
open Go.RowKit Cal Txt

theorem one_nth {w : World} {b : Nat} {x y : Int} (h0 : w.cell? ⟨b, 0, none⟩ = some (.int .i64 x)) (h1 : w.cell? ⟨b, 1, none⟩ = some (.int .i64 y)) : Nths w (.slice (some ⟨b, 0, none⟩) 1 1) [(x, y)] :=
  ⟨_, _, rfl, Or.inr ⟨b, 0, rfl, fun i hi => by
    obtain rfl : i = 0 := by simp at hi; omega
    exact ⟨h0, h1⟩⟩⟩
/-- Three numbers lie in a block. -/
def Tri (W : World) (b : Nat) (y : Tm) : Prop := W.cell? ⟨b, 0, none⟩ = some (.int .i64 y.1) ∧ W.cell? ⟨b, 1, none⟩ = some (.int .i64 y.2.1) ∧ W.cell? ⟨b, 2, none⟩ = some (.int .i64 y.2.2)
theorem z3_old {w w3 : World} {t : TypeId} (h : Below (w.alloc (.cells #[.int .i64 0, .int .i64 0, .int .i64 0] t)).drew.heap.size (w.alloc (.cells #[.int .i64 0, .int .i64 0, .int .i64 0] t)).drew w3) : Zr3 w3 w.heap.size ∧ w.heap.size < w3.heap.size := by
  have q : Zr3 (w.alloc (.cells #[.int .i64 0, .int .i64 0, .int .i64 0] t)).drew w.heap.size := by
    refine ⟨⟨?_, ?_, ?_⟩, ?_, ?_, ?_⟩ <;> simp
  have r := q.on h
  exact ⟨r, ecell_in r.1.1⟩
theorem wnm {n : Nat} {w w' : World} (_ : Below n w w') : ∃ x, x = w' := ⟨_, rfl⟩
set_option maxRecDepth 100000 in
set_option maxHeartbeats 16000000 in
theorem thold (a : Int) (l : List (Int × Int)) (v : Value) (e : Evt) (s : Evs) (fr c t : Int) (w : World) (hz : ZoneIn w v a l) (hv : EvB w e s) (hT : Tab w) :
    Calls Tryz.prog 5 #[v, .agg (ecells e s), .int .i64 fr, .int .i64 c, .int .i64 t] w fun x w' => x = .returned (.bool true) ∧ Below w.heap.size w w' := by
  have HZ := Lib.hid (fun W (q : Below w.heap.size w W) => hz.on q)
  obtain ⟨sa, sc, rfl⟩ := hz.form
  obtain ⟨W2, hW, B0, zz, Z0, R0⟩ := two_boxes w a l sa sc e s
  have HW := Lib.hid hW
  have b3 : Below W2.heap.size W2 (W2.alloc (.cells #[.int .i64 66729179, .int .i64 66729300] 54)) := (Below.refl _ _).alloc (Nat.le_refl _) _
  have HB := Lib.hid (B0.trans (b3.mono B0.size))
  have HE := Lib.hid (R0.on b3)
  have HX := Lib.hid (Z0.on b3)
  have SZ : Hid ((W2.alloc (.cells #[.int .i64 66729179, .int .i64 66729300] 54)).heap.size = W2.heap.size + 1) := Lib.hid (World.size_alloc _ _)
  have C1 : Hid ((W2.alloc (.cells #[.int .i64 66729179, .int .i64 66729300] 54)).cell? ⟨W2.heap.size, 0, none⟩ = some (.int .i64 66729179) ∧ (W2.alloc (.cells #[.int .i64 66729179, .int .i64 66729300] 54)).cell? ⟨W2.heap.size, 1, none⟩ = some (.int .i64 66729300)) := Lib.hid (by constructor <;> simp)
  have OC : Hid ((ecells evT (⟨.slice none 0 0, .slice none 0 0, .slice none 0 0, .slice none 0 0, .slice none 0 0, .slice none 0 0, .slice (some ⟨W2.heap.size, 0, none⟩) 1 1, .slice none 0 0⟩ : Evs)).all (fun x => x.oneCell') = true) := Lib.hid (by simp [Value.oneCell'])
  have HV := Lib.hid (fun W (q : Below w.heap.size w W) => hv.on q)
  have HT := Lib.hid (fun W (q : Below w.heap.size w W) => hT.below q)
  clear hz hv hT hW B0 b3 Z0 R0 zz
  go_enter Tryz.func5, Tryz.ntmps5
  go_upto_region 1 with fail
  rw [← HW.out]
  clear HW
  go_wp2_with (first | (refine ev_store ?h1 (.tmp 11) (.tmp 30) ?h2 (W2.heap.size + 1) _ _ ?h3 SZ.out evT (⟨.slice none 0 0, .slice none 0 0, .slice none 0 0, .slice none 0 0, .slice none 0 0, .slice none 0 0, .slice (some ⟨W2.heap.size, 0, none⟩) 1 1, .slice none 0 0⟩ : Evs) ?h4 ?h5 ?h6 ?h7; (case h1 => rfl); (case h2 => rfl); (case h3 => rfl); (case h4 => exact OC.out); (case h5 => rfl); (case h6 => rfl); intro W1 r1 b1; have Q1 := Lib.hid (And.intro r1 b1); clear r1 b1) | (refine ev_load ?i1 (.tmp 11) ?i2 (W2.heap.size + 1) evT (⟨.slice none 0 0, .slice none 0 0, .slice none 0 0, .slice none 0 0, .slice none 0 0, .slice none 0 0, .slice (some ⟨W2.heap.size, 0, none⟩) 1 1, .slice none 0 0⟩ : Evs) ?i3 Q1.out.1.1 ?i4; (case i1 => rfl); (case i2 => rfl); (case i3 => rfl)))
  have B1 := Lib.hid (HB.out.trans (Q1.out.2.mono HB.out.size))
  have E1 := Lib.hid (HE.out.on Q1.out.2)
  have X1 := Lib.hid (HX.out.on Q1.out.2)
  have hvT : EvB W1 evT (⟨.slice none 0 0, .slice none 0 0, .slice none 0 0, .slice none 0 0, .slice none 0 0, .slice none 0 0, .slice (some ⟨W2.heap.size, 0, none⟩) 1 1, .slice none 0 0⟩ : Evs) := ⟨nil_int _, nil_int _, nil_nth _, nil_int _, nil_int _, nil_int _, one_nth ((Q1.out.2.cell (p := ⟨W2.heap.size, 0, none⟩) (by show W2.heap.size < _; rw [SZ.out]; omega)).trans C1.out.1) ((Q1.out.2.cell (p := ⟨W2.heap.size, 1, none⟩) (by show W2.heap.size < _; rw [SZ.out]; omega)).trans C1.out.2), nil_alm _⟩
  have K := tbetween_any 100 [] _ evT (⟨.slice none 0 0, .slice none 0 0, .slice none 0 0, .slice none 0 0, .slice none 0 0, .slice none 0 0, .slice (some ⟨W2.heap.size, 0, none⟩) 1 1, .slice none 0 0⟩ : Evs) 66729000 66730000 W1 (zone_nil W1 100) hvT (HT.out _ B1.out)
  rw [evT_told.1, evT_told.2] at K
  clear hvT HB HE HX Q1 SZ C1 OC
  refine K.mono ?_
  clear K
  rintro x w2 ⟨u, rfl, ht, hb, _⟩
  rw [efault_0]
  have B2 := Lib.hid (B1.out.trans (hb.mono B1.out.size))
  have E2 := Lib.hid (E1.out.on hb)
  have X2 := Lib.hid (X1.out.on hb)
  obtain ⟨a9, c9, rfl, hc⟩ := ht
  rcases hc with hc | ⟨b, off, rfl, hh⟩
  · cases hc
  have k0 : w2.cell? ⟨b, off, none⟩ = some (.int .i64 66729179) := (hh 0 (by decide)).1
  have k1 : w2.cell? ⟨b, off + 1, none⟩ = some (.int .i64 66729200) := (hh 0 (by decide)).2.1
  have k2 : w2.cell? ⟨b, off + 2, none⟩ = some (.int .i64 66729260) := (hh 0 (by decide)).2.2
  have bl := ecell_in k0
  have el : ([(66729179, 66729200, 66729260)] : List Tm).length = 1 := rfl
  rw [el]
  clear hb hh el B1 E1 X1
  obtain ⟨z0, z1⟩ := X2.out
  have zl := ecell_in z0
  go_wp2_with (refine ev_load ?j1 (.tmp 6) ?j2 (w.heap.size + 1) e s ?j3 E2.out ?j4; (case j1 => rfl); (case j2 => rfl); (case j3 => rfl))
  clear k0 k1 k2 bl z0 z1 zl
  have K2 := Lib.hid (tbetween_any a l _ e s fr t w2 (HZ.out _ B2.out) (HV.out _ B2.out) (HT.out _ B2.out))
  have KN := Lib.hid (fun h => knt_of (a := a) (l := l) (e := e) (fr := fr) (c := c) (t := t) h)
  generalize tbF a l e fr t = F at K2 KN
  generalize tbL a l e fr t = L at K2 KN
  refine K2.out.mono ?_
  rintro x w3 ⟨u, rfl, ht, hb, _⟩
  have B3 := Lib.hid (B2.out.trans (hb.mono B2.out.size))
  have E3 := Lib.hid (E2.out.on hb)
  have X3 := Lib.hid (X2.out.on hb)
  clear hb K2 B2 E2 X2
  by_cases hq : F = 0
  case neg =>
    rw [efault_ne hq]
    obtain ⟨a8, c8, rfl, _⟩ := ht
    clear hq KN
    go_wp2
    go_ret
    exact ⟨rfl, B3.out⟩
  have KK := Lib.hid (KN.out hq)
  rw [hq, efault_0]
  have LT := Lib.hid ht
  obtain ⟨la, lc, rfl, hc⟩ := ht
  have HC := Lib.hid hc
  have ll := KK.out.2.2.2.2.1
  obtain ⟨ff, tt⟩ := KK.out.2.2.2.2.2.1
  obtain ⟨e1, e2⟩ := KK.out.2.2.2.2.2.2
  clear hq KN hc
  go_upto_region 8 with fail
  go_cut [16] from 24 to 253 (fun s16 wx => s16 = .int .i64 0 ∧ wx = w3)
  case first =>
    go_wp2
    go_meet
    case rel => exact ⟨rfl, rfl⟩
  case rest =>
  as_aux_lemma =>
  obtain ⟨rfl, hw⟩ := hcut
  replace hw := hw.symm
  subst hw
  go_wp2_with fail
  go_loopw [16, 17, 18, 19] (fun iv _ _ _ wr => ∃ k : Nat, k ≤ L.length ∧ iv = .int .i64 k ∧ Below w3.heap.size w3 wr) (fun iv _ _ _ _ => L.length - (intOf iv).toNat)
  case atStart => exact ⟨0, Nat.zero_le _, rfl, Below.refl _ _⟩
  case round =>
    obtain ⟨k, hk, rfl, hB⟩ := hrel
    have HBr := Lib.hid hB
    by_cases hlt : k < L.length
    · as_aux_lemma =>
      rcases HC.out with hc | ⟨lb, lo, rfl, hh⟩
      · rw [hc] at hlt; simp at hlt
      obtain ⟨x0, x1, x2⟩ := hh k hlt
      obtain ⟨⟨m1, m2⟩, m3, m4, m5⟩ := KK.out.1 k hlt
      have PV : Hid (∀ j, k = j + 1 → ∃ y, y ≤ (L.getD k (0, 0, 0)).2.1 ∧ wr.cell? ⟨lb, lo + j * 3 + 1, none⟩ = some (.int .i64 y)) := Lib.hid (fun j hj => ⟨(L.getD j (0, 0, 0)).2.1, by rw [hj]; exact KK.out.2.1 j (by omega), (hB.cell (p := ⟨lb, lo + j * 3 + 1, none⟩) (ecell_in x0)).trans (hh j (by omega)).2.1⟩)
      generalize L.getD k (0, 0, 0) = Y at x0 x1 x2 m1 m2 m3 m4 m5 PV
      obtain ⟨p, q, r⟩ := Y
      dsimp only at x0 x1 x2 m1 m2 m3 m4 m5 PV
      have y0 := (hB.cell (p := ⟨lb, lo + k * 3, none⟩) (ecell_in x0)).trans x0
      have y1 := (hB.cell (p := ⟨lb, lo + k * 3 + 1, none⟩) (ecell_in x0)).trans x1
      have y2 := (hB.cell (p := ⟨lb, lo + k * 3 + 2, none⟩) (ecell_in x0)).trans x2
      have bw := B3.out.trans (hB.mono B3.out.size)
      have KM : Hid (∀ W, Below wr.heap.size wr W → Calls Tryz.prog 19 #[.agg (ecells e s), .int .i64 p] W fun y w' => y = .returned (.tuple #[.int .i64 (mvT e p), .bool false, .nilIface]) ∧ Below W.heap.size W w') := Lib.hid (fun W q' => (moved_any e s p W (HV.out _ (bw.trans (q'.mono bw.size))) (HT.out _ (bw.trans (q'.mono bw.size)))).mono (fun y w' ⟨h1, h2⟩ => ⟨by rw [h1, m1, m2, efault_0], h2⟩))
      obtain ⟨f0, f1, f2, f3, f4, f5, f6, f7, f8, f9, f10, f11, f12, f13, f14, f15, f16⟩ := ebox17 (E3.out.on hB)
      have q1 : 1 ≤ q := by omega
      have q2 : q ≤ 157785119 := by omega
      have r1 : 0 ≤ r := by omega
      have r2 : r ≤ 200000000 := by omega
      have rq : r - q = e.len := by omega
      have HRQ := Lib.hid rq
      have n0 := cell_regrown f0
      have n1 := cell_regrown f1
      have n2 := cell_regrown f2
      have n3 := cell_regrown f3
      have n4 := cell_regrown f4
      have n5 := cell_regrown f5
      have n6 := cell_regrown f6
      have n7 := cell_regrown f7
      have n8 := cell_regrown f8
      have n9 := cell_regrown f9
      have n10 := cell_regrown f10
      have n11 := cell_regrown f11
      have n12 := cell_regrown f12
      have n13 := cell_regrown f13
      have n14 := cell_regrown f14
      have n15 := cell_regrown f15
      have n16 := cell_regrown f16
      have o0 := cell_regrown y0
      have o1 := Lib.hid (cell_regrown y1)
      have o2 := Lib.hid (cell_regrown y2)
      clear hh x0 x1 x2 m1 m2 m3 bw f0 f1 f2 f3 f4 f5 f6 f7 f8 f9 f10 f11 f12 f13 f14 f15 f16 y0 y1 y2 rq hB
      go_wp2_with fail
      refine wp_region_quiet_below (by kernel_rfl) (by kernel_rfl) ?_
      repeat (quiet_step (first | (go_at_call 19; exact Calls.regrown_of (KM.out _ (below_regrown wr _ _)))))
      refine wpQuiet_nil ?_
      intro _ hw'
      obtain ⟨⟨dq, osq⟩, hw''⟩ := hw'
      subst hw''
      have hb3 := Lib.hid (HBr.out.trans ((below_regrown wr dq osq).mono HBr.out.size))
      have s1 := o1.out dq osq
      have s2 := o2.out dq osq
      have s3 := n3 dq osq
      have P4 : Hid (∀ j, k = j + 1 → ∃ y, y ≤ q ∧ (Sort.grow (redrawn wr dq) osq).cell? ⟨lb, lo + j * 3 + 1, none⟩ = some (.int .i64 y)) := Lib.hid (fun j hj => by
        obtain ⟨y, hy, hc⟩ := PV.out j hj
        exact ⟨y, hy, cell_regrown hc dq osq⟩)
      clear n0 n1 n2 n3 n4 n5 n6 n7 n8 n9 n10 n11 n12 n13 n14 n15 n16 o0 o1 o2 KM PV HBr
      generalize Sort.grow (redrawn wr dq) osq = W5 at hb3 s1 s2 s3 P4 ⊢
      have u1 : (r - q != e.len) = false := by rw [HRQ.out]; simp
      have u2 : (IntKind.i64.wrap (r - q) != e.len) = false := by rw [HRQ.out, IntKind.wrap_i64]; simp; omega
      have u3 : (wrap64 (r - q) != e.len) = false := by rw [HRQ.out]; unfold wrap64; simp; omega
      clear HRQ
      have d1 : decide (q < fr) = false := decide_eq_false (by omega)
      have d2 : decide (q ≥ t) = false := decide_eq_false (by omega)
      have d3 : decide (t ≤ q) = false := decide_eq_false (by omega)
      rcases Nat.eq_zero_or_pos k with h0 | h0
      · have d4 : decide ((k : Int) > 0) = false := decide_eq_false (by omega)
        have d5 : decide ((0 : Int) < (k : Int)) = false := decide_eq_false (by omega)
        have d8 : decide (0 < k) = false := decide_eq_false (by omega)
        clear P4 h0
        go_wp2_with fail
        go_quiet (fail)
        go_wp2
        go_roundw
        case rel => exact ⟨k + 1, by omega, by go_num, below_drewN hb3.out _⟩
        case measure => simp [intOf]; omega
      · obtain ⟨j, hj⟩ : ∃ j, k = j + 1 := ⟨k - 1, by omega⟩
        obtain ⟨y, hy, s4⟩ := P4.out j hj
        have i1 : (0 : Int) ≤ (k : Int) - 1 := by omega
        have i2 : (k : Int) - 1 < (L.length : Int) := by omega
        have i3 : ((k : Int) - 1).toNat = j := by omega
        have d4 : decide ((k : Int) > 0) = true := decide_eq_true (by omega)
        have d5 : decide ((0 : Int) < (k : Int)) = true := decide_eq_true (by omega)
        have d8 : decide (0 < k) = true := decide_eq_true h0
        have d6 : decide (y > q) = false := decide_eq_false (by omega)
        have d7 : decide (q < y) = false := decide_eq_false (by omega)
        clear P4 hj
        go_wp2_with fail
        go_quiet (fail)
        go_wp2
        go_roundw
        case rel => exact ⟨k + 1, by omega, by go_num, below_drewN hb3.out _⟩
        case measure => simp [intOf]; omega
    · as_aux_lemma =>
      obtain ⟨w4, rfl⟩ : ∃ w4, w4 = wr := ⟨_, rfl⟩
      have B4 := Lib.hid (B3.out.trans (hB.mono B3.out.size))
      have E4 := Lib.hid (E3.out.on hB)
      have X4 := Lib.hid (X3.out.on hB)
      have T4 := Lib.hid (LT.out.on hB)
      obtain ⟨la', lc', e', hc⟩ := LT.out.on hB
      obtain ⟨rfl, rfl⟩ : la = la' ∧ lc = lc' := by simpa using e'
      have HC4 := Lib.hid hc
      clear hB hc e' HBr HC LT B3 E3 X3
      go_wp2_with fail
      go_loopw [20, 21, 22] (fun iv _ _ wr => ∃ k : Nat, k ≤ L.length ∧ iv = .int .i64 k ∧ Below w4.heap.size w4 wr) (fun iv _ _ _ => L.length - (intOf iv).toNat)
      case atStart => exact ⟨0, Nat.zero_le _, rfl, Below.refl _ _⟩
      case round =>
        obtain ⟨k, hk, rfl, hB⟩ := hrel
        have HBr := Lib.hid hB
        clear hB
        rcases (by omega : (k + 1 < L.length ∧ k < 10) ∨ (k + 1 < L.length ∧ ¬ k < 10) ∨ ¬ (k + 1 < L.length)) with ⟨h1, h2⟩ | hex
        · as_aux_lemma =>
          rcases HC4.out with hc | ⟨lb, lo, rfl, hh⟩
          · rw [hc] at h1; simp at h1
          obtain ⟨x0, x1, x2⟩ := hh k (by omega)
          obtain ⟨x3, x4, x5⟩ := hh (k + 1) h1
          have KX := Lib.hid (KK.out.2.2.1 k h1)
          have y1 := KK.out.1 k (by omega)
          have y2 := KK.out.1 (k + 1) h1
          generalize L.getD k (0, 0, 0) = Y at x0 x1 x2 KX y1
          generalize L.getD (k + 1) (0, 0, 0) = Z at x3 x4 x5 KX y2
          obtain ⟨p, q, r⟩ := Y
          obtain ⟨p', q', r'⟩ := Z
          dsimp only at x0 x1 x2 x3 x4 x5 KX y1 y2
          obtain ⟨_, _, y3, y4⟩ := y1
          obtain ⟨_, _, y5, y6⟩ := y2
          have bw := B4.out.trans (HBr.out.mono B4.out.size)
          have KM := Lib.hid (fun W (g : Below wr.heap.size wr W) => tnext_any a l _ e s q W (HZ.out _ (bw.trans (g.mono bw.size))) (HV.out _ (bw.trans (g.mono bw.size))) (HT.out _ (bw.trans (g.mono bw.size))))
          have HS : Hid (∀ X, Below wr.heap.size wr X → ((X.cell? ⟨w.heap.size + 1, 0, none⟩ = some (.string e.name) ∧ X.cell? ⟨w.heap.size + 1, 1, none⟩ = some (.string e.text) ∧ X.cell? ⟨w.heap.size + 1, 2, none⟩ = some (.int .i64 e.start) ∧ X.cell? ⟨w.heap.size + 1, 3, none⟩ = some (.int .i64 e.len) ∧ X.cell? ⟨w.heap.size + 1, 4, none⟩ = some (.bool e.rep) ∧ X.cell? ⟨w.heap.size + 1, 5, none⟩ = some (.int .i64 e.rule.freq) ∧ X.cell? ⟨w.heap.size + 1, 6, none⟩ = some (.int .i64 e.rule.every) ∧ X.cell? ⟨w.heap.size + 1, 7, none⟩ = some (.int .i64 e.rule.count) ∧ X.cell? ⟨w.heap.size + 1, 8, none⟩ = some (.int .i64 e.rule.till) ∧ X.cell? ⟨w.heap.size + 1, 9, none⟩ = some s.vm ∧ X.cell? ⟨w.heap.size + 1, 10, none⟩ = some s.vd ∧ X.cell? ⟨w.heap.size + 1, 11, none⟩ = some s.vw ∧ X.cell? ⟨w.heap.size + 1, 12, none⟩ = some s.vp ∧ X.cell? ⟨w.heap.size + 1, 13, none⟩ = some s.vo ∧ X.cell? ⟨w.heap.size + 1, 14, none⟩ = some s.vn ∧ X.cell? ⟨w.heap.size + 1, 15, none⟩ = some s.vc ∧ X.cell? ⟨w.heap.size + 1, 16, none⟩ = some s.va) ∧ (X.cell? ⟨w.heap.size, 0, none⟩ = some (.int .i64 a) ∧ X.cell? ⟨w.heap.size, 1, none⟩ = some (.slice sa l.length sc)) ∧ X.cell? ⟨lb, lo + k * 3 + 1, none⟩ = some (.int .i64 q))) := Lib.hid (fun X g => by
            have g4 := HBr.out.trans (g.mono HBr.out.size)
            exact ⟨ebox17 (E4.out.on g4), X4.out.on g4, (g4.cell (p := ⟨lb, lo + k * 3 + 1, none⟩) (ecell_in x0)).trans x1⟩)
          have C5 : Hid (∀ X, Below wr.heap.size wr X → X.cell? ⟨lb, lo + k * 3 + 1, none⟩ = some (.int .i64 q) ∧ X.cell? ⟨lb, lo + (k + 1) * 3, none⟩ = some (.int .i64 p') ∧ X.cell? ⟨lb, lo + (k + 1) * 3 + 1, none⟩ = some (.int .i64 q') ∧ X.cell? ⟨lb, lo + (k + 1) * 3 + 2, none⟩ = some (.int .i64 r')) := Lib.hid (fun X g => by
            have g4 := HBr.out.trans (g.mono HBr.out.size)
            exact ⟨(g4.cell (p := ⟨lb, lo + k * 3 + 1, none⟩) (ecell_in x0)).trans x1, (g4.cell (p := ⟨lb, lo + (k + 1) * 3, none⟩) (ecell_in x0)).trans x3, (g4.cell (p := ⟨lb, lo + (k + 1) * 3 + 1, none⟩) (ecell_in x0)).trans x4, (g4.cell (p := ⟨lb, lo + (k + 1) * 3 + 2, none⟩) (ecell_in x0)).trans x5⟩)
          generalize tnF a l e q = NF at KM KX
          generalize tnT a l e q = NT at KM KX
          clear hh x0 x1 x2 x3 x4 x5 bw
          go_upto_region 17 with fail
          go_cut [21, 22] from 149 to 210 (fun s21 s22 wx => ∃ bx, s21 = .pointer (some ⟨bx, 0, none⟩) ∧ s22 = fault NF ∧ Tri wx bx NT ∧ Below wr.heap.size wr wx)
          case first =>
            as_aux_lemma =>
            obtain ⟨n1, n2, n3⟩ := NT
            have kl : k < L.length := by omega
            go_region_held3 (fun X => ((X.cell? ⟨w.heap.size + 1, 0, none⟩ = some (.string e.name) ∧ X.cell? ⟨w.heap.size + 1, 1, none⟩ = some (.string e.text) ∧ X.cell? ⟨w.heap.size + 1, 2, none⟩ = some (.int .i64 e.start) ∧ X.cell? ⟨w.heap.size + 1, 3, none⟩ = some (.int .i64 e.len) ∧ X.cell? ⟨w.heap.size + 1, 4, none⟩ = some (.bool e.rep) ∧ X.cell? ⟨w.heap.size + 1, 5, none⟩ = some (.int .i64 e.rule.freq) ∧ X.cell? ⟨w.heap.size + 1, 6, none⟩ = some (.int .i64 e.rule.every) ∧ X.cell? ⟨w.heap.size + 1, 7, none⟩ = some (.int .i64 e.rule.count) ∧ X.cell? ⟨w.heap.size + 1, 8, none⟩ = some (.int .i64 e.rule.till) ∧ X.cell? ⟨w.heap.size + 1, 9, none⟩ = some s.vm ∧ X.cell? ⟨w.heap.size + 1, 10, none⟩ = some s.vd ∧ X.cell? ⟨w.heap.size + 1, 11, none⟩ = some s.vw ∧ X.cell? ⟨w.heap.size + 1, 12, none⟩ = some s.vp ∧ X.cell? ⟨w.heap.size + 1, 13, none⟩ = some s.vo ∧ X.cell? ⟨w.heap.size + 1, 14, none⟩ = some s.vn ∧ X.cell? ⟨w.heap.size + 1, 15, none⟩ = some s.vc ∧ X.cell? ⟨w.heap.size + 1, 16, none⟩ = some s.va) ∧ (X.cell? ⟨w.heap.size, 0, none⟩ = some (.int .i64 a) ∧ X.cell? ⟨w.heap.size, 1, none⟩ = some (.slice sa l.length sc)) ∧ X.cell? ⟨lb, lo + k * 3 + 1, none⟩ = some (.int .i64 q)))
              (first | exact HS.out _ (Below.drew (Below.refl _ wr)) | exact HS.out _ hb3 | exact HS.out _ (Below.alloc hb3 (Below.size hb3) _) | exact HS.out _ (Below.drew (Below.alloc (Below.refl _ wr) (Nat.le_refl _) _)) | exact HS.out _ (Below.setCell hb3 (Nat.le_refl _) _) | exact HS.out _ (Below.setCell (Below.setCell hb3 (Nat.le_refl _) _) (Nat.le_refl _) _) | exact HS.out _ (Below.setCell (Below.setCell (Below.setCell hb3 (Nat.le_refl _) _) (Nat.le_refl _) _) (Nat.le_refl _) _))
              (first
              | (go_at_call 18; refine (KM.out _ (Below.drew (Below.refl _ wr))).mono ?_; rintro y w5 ⟨rfl, hb3'⟩; have hb3 : Below wr.heap.size wr w5 := Below.trans (Below.drew (Below.refl _ wr)) hb3'; clear hb3')
              | (go_at_call 18; refine (KM.out _ (Below.drew (Below.alloc (Below.refl _ wr) (Nat.le_refl _) _))).mono ?_; rintro y w5 ⟨rfl, hb3'⟩; have hb3 : Below wr.heap.size wr w5 := Below.trans (Below.drew (Below.alloc (Below.refl _ wr) (Nat.le_refl _) _)) (Below.mono hb3' (by simp)); obtain ⟨⟨⟨zc0, zc1, zc2⟩, zf0, zf1, zf2⟩, zlt⟩ := z3_old hb3'; clear hb3'))
            · have hA : Below wr.heap.size wr (w5.alloc (.cells #[.int .i64 n1, .int .i64 n2, .int .i64 n3] 49)) := hb3.alloc hb3.size _
              have TA : Tri (w5.alloc (.cells #[.int .i64 n1, .int .i64 n2, .int .i64 n3] 49)) w5.heap.size (n1, n2, n3) := by refine ⟨?_, ?_, ?_⟩ <;> simp
              have QA := Lib.hid (And.intro TA hA)
              clear hA TA hb3 HS KM C5
              go_wp2
              go_meet
              case rel => exact ⟨_, rfl, rfl, QA.out.1, QA.out.2⟩
            · have hA : Below wr.heap.size wr (((w5.setCell ⟨wr.heap.size, 0, none⟩ (.int .i64 n1)).setCell ⟨wr.heap.size, 1, none⟩ (.int .i64 n2)).setCell ⟨wr.heap.size, 2, none⟩ (.int .i64 n3)) := ((hb3.setCell (p := ⟨wr.heap.size, 0, none⟩) (Nat.le_refl _) _).setCell (p := ⟨wr.heap.size, 1, none⟩) (Nat.le_refl _) _).setCell (p := ⟨wr.heap.size, 2, none⟩) (Nat.le_refl _) _
              have TA : Tri (((w5.setCell ⟨wr.heap.size, 0, none⟩ (.int .i64 n1)).setCell ⟨wr.heap.size, 1, none⟩ (.int .i64 n2)).setCell ⟨wr.heap.size, 2, none⟩ (.int .i64 n3)) wr.heap.size (n1, n2, n3) := by
                refine ⟨?_, ?_, ?_⟩
                · rw [World.cell?_setCell_other _ _ _ _ (by simp), World.cell?_setCell_other _ _ _ _ (by simp)]
                  exact World.cell?_setCell_same _ _ _ zc0
                · rw [World.cell?_setCell_other _ _ _ _ (by simp)]
                  exact World.cell?_setCell_same _ _ _ ((World.cell?_setCell_other _ _ _ _ (by simp)).trans zc1)
                · exact World.cell?_setCell_same _ _ _ ((World.cell?_setCell_other _ _ _ _ (by simp)).trans ((World.cell?_setCell_other _ _ _ _ (by simp)).trans zc2))
              have QA := Lib.hid (And.intro TA hA)
              clear hA TA hb3 HS KM C5
              go_wp2
              go_meet
              case rel => exact ⟨_, rfl, rfl, QA.out.1, QA.out.2⟩
          case rest =>
          as_aux_lemma =>
          obtain ⟨bx, rfl, rfl, ⟨t0, t1, t2⟩, hb⟩ := hcut
          obtain ⟨n1, n2, n3⟩ := NT
          dsimp only at t0 t1 t2
          obtain ⟨x1, x3, x4, x5⟩ := C5.out _ hb
          have HBx := Lib.hid (HBr.out.trans (hb.mono HBr.out.size))
          have i1 : (0 : Int) ≤ (k : Int) + 1 := by omega
          have i2 : (k : Int) + 1 < (L.length : Int) := by omega
          have i3 : ((k : Int) + 1).toNat = k + 1 := by omega
          have i4 : k < L.length := by omega
          have i5 : 1 ≤ q := by omega
          have i6 : q ≤ 157785119 := by omega
          have i7 : 1 ≤ q' := by omega
          have i8 : q' ≤ 157785119 := by omega
          clear hb C5 HS KM HBr y3 y4 y5 y6
          by_cases j1 : q < q'
          case neg =>
            have d1 : decide (q' > q) = false := decide_eq_false (by omega)
            have d2 : decide (q < q') = false := decide_eq_false (by omega)
            clear KX
            go_wp2_with fail
            go_quiet (fail)
            go_wp2
            go_roundw
            case rel => exact ⟨k + 1, by omega, by go_num, below_drewN HBx.out _⟩
            case measure => simp [intOf]; omega
          by_cases j2 : q' - q ≤ 500000
          case neg =>
            have d1 : decide (q' > q) = true := decide_eq_true (by omega)
            have d2 : decide (q < q') = true := decide_eq_true (by omega)
            have d3 : decide (q' - q ≤ 500000) = false := decide_eq_false j2
            clear KX
            go_wp2_with fail
            go_quiet (fail)
            go_wp2
            go_roundw
            case rel => exact ⟨k + 1, by omega, by go_num, below_drewN HBx.out _⟩
            case measure => simp [intOf]; omega
          obtain ⟨v1, v2⟩ := KX.out j1 j2
          obtain ⟨rfl, rfl, rfl⟩ : n1 = p' ∧ n2 = q' ∧ n3 = r' := by simpa using v2
          rw [v1, efault_0]
          have d1 : decide (n2 > q) = true := decide_eq_true (by omega)
          have d2 : decide (q < n2) = true := decide_eq_true (by omega)
          have d3 : decide (n2 - q ≤ 500000) = true := decide_eq_true j2
          clear KX v1 v2
          go_wp2_with fail
          go_quiet (fail)
          go_wp2
          go_roundw
          case rel => exact ⟨k + 1, by omega, by go_num, below_drewN HBx.out _⟩
          case measure => simp [intOf]; omega
        · rcases hex with ⟨h1, h2⟩ | h1
          all_goals
            as_aux_lemma =>
              have B5 := Lib.hid (B4.out.trans (HBr.out.mono B4.out.size))
              have E5 := Lib.hid (E4.out.on HBr.out)
              have X5 := Lib.hid (X4.out.on HBr.out)
              have T5 := Lib.hid (T4.out.on HBr.out)
              clear HC4 HBr B4 E4 X4 T4
              go_upto_region 20 with fail
              by_cases g1 : c < fr
              · go_wp2
                go_ret
                exact ⟨rfl, B5.out⟩
              by_cases g2 : t < c
              · go_wp2
                go_ret
                exact ⟨rfl, B5.out⟩
              have g3 : ¬ c < 1 := by omega
              obtain ⟨p1, p2, p3⟩ := KK.out.2.2.2.1 (by omega) (by omega)
              have P2 := Lib.hid p2
              have P3 := Lib.hid p3
              have K3 := tbetween_any a l _ e s fr c wr (HZ.out _ B5.out) (HV.out _ B5.out) (HT.out _ B5.out)
              rw [p1] at K3
              have HK3 := Lib.hid K3
              clear p1 p2 p3 K3
              obtain ⟨z0, z1⟩ := X5.out
              have zl := ecell_in z0
              go_wp2_with (refine ev_load (by rfl) (.tmp 6) (by rfl) (w.heap.size + 1) e s (by rfl) E5.out ?_)
              clear z0 z1 zl
              refine HK3.out.mono ?_
              rintro x w6 ⟨va, rfl, _, hb, oa⟩
              rw [efault_0]
              have B6 := Lib.hid (B5.out.trans (hb.mono B5.out.size))
              have E6 := Lib.hid (E5.out.on hb)
              have X6 := Lib.hid (X5.out.on hb)
              have H6 := Lib.hid hb
              have OA := Lib.hid oa
              have S5 := Lib.hid B5.out.size
              clear hb oa B5 E5 X5 HK3
              have K4 := tbetween_any a l _ e s c t w6 (HZ.out _ B6.out) (HV.out _ B6.out) (HT.out _ B6.out)
              rw [P2.out] at K4
              have HK4 := Lib.hid K4
              clear K4 P2
              obtain ⟨z0, z1⟩ := X6.out
              have zl := ecell_in z0
              go_wp2_with (refine ev_load (by rfl) (.tmp 6) (by rfl) (w.heap.size + 1) e s (by rfl) E6.out ?_)
              clear z0 z1 zl
              refine HK4.out.mono ?_
              rintro x w7 ⟨vb, rfl, _, hb, ob⟩
              rw [efault_0]
              have B7 := Lib.hid (B6.out.trans (hb.mono B6.out.size))
              have H7 := Lib.hid (H6.out.trans (hb.mono H6.out.size))
              have OA7 := ow_below OA.out hb
              have LB := congrArg List.length P3.out
              rw [List.length_append] at LB
              obtain ⟨v8, w8, happ, ho8, hb8⟩ := app3_any OA7 ob H7.out.size (by omega)
              rw [P3.out] at ho8
              have T8 := T5.out.on (H7.out.trans hb8)
              have K5 := Lib.hid (sameTimes L v8 _ w8 (own_tms ho8) T8 (by omega))
              have B8 := Lib.hid (B7.out.trans (hb8.mono S5.out))
              have HAPP := Lib.hid happ
              clear happ ho8 hb8 T8 OA7 hb ob HK4 B7 B6 E6 X6 OA H6 H7 T5 P3 LB
              go_wp2_with (at_builtin; refine wpList_app rfl _ _ 41 rfl _ _ _ _ rfl rfl HAPP.out ?_)
              refine K5.out.mono ?_
              rintro x w9 ⟨rfl, hb⟩
              have B9 := Lib.hid (B8.out.trans (hb.mono B8.out.size))
              clear hb K5 B8
              go_wp2
              go_ret
              exact ⟨rfl, B9.out⟩
end Go.Proofs.YtdiijpjfkgnjkaeGreatDoor
