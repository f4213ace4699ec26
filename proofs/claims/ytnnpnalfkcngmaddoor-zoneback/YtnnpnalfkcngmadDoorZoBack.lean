/-
  What is proved here: the walk of chimelaw1.ZoneBack: it returns true for every zone and two numbers, and turns nothing that was there; that the program's own type of errors is the one that is listed is asked as a premise.
-/
import Derived.Test.YtnnpnalfkcngmadDoorZoTwi
import Derived.Test.YtnnpnalfkcngmadDoorRefIn
import Derived.Test.YtnnpnalfkcngmadDoorErrT
namespace Go.Proofs.YtnnpnalfkcngmadDoor
open Go.RowKit Cal Txt Zo

theorem twi_at {a : Int} {l : List (Int × Int)} {t : Int} {k : Nat} (h : zt a l t = 0) (hk : k < (twi a l t).length) : zl a l ((twi a l t).getD k 0) = 0 ∧ (twi a l t).getD k 0 + zah a l (beg ((twi a l t).getD k 0) l) = t := by
  have hm : (twi a l t).getD k 0 ∈ twi a l t := by rw [List.getD_eq_getElem?_getD, List.getElem?_eq_getElem hk]; exact List.getElem_mem hk
  obtain ⟨h1, h2⟩ := twi_mem.1 hm
  obtain ⟨g1, g2⟩ := zt_open h
  have e : (twi a l t).getD k 0 + zah a l (beg ((twi a l t).getD k 0) l) = t := by omega
  refine ⟨?_, e⟩
  have z0 : zt a l ((twi a l t).getD k 0) = 0 := by unfold zt; rw [if_pos g1, if_pos h1]
  unfold zl
  rw [if_pos z0, e, if_pos (show isT t = true from decide_eq_true g2)]
theorem twi_step {a : Int} {l : List (Int × Int)} {t : Int} {k : Nat} (hk : k + 1 < (twi a l t).length) : (twi a l t).getD k 0 < (twi a l t).getD (k + 1) 0 := by
  have := List.pairwise_iff_getElem.1 (twi_rise a l t) k (k + 1) (by omega) hk (by omega)
  rw [List.getD_eq_getElem?_getD, List.getD_eq_getElem?_getD, List.getElem?_eq_getElem hk, List.getElem?_eq_getElem (by omega)]
  exact this
theorem twi_back {a : Int} {l : List (Int × Int)} {u : Int} (h : zl a l u = 0) : zt a l (u + zah a l (beg u l)) = 0 ∧ (twi a l (u + zah a l (beg u l))).contains u = true := by
  obtain ⟨h1, h2, h3⟩ := zl_open h
  refine ⟨?_, ?_⟩
  · unfold zt; rw [if_pos h1, if_pos (show isT _ = true from decide_eq_true h3)]
  · rw [List.contains_eq_mem, decide_eq_true_iff, twi_mem]
    exact ⟨decide_eq_true h2, by omega⟩
theorem two_shifts (W : World) (t : TypeId) : Nths (W.alloc (.cells #[.int .i64 10000, .int .i64 120, .int .i64 20000, .int .i64 60] t)) (.slice (some ⟨W.heap.size, 0, none⟩) 2 2) [(10000, 120), (20000, 60)] := by
  refine ⟨_, _, rfl, Or.inr ⟨_, _, rfl, fun i hi => ?_⟩⟩
  rcases (by simp at hi; omega : i = 0 ∨ i = 1) with rfl | rfl <;> simp
theorem fact_twice : zt 60 [(10000, 120), (20000, 60)] 20100 = 0 ∧ twi 60 [(10000, 120), (20000, 60)] 20100 = [19980, 20040] := by decide
theorem fact_gap : zw 60 [(10000, 120), (20000, 60)] 10090 = 8 := by decide
set_option maxRecDepth 100000 in
set_option maxHeartbeats 4000000 in
theorem zback (a : Int) (l : List (Int × Int)) (v : Value) (u t : Int) (w : World) (hv : ZoneIn w v a l) (hG : ErrTy w) :
    Calls Tryd.prog 5 #[v, .int .i64 u, .int .i64 t] w fun e w' => e = .returned (.bool true) ∧ Below w.heap.size w w' := by
  have HV := Lib.hid (fun W (q : Below w.heap.size w W) => hv.on q)
  have HG := Lib.hid (fun W (q : Below w.heap.size w W) => hG.below q)
  obtain ⟨sa, sc, rfl⟩ := hv.form
  have B0 := (Below.refl w.heap.size w).alloc (Nat.le_refl _) (.cells #[.int .i64 a, .slice sa l.length sc] 34)
  have HB := Lib.hid B0
  have hz := Lib.hid (ZBox.new w a (.slice sa l.length sc) 34)
  clear hv B0 hG
  obtain ⟨F1, F2⟩ := fact_twice
  have TS := two_shifts (w.alloc (.cells #[.int .i64 a, .slice sa l.length sc] 34)) 47
  have AA := ((Below.refl _ (w.alloc (.cells #[.int .i64 a, .slice sa l.length sc] 34))).alloc (Nat.le_refl _) (.cells #[.int .i64 10000, .int .i64 120, .int .i64 20000, .int .i64 60] 47)).alloc (by simp) (.cells #[.int .i64 60, .slice (some ⟨(w.alloc (.cells #[.int .i64 a, .slice sa l.length sc] 34)).heap.size, 0, none⟩) 2 2] 34)
  have Z0 := ZBox.new ((w.alloc (.cells #[.int .i64 a, .slice sa l.length sc] 34)).alloc (.cells #[.int .i64 10000, .int .i64 120, .int .i64 20000, .int .i64 60] 47)) 60 (.slice (some ⟨(w.alloc (.cells #[.int .i64 a, .slice sa l.length sc] 34)).heap.size, 0, none⟩) 2 2) 34
  have T0 := TS.on ((Below.refl _ _).alloc (Nat.le_refl _) (.cells #[.int .i64 60, .slice (some ⟨(w.alloc (.cells #[.int .i64 a, .slice sa l.length sc] 34)).heap.size, 0, none⟩) 2 2] 34))
  have B0' := HB.out.trans (AA.mono HB.out.size)
  have hz0 := hz.out.on AA
  simp only [World.size_alloc] at Z0 T0 B0' hz0
  have KT := Lib.hid (ztwice_any 60 [(10000, 120), (20000, 60)] (.agg #[.int .i64 60, .slice (some ⟨w.heap.size + 1, 0, none⟩) 2 2]) 20100 _ ⟨_, rfl, T0⟩)
  have HT0 := Lib.hid (fun W q => T0.on (w' := W) q)
  have HZ0 := Lib.hid Z0
  have HB0 := Lib.hid B0'
  have Hz0 := Lib.hid hz0
  clear hz HB TS AA Z0 T0 B0' hz0
  go_enter Tryd.func5, Tryd.ntmps5
  go_wp2_with fail
  generalize ((w.alloc (.cells #[.int .i64 a, .slice sa l.length sc] 34)).alloc (.cells #[.int .i64 10000, .int .i64 120, .int .i64 20000, .int .i64 60] 47)).alloc (.cells #[.int .i64 60, .slice (some ⟨w.heap.size + 1, 0, none⟩) 2 2] 34) = W1 at KT HT0 HZ0 HB0 Hz0 ⊢
  refine KT.out.mono ?_
  rintro e w1 ⟨hb, ⟨hf, rfl⟩ | ⟨hf, v1, rfl, hx⟩⟩
  · exact absurd F1 hf
  rw [F2] at hx
  obtain ⟨av, cv, rfl, _⟩ := id hx
  have KW := Lib.hid (zworld_any 60 [(10000, 120), (20000, 60)] (.agg #[.int .i64 60, .slice (some ⟨w.heap.size + 1, 0, none⟩) 2 2]) 10090 w1 ⟨_, rfl, HT0.out _ hb⟩)
  have B1 := Lib.hid (HB0.out.trans (hb.mono HB0.out.size))
  have z1 := Lib.hid (Hz0.out.on hb)
  have Z1 := HZ0.out.on hb
  have Zl := Z1.lt
  have HX := Lib.hid (fun W q => hx.on (w' := W) q)
  obtain ⟨e1, e2⟩ := Z1
  clear hb hf hx KT HT0 HZ0 HB0 Hz0 F1 F2
  go_wp2_with fail
  refine KW.out.mono ?_
  rintro e w2 ⟨rfl, hb⟩
  rw [fact_gap, NumA_no (by decide)]
  have B2 := Lib.hid (B1.out.trans (hb.mono B1.out.size))
  have z2 := Lib.hid (z1.out.on hb)
  have HX2 := Lib.hid (HX.out _ hb)
  have KE := Lib.hid (errT_fault 8 w2 (HG.out _ B2.out))
  rw [zfault_ne (by decide)] at KE
  clear hb KW B1 z1 HX e1 e2 Zl
  go_wp2_with fail
  refine KE.out.mono ?_
  rintro e w3 ⟨rfl, hb⟩
  have B3 := B2.out.trans (hb.mono B2.out.size)
  have z3 := z2.out.on hb
  obtain ⟨av', cv', e', hc⟩ := HX2.out.on hb
  obtain ⟨rfl, rfl⟩ : av = av' ∧ cv = cv' := by simpa using e'
  rcases hc with hc | ⟨b, off, rfl, hc⟩
  · cases hc
  have c0 := hc 0 (by decide)
  have c1 := hc 1 (by decide)
  simp only [List.getD_cons_zero, List.getD_cons_succ, Nat.add_zero] at c0 c1
  have zlt := z3.lt
  have HZ3 := Lib.hid z3
  have HB3 := Lib.hid B3
  have KL := Lib.hid (zlocal_any a l _ u w3 (HV.out _ B3))
  obtain ⟨q1, q2⟩ := z3
  clear hb KE B2 z2 HX2 hc e' B3
  go_wp2_with fail
  clear c0 c1 q1 q2 zlt
  refine KL.out.mono ?_
  rintro e w4 ⟨rfl, hb⟩
  have B4 := Lib.hid (HB3.out.trans (hb.mono HB3.out.size))
  have z4 := HZ3.out.on hb
  have zlt := z4.lt
  have HZ4 := Lib.hid z4
  obtain ⟨q1, q2⟩ := z4
  clear hb KL HB3 HZ3
  by_cases f1 : zl a l u = 0
  case' pos =>
    rw [NumA_yes f1]
    obtain ⟨g1, g2⟩ := twi_back f1
    obtain ⟨x, hx⟩ : ∃ x, x = u + zah a l (beg u l) := ⟨_, rfl⟩
    rw [← hx] at g1 g2
    rw [← hx]
    have KT := Lib.hid (ztwice_any a l _ x w4 (HV.out _ B4.out))
    have IN := Lib.hid g2
    clear hx f1 g2
    go_wp2_with fail
    refine KT.out.mono ?_
    rintro e w5 ⟨hb, ⟨hf, rfl⟩ | ⟨_, v5, rfl, hx⟩⟩
    · exact absurd g1 hf
    obtain ⟨av, cv, rfl, _⟩ := id hx
    have TL := Lib.hid (twi_len a l x)
    have LL := Lib.hid (zf_open (zt_open g1).1).1
    have KI := Lib.hid (Zo.refIn_any _ (twi a l x) u w5 hx (by have := TL.out; have := LL.out; omega))
    rw [IN.out] at KI
    have B5 := B4.out.trans (hb.mono B4.out.size)
    have z5 := HZ4.out.on hb
    clear hb hx KT g1 B4 HZ4 q1 q2 zlt TL IN LL
    go_wp2_with fail
    refine KI.out.mono ?_
    rintro e wk ⟨rfl, hw⟩
    subst hw
    have Bk := Lib.hid B5
    have HZk := Lib.hid z5
    have zlt := z5.lt
    have q1 := z5.1
    have q2 := z5.2
    have KL := Lib.hid (ztwice_any a l _ t wk (HV.out _ B5))
    clear KI B5 z5
    go_wp2_with fail
  case' neg =>
    rw [NumA_no f1]
    have Bk := B4
    have HZk := HZ4
    have KL := Lib.hid (ztwice_any a l _ t w4 (HV.out _ B4.out))
    clear f1 B4 HZ4
    go_wp2_with fail
  all_goals
    refine KL.out.mono ?_
    clear q1 q2 zlt
    rintro e w6 ⟨hb, ⟨hf, rfl⟩ | ⟨hf, v6, rfl, hx⟩⟩
    · have B6 := Bk.out.trans (hb.mono Bk.out.size)
      clear hb hf
      go_wp2
      go_ret
      exact ⟨rfl, B6⟩
    have B6 := Lib.hid (Bk.out.trans (hb.mono Bk.out.size))
    have HZ6 := Lib.hid (HZk.out.on hb)
    have HX := Lib.hid (fun W q => hx.on (w' := W) q)
    have TA := Lib.hid (fun k (q : k < (twi a l t).length) => twi_at hf q)
    have TS := Lib.hid (fun k (q : k + 1 < (twi a l t).length) => twi_step q)
    have TL := twi_len a l t
    have LL := (zf_open (zt_open hf).1).1
    have WE : Hid (zw a l t = if (twi a l t).length = 0 then 8 else 0) := Lib.hid (if_pos hf)
    obtain ⟨av, cv, rfl, _⟩ := id hx
    obtain ⟨n, hn⟩ : ∃ n, n = (twi a l t).length := ⟨_, rfl⟩
    rw [← hn] at TL TA TS WE
    rw [← hn]
    have HN := Lib.hid hn
    have L21 : n ≤ 21 := by omega
    clear hb hf hx hn KL Bk HZk
    go_wp2_with fail
    go_loopw [19] (fun i wr => ∃ k : Nat, k ≤ n ∧ i = .int .i64 k ∧ Below w6.heap.size w6 wr) (fun i _ => n - (intOf i).toNat)
    case atStart => exact ⟨0, Nat.zero_le _, rfl, Below.refl _ _⟩
    case round =>
      obtain ⟨k, hk, rfl, hB⟩ := hrel
      have Bw := B6.out.trans (hB.mono B6.out.size)
      have zb := HZ6.out.on hB
      have zlt := zb.lt
      obtain ⟨q1, q2⟩ := zb
      by_cases hlt : k < n
      · obtain ⟨av', cv', e', hc⟩ := HX.out _ hB
        obtain ⟨rfl, rfl⟩ : av = av' ∧ cv = cv' := by simpa using e'
        rcases hc with hc | ⟨b, off, rfl, hc⟩
        · have := HN.out; rw [hc] at this; simp at this; omega
        have k1 := hc k (by rw [← HN.out]; exact hlt)
        have bl := zcell_in k1
        obtain ⟨x, hx⟩ : ∃ x, x = (twi a l t).getD k 0 := ⟨_, rfl⟩
        rw [← hx] at k1
        obtain ⟨g1, g2⟩ := TA.out k hlt
        rw [← hx] at g1 g2
        have KX : Hid (∀ W, Below wr.heap.size wr W → Calls Tryd.prog 14 #[.agg #[.int .i64 a, .slice sa l.length sc], .int .i64 x] W fun e w' => e = .returned (.tuple #[.int .i64 t, .nilIface]) ∧ Below W.heap.size W w') := Lib.hid (fun W q =>
          (zlocal_any a l _ x W (HV.out _ (Bw.trans (q.mono Bw.size)))).mono (fun e w' ⟨h1, h2⟩ => ⟨by rw [h1, NumA_yes g1, g2], h2⟩))
        have PV : Hid (∀ j, k = j + 1 → ∃ p, p < x ∧ wr.cell? ⟨b, off + j, none⟩ = some (.int .i64 p)) := Lib.hid (fun j hj => ⟨(twi a l t).getD j 0, by rw [hx, hj]; exact TS.out j (by omega), hc j (by rw [← HN.out]; omega)⟩)
        have HBr := Lib.hid hB
        clear hx hc e' g1 g2 hB Bw
        rcases Nat.eq_zero_or_pos k with h0 | h0
        · subst h0
          rw [Nat.add_zero] at k1
          go_wp2_with fail
          have r1 := cell_regrown q1
          have r2 := cell_regrown q2
          have r3 := cell_regrown k1
          refine wp_region_quiet_below (by kernel_rfl) (by kernel_rfl) ?_
          repeat (quiet_step (first | (go_at_call 14; exact Calls.regrown_of (KX.out _ (below_regrown wr _ _)))))
          refine wpQuiet_nil ?_
          intro _ hw'
          obtain ⟨⟨dq, osq⟩, hw''⟩ := hw'
          subst hw''
          have hb3 := Lib.hid (HBr.out.trans ((below_regrown wr dq osq).mono HBr.out.size))
          have s1 := r1 dq osq
          have s3 := r3 dq osq
          clear r1 r2 r3 q1 q2 k1 KX PV
          generalize Sort.grow (redrawn wr dq) osq = W3 at hb3 s1 s3 ⊢
          go_wp2_with fail
          go_quiet (fail)
          go_wp2
          go_roundw
          case rel => exact ⟨1, by omega, by go_num, below_drewN hb3.out _⟩
          case measure => simp [intOf]; omega
        · obtain ⟨j, hj⟩ : ∃ j, k = j + 1 := ⟨k - 1, by omega⟩
          obtain ⟨p, hp, k2⟩ := PV.out j hj
          have HJ := Lib.hid hj
          clear hj
          go_wp2_with fail
          have r1 := cell_regrown q1
          have r2 := cell_regrown q2
          have r3 := cell_regrown k1
          have r4 := cell_regrown k2
          refine wp_region_quiet_below (by kernel_rfl) (by kernel_rfl) ?_
          repeat (quiet_step (first | (go_at_call 14; exact Calls.regrown_of (KX.out _ (below_regrown wr _ _)))))
          refine wpQuiet_nil ?_
          intro _ hw'
          obtain ⟨⟨dq, osq⟩, hw''⟩ := hw'
          subst hw''
          have hb3 := Lib.hid (HBr.out.trans ((below_regrown wr dq osq).mono HBr.out.size))
          have s3 := r3 dq osq
          have s4 := r4 dq osq
          clear r1 r2 r3 r4 q1 q2 k1 k2 KX PV
          have hj := HJ.out
          subst hj
          generalize Sort.grow (redrawn wr dq) osq = W3 at hb3 s3 s4 ⊢
          go_wp2_with fail
          go_quiet (fail)
          go_wp2
          go_roundw
          case rel => exact ⟨j + 1 + 1, by omega, by go_num, below_drewN hb3.out _⟩
          case measure => simp [intOf]; omega
      · have KW := Lib.hid (zworld_any a l _ t wr (HV.out _ Bw))
        have HBw := Lib.hid Bw
        rcases h0 : ((n : Int) == 0) with _ | _
        · have W0' : Hid (zw a l t = 0) := Lib.hid (by rw [WE.out, if_neg (by have := beq_eq_false_iff_ne.1 h0; omega)])
          obtain ⟨av', cv', e', hc⟩ := HX.out _ hB
          obtain ⟨rfl, rfl⟩ : av = av' ∧ cv = cv' := by simpa using e'
          rcases hc with hc | ⟨b, off, rfl, hc⟩
          · have := HN.out; rw [hc] at this; simp at this; rw [this] at h0; simp at h0
          have k1 := Lib.hid (fun W (q : Below wr.heap.size wr W) => ((HX.out _ (hB.trans (q.mono hB.size)) : Ints W _ _)))
          obtain ⟨x, hx⟩ : ∃ x, x = (twi a l t).getD 0 0 := ⟨_, rfl⟩
          rw [NumA_yes W0'.out, ← hx] at KW
          have k0 := hc 0 (by rw [← HN.out]; have := beq_eq_false_iff_ne.1 h0; omega)
          rw [← hx, Nat.add_zero] at k0
          have np : (0 : Int) < (n : Int) := by have := beq_eq_false_iff_ne.1 h0; omega
          have LN : Hid (decide ((0 : Int) < (l.length : Int)) = false → ((n : Int) == 1) = true) := Lib.hid (fun q => by
            have := of_decide_eq_false q
            exact beq_iff_eq.2 (by omega))
          clear hx hc e' hB Bw W0' k1
          go_wp2_with fail
          refine KW.out.mono ?_
          rintro e w7 ⟨rfl, hb⟩
          have B7 := Lib.hid (HBw.out.trans (hb.mono HBw.out.size))
          have c0 := (hb.cell (p := ⟨b, off, none⟩) (zcell_in k0)).trans k0
          have c1 := (hb.cell (p := ⟨w.heap.size, 0, none⟩) zlt).trans q1
          have c2 := (hb.cell (p := ⟨w.heap.size, 1, none⟩) zlt).trans q2
          clear hb KW k0 q1 q2 zlt
          obtain ⟨m, hm⟩ : ∃ m, m = l.length := ⟨_, rfl⟩
          rw [← hm] at c2
          rw [← hm]
          rcases Nat.eq_zero_or_pos m with h1 | h1
          · have n1 := LN.out (by rw [← hm, h1]; rfl)
            subst h1
            clear hm
            go_wp2_with fail
            go_ret
            exact ⟨rfl, B7.out⟩
          · clear hm
            go_wp2_with fail
            go_ret
            exact ⟨rfl, B7.out⟩
        · have W0' : Hid (zw a l t = 8) := Lib.hid (by rw [WE.out, if_pos (by have := beq_iff_eq.1 h0; omega)])
          rw [W0'.out, NumA_no (by decide)] at KW
          clear hB Bw W0'
          go_wp2_with fail
          refine KW.out.mono ?_
          rintro e w7 ⟨rfl, hb⟩
          have B7 := Lib.hid (HBw.out.trans (hb.mono HBw.out.size))
          have KE := Lib.hid (errT_fault 8 w7 (HG.out _ B7.out))
          rw [zfault_ne (by decide)] at KE
          clear hb KW q1 q2 zlt
          go_wp2_with fail
          refine KE.out.mono ?_
          rintro e w8 ⟨rfl, hb⟩
          have B8 := B7.out.trans (hb.mono B7.out.size)
          clear hb KE
          go_wp2
          go_ret
          exact ⟨rfl, B8⟩
end Go.Proofs.YtnnpnalfkcngmadDoor
