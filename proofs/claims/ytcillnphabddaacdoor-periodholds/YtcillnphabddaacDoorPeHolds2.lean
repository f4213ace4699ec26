/-
  What is proved here: the walk of chimelaw1.PeriodHolds: it returns true for every rule, start and k, and turns nothing that was there; the table of months is asked as a premise.
-/
import Derived.Test.YtcillnphabddaacDoorPeHolds
namespace Go.Proofs.YtcillnphabddaacDoor
open Go.RowKit Cal Txt

set_option maxRecDepth 100000 in
set_option maxHeartbeats 8000000 in
theorem pholds (r : Rl) (v : Value) (s k : Int) (w : World) (hv : RuleIn w v r) (hT : Tab w) :
    Calls Tryd.prog 4 #[v, .int .i64 s, .int .i64 k] w fun e w' => e = .returned (.bool true) ∧ Below w.heap.size w w' := by
  obtain ⟨am, ad, aw, ap, cm, cd, cw, cp, rfl⟩ := hv.form
  have HV := Lib.hid (fun W (q : Below w.heap.size w W) => hv.on q)
  have HT := Lib.hid (fun W (q : Below w.heap.size w W) => hT.below q)
  have B0 := (Below.refl w.heap.size w).alloc (Nat.le_refl _) (.cells #[.int .i64 r.freq, .int .i64 r.every, .int .i64 r.count, .int .i64 r.till, .slice am r.months.length cm, .slice ad r.days.length cd, .slice aw r.weeks.length cw, .slice ap r.pick.length cp] 30)
  have HR := Lib.hid (RBox.new w r.freq r.every r.count r.till (.slice am r.months.length cm) (.slice ad r.days.length cd) (.slice aw r.weeks.length cw) (.slice ap r.pick.length cp) 30)
  have HB := Lib.hid B0
  clear B0 hv hT
  go_enter Tryd.func4, Tryd.ntmps4
  go_wp2_with fail
  generalize w.alloc (.cells #[.int .i64 r.freq, .int .i64 r.every, .int .i64 r.count, .int .i64 r.till, .slice am r.months.length cm, .slice ad r.days.length cd, .slice aw r.weeks.length cw, .slice ap r.pick.length cp] 30) = W0 at HB HR ⊢
  refine (perDays_any (rs 2 1) _ 46340 1 W0 (rs_in W0 2 1) (HT.out _ HB.out)).mono ?_
  rintro e w1 ⟨hb, hx⟩
  have B1 := Lib.hid (HB.out.trans (hb.mono HB.out.size))
  have R1 := Lib.hid (HR.out.on hb)
  have PF : Hid (pD (rs 2 1) 46340 1 = some [46347]) := Lib.hid (by unfold pD; rw [fact_ends]; exact congrArg some fact_days)
  clear hb HB HR
  rcases hx with ⟨ho, _⟩ | ⟨l0, v0, ho, rfl, hi⟩
  · rw [PF.out] at ho; cases ho
  obtain rfl : [46347] = l0 := Option.some.inj (PF.out.symm.trans ho)
  obtain ⟨a0, c0, rfl, hc⟩ := hi
  rcases hc with hc | ⟨g, off, rfl, hc⟩
  · cases hc
  have cg : w1.cell? ⟨g, off, none⟩ = some (.int .i64 46347) := hc 0 (by decide)
  clear hc ho PF
  have KD := Lib.hid (perDays_any r _ s k w1 (HV.out _ B1.out) (HT.out _ B1.out))
  obtain ⟨x0, x1, x2, x3, x4, x5, x6, x7⟩ := R1.out
  have xl := R1.out.lt
  go_wp2_with fail
  clear x0 x1 x2 x3 x4 x5 x6 x7 xl cg
  refine KD.out.mono ?_
  rintro e w2 ⟨hb, hx⟩
  have B2 := Lib.hid (B1.out.trans (hb.mono B1.out.size))
  have R2 := Lib.hid (R1.out.on hb)
  clear hb KD B1 R1
  rcases hx with ⟨_, rfl⟩ | ⟨L, vl, ho, rfl, hi⟩
  · go_wp2
    go_ret
    exact ⟨rfl, B2.out⟩
  rcases hq : pE r s k with _ | ⟨a, b⟩
  · unfold pD at ho; rw [hq] at ho; cases ho
  have hL : L = perD r s a b := by unfold pD at ho; rw [hq] at ho; exact (Option.some.inj ho).symm
  obtain ⟨a1, ab, bL⟩ := pE_in hq
  have LN := pE_len hq
  obtain ⟨z0, ⟨k0, k1⟩, ⟨s1, s2⟩, ze⟩ := pE_some hq
  have HL := Lib.hid hL
  have HQ := Lib.hid hq
  have LL : L.length ≤ 401 := by rw [hL]; exact (perD_len LN).1
  have HI := Lib.hid (fun W (q : Below w2.heap.size w2 W) => hi.on q)
  obtain ⟨al, cl, rfl, hc⟩ := hi
  clear hc
  have K1 := Lib.hid (begin_any r _ s k w2 (HV.out _ B2.out) (HT.out _ B2.out))
  rw [hq] at K1
  clear hL hq ho ze
  obtain ⟨x0, x1, x2, x3, x4, x5, x6, x7⟩ := R2.out
  have xl := R2.out.lt
  go_wp2_with fail
  clear x0 x1 x2 x3 x4 x5 x6 x7 xl
  refine K1.out.mono ?_
  rintro e w3 ⟨rfl, hb⟩
  have B3 := Lib.hid (B2.out.trans (hb.mono B2.out.size))
  have R3 := Lib.hid (R2.out.on hb)
  have E3 := Lib.hid hb
  clear hb K1
  simp only [BegA]
  have K2 := Lib.hid (begin_any r _ s (k + 1) w3 (HV.out _ B3.out) (HT.out _ B3.out))
  obtain ⟨x0, x1, x2, x3, x4, x5, x6, x7⟩ := R3.out
  have xl := R3.out.lt
  go_wp2_with fail
  clear x0 x1 x2 x3 x4 x5 x6 x7 xl
  refine K2.out.mono ?_
  rintro e w4 ⟨rfl, hb⟩
  have B4 := Lib.hid (B3.out.trans (hb.mono B3.out.size))
  have R4 := Lib.hid (R3.out.on hb)
  have E4 := Lib.hid (E3.out.trans (hb.mono E3.out.size))
  clear hb K2 B2 R2 B3 R3 E3
  obtain ⟨nx, er, hn⟩ : ∃ (nx : Int) (er : Value), BegA (pE r s (k + 1)) = .tuple #[.int .i64 nx, er] ∧ ((er = errRange) ∨ (er = .nilIface ∧ b < nx)) := by
    rcases hq2 : pE r s (k + 1) with _ | ⟨a', b'⟩
    · exact ⟨0, errRange, rfl, Or.inl rfl⟩
    · exact ⟨a', .nilIface, rfl, Or.inr ⟨rfl, pE_next HQ.out hq2⟩⟩
  rw [hn.1]
  have HN := hn.2
  clear hn
  clear z0 s1 s2
  go_wp2
  go_loopw [14] (fun i wr => ∃ j : Nat, j ≤ L.length ∧ i = .int .i64 j ∧ Below w4.heap.size w4 wr) (fun i _ => L.length - (intOf i).toNat)
  case atStart => exact ⟨0, Nat.zero_le _, rfl, Below.refl _ _⟩
  case round =>
    obtain ⟨j, hj, rfl, hB⟩ := hrel
    have B5 := B4.out.trans (hB.mono B4.out.size)
    have E5 := E4.out.trans (hB.mono E4.out.size)
    by_cases hlt : j < L.length
    · obtain ⟨a', c', e', hc⟩ := HI.out _ E5
      obtain ⟨rfl, rfl⟩ : al = a' ∧ cl = c' := by simpa using e'
      rcases hc with hc | ⟨g2, o2, rfl, hc⟩
      · rw [hc] at hlt; simp at hlt
      have hm := allD_mem (perD_mem (r := r) (s := s) (a := a) (b := b) (by rw [← HL.out]; exact getD_mem hlt))
      have cx := hc j hlt
      have RS : Hid (0 < j → L.getD (j - 1) 0 < L.getD j 0) := Lib.hid (fun h => rise_at (by rw [HL.out]; exact perD_rise r s a b) (by omega) hlt)
      have HC := Lib.hid hc
      obtain ⟨x, hx⟩ : ∃ x, x = L.getD j 0 := ⟨_, rfl⟩
      rw [← hx] at hm cx RS
      clear hx hc e'
      have t1 : decide (x < a) = false := decide_eq_false (by omega)
      have t2 : decide (x < 1) = false := decide_eq_false (by omega)
      have t3 : decide (x > 109573) = false := decide_eq_false (by omega)
      have jl : (j : Int) < (L.length : Int) := by omega
      by_cases j0 : (0 : Int) < (j : Int)
      · have cy := HC.out (j - 1) (by omega)
        have hy := RS.out (by omega)
        obtain ⟨y, hY⟩ : ∃ y, y = L.getD (j - 1) 0 := ⟨_, rfl⟩
        rw [← hY] at cy hy
        have j1 : 0 < j := by omega
        have t6 : decide ((j : Int) > 0) = true := decide_eq_true (by omega)
        have t7 : decide (0 < j) = true := decide_eq_true (by omega)
        have t4 : decide (y ≥ x) = false := decide_eq_false (by omega)
        have i1 : (0 : Int) ≤ (j : Int) - 1 := by omega
        have i2 : (j : Int) - 1 < (L.length : Int) := by omega
        have i3 : ((j : Int) - 1).toNat = j - 1 := by omega
        clear hY HC RS
        rcases HN with rfl | ⟨rfl, hnx⟩
        · go_wp2_with fail
          go_big_quiet ((go_at_call 12; exact Calls.quiet_of_same (last_any _)))
          go_wp2
          go_roundw
          case rel => exact ⟨j + 1, by omega, by go_num, below_drewN hB _⟩
          case measure => simp [intOf]; omega
        · have t5 : decide (x ≥ nx) = false := decide_eq_false (by omega)
          go_wp2_with fail
          go_big_quiet ((go_at_call 12; exact Calls.quiet_of_same (last_any _)))
          go_wp2
          go_roundw
          case rel => exact ⟨j + 1, by omega, by go_num, below_drewN hB _⟩
          case measure => simp [intOf]; omega
      · obtain rfl : j = 0 := by omega
        clear HC RS j0 jl
        rw [Nat.add_zero] at cx
        have jl : (0 : Int) < (L.length : Int) := by omega
        rcases HN with rfl | ⟨rfl, hnx⟩
        · go_wp2_with fail
          go_big_quiet ((go_at_call 12; exact Calls.quiet_of_same (last_any _)))
          go_wp2
          go_roundw
          case rel => exact ⟨1, by omega, by go_num, below_drewN hB _⟩
          case measure => simp [intOf]; omega
        · have t5 : decide (x ≥ nx) = false := decide_eq_false (by omega)
          go_wp2_with fail
          go_big_quiet ((go_at_call 12; exact Calls.quiet_of_same (last_any _)))
          go_wp2
          go_roundw
          case rel => exact ⟨1, by omega, by go_num, below_drewN hB _⟩
          case measure => simp [intOf]; omega
    · clear HN
      have RW := R4.out.on hB
      have HA := Lib.hid (perD_np r s a b)
      have VN : RuleIn (wr.alloc (.cells #[.int .i64 r.freq, .int .i64 r.every, .int .i64 r.count, .int .i64 r.till, .slice am r.months.length cm, .slice ad r.days.length cd, .slice aw r.weeks.length cw, .slice none 0 0] 30)) (.agg #[.int .i64 r.freq, .int .i64 r.every, .int .i64 r.count, .int .i64 r.till, .slice am r.months.length cm, .slice ad r.days.length cd, .slice aw r.weeks.length cw, .slice none 0 0]) (np r) := by
        have A6 : Below wr.heap.size wr (wr.alloc (.cells #[.int .i64 r.freq, .int .i64 r.every, .int .i64 r.count, .int .i64 r.till, .slice am r.months.length cm, .slice ad r.days.length cd, .slice aw r.weeks.length cw, .slice none 0 0] 30)) := (Below.refl _ _).alloc (Nat.le_refl _) _
        obtain ⟨vm, vd, vw, vp, e', h1, h2, h3, h4⟩ := (HV.out _ B5).on A6
        obtain ⟨rfl, rfl, rfl, rfl⟩ : Value.slice am r.months.length cm = vm ∧ Value.slice ad r.days.length cd = vd ∧ Value.slice aw r.weeks.length cw = vw ∧ Value.slice ap r.pick.length cp = vp := by simpa using e'
        exact ⟨_, _, _, _, rfl, h1, h2, h3, none, 0, rfl, Or.inl rfl⟩
      have A6 : Below wr.heap.size wr (wr.alloc (.cells #[.int .i64 r.freq, .int .i64 r.every, .int .i64 r.count, .int .i64 r.till, .slice am r.months.length cm, .slice ad r.days.length cd, .slice aw r.weeks.length cw, .slice none 0 0] 30)) := (Below.refl _ _).alloc (Nat.le_refl _) _
      have B6 := Lib.hid (B5.trans (A6.mono B5.size))
      have E6 := Lib.hid (E5.trans (A6.mono E5.size))
      have R6 := Lib.hid (RW.on A6)
      have KD := Lib.hid (perDays_any (np r) _ s k _ VN (HT.out _ B6.out))
      have PD : Hid (pD (np r) s k = some (allD r s a b)) := Lib.hid (by unfold pD; rw [pE_np HQ.out]; exact congrArg some HA.out)
      obtain ⟨x0, x1, x2, x3, x4, x5, x6, x7⟩ := RW
      have xl := (R4.out.on hB).lt
      clear VN A6 B5 E5 hB HA B4 E4 R4
      go_wp2_with fail
      clear x0 x1 x2 x3 x4 x5 x6 x7 xl
      generalize wr.alloc (.cells #[.int .i64 r.freq, .int .i64 r.every, .int .i64 r.count, .int .i64 r.till, .slice am r.months.length cm, .slice ad r.days.length cd, .slice aw r.weeks.length cw, .slice none 0 0] 30) = W6 at B6 E6 R6 KD ⊢
      refine KD.out.mono ?_
      rintro e w7 ⟨hb, hx⟩
      have B7 := Lib.hid (B6.out.trans (hb.mono B6.out.size))
      have E7 := Lib.hid (E6.out.trans (hb.mono E6.out.size))
      have R7 := Lib.hid (R6.out.on hb)
      clear hb KD B6 E6 R6
      rcases hx with ⟨ho, _⟩ | ⟨M, vm, ho, rfl, hi⟩
      · rw [PD.out] at ho; cases ho
      have hM : allD r s a b = M := Option.some.inj (PD.out.symm.trans ho)
      have ML : M.length ≤ 401 := by rw [← hM]; exact (perD_len (r := r) (s := s) LN).2
      have HS : Hid (∀ x ∈ L, x ∈ M) := Lib.hid (fun x hx => by rw [← hM]; rw [HL.out] at hx; exact perD_mem hx)
      have HZ : Hid (r.pick.length = 0 → M.length = L.length) := Lib.hid (fun h => by rw [← hM, HL.out]; unfold perD pick; rw [if_pos h])
      have HJ := Lib.hid (fun W (q : Below w7.heap.size w7 W) => hi.on q)
      obtain ⟨bm, em, rfl, hc⟩ := hi
      clear hc hM ho PD
      go_wp2
      go_loopw [17, 18] (fun i z wr => ∃ j : Nat, j ≤ L.length ∧ i = .int .i64 j ∧ wr = w7) (fun i _ _ => L.length - (intOf i).toNat)
      case atStart => exact ⟨0, Nat.zero_le _, rfl, rfl⟩
      case round =>
        obtain ⟨j, hj, rfl, rfl⟩ := hrel
        by_cases hlt : j < L.length
        · obtain ⟨a', c', e', hc⟩ := HI.out _ E7.out
          obtain ⟨rfl, rfl⟩ : al = a' ∧ cl = c' := by simpa using e'
          rcases hc with hc | ⟨g2, o2, rfl, hc⟩
          · rw [hc] at hlt; simp at hlt
          have cx := hc j hlt
          have IN := HS.out _ (getD_mem hlt)
          have KI := Lib.hid (refIn_any _ M (L.getD j 0) _ (HJ.out _ (Below.refl _ _)) (by omega))
          rw [show M.contains (L.getD j 0) = true by rw [List.contains_eq_mem]; exact decide_eq_true IN] at KI
          obtain ⟨x, hx⟩ : ∃ x, x = L.getD j 0 := ⟨_, rfl⟩
          rw [← hx] at cx KI
          clear hx hc e' IN
          go_wp2_with fail
          refine KI.out.mono ?_
          rintro e w8 ⟨rfl, hw⟩
          subst hw
          go_wp2
          go_roundw
          case rel => exact ⟨j + 1, by omega, by go_num, trivial⟩
          case measure => simp [intOf]; omega
        · obtain ⟨x0, x1, x2, x3, x4, x5, x6, x7⟩ := R7.out
          have xl := R7.out.lt
          by_cases p0 : (0 : Int) < (r.pick.length : Int)
          · have p1 : ¬ r.pick = [] := by intro h; rw [h] at p0; simp at p0
            go_wp2
            go_ret
            exact ⟨ret_bool (by simp), B7.out⟩
          · have pz : r.pick.length = 0 := by omega
            have p1 : r.pick = [] := List.eq_nil_of_length_eq_zero pz
            have EQ := HZ.out pz
            clear pz
            go_wp2
            go_ret
            exact ⟨ret_bool (by simp), B7.out⟩
end Go.Proofs.YtcillnphabddaacDoor
