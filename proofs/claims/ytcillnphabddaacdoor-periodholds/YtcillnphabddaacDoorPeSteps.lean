/-
  What is proved here: the walk of chimelaw4.PeriodSteps: it returns true for every start, k, every and frequency, and turns nothing that was there; the table of months is asked as a premise.
-/
import Derived.Test.YtcillnphabddaacDoorPeDays
namespace Go.Proofs.YtcillnphabddaacDoor
open Go.RowKit Cal Txt

/-- A rule of a frequency and steps, and nothing else. -/
def rs (f ev : Int) : Rl := ⟨f, ev, 0, 0, [], [], [], []⟩
theorem rs_in (w : World) (f ev : Int) : RuleIn w (.agg #[.int .i64 f, .int .i64 ev, .int .i64 0, .int .i64 0, .slice none 0 0, .slice none 0 0, .slice none 0 0, .slice none 0 0]) (rs f ev) :=
  ⟨_, _, _, _, rfl, ⟨none, 0, rfl, Or.inl rfl⟩, ⟨none, 0, rfl, Or.inl rfl⟩, ⟨none, 0, rfl, Or.inl rfl⟩, none, 0, rfl, Or.inl rfl⟩
theorem fact_16 : pE (rs 1 3) 10 2 = some (16, 16) := by decide
theorem perD_rs (f ev s a b : Int) : perD (rs f ev) s a b = allD (rs f ev) s a b := by
  unfold perD pick
  exact if_pos (show (rs f ev).pick.length = 0 from rfl)
theorem rng_len (a : Int) (n : Nat) : (rng a n).length = n := by unfold rng; rw [List.length_map, List.length_range]
theorem steps_daily {ev s a : Int} : (perD (rs 1 ev) s a a).length ≤ 1 := by
  rw [perD_rs]
  unfold allD
  have := List.length_filter_le (askB (comp (rs 1 ev) s)) (rng a (a + 1 - a).toNat)
  rw [rng_len] at this
  omega
theorem ask_week {ev s n : Int} (h : askB (comp (rs 2 ev) s) n = true) : wd s = wd n := by
  have e : comp (rs 2 ev) s = { rs 2 ev with weeks := [(0, wd s)] } := by unfold comp; rw [if_neg (by simp [rs]), if_pos (show (rs 2 ev).freq = 2 from rfl)]
  rw [e] at h
  unfold askB onW at h
  rw [Bool.and_eq_true] at h
  have h := h.2
  simp [fitB] at h
  rcases h with (h | h) | h
  · exact h
  · exact h.2
  · exact h.2
theorem steps_weekly {ev s a b : Int} (hb : b ≤ a + 6) : (perD (rs 2 ev) s a b).length ≤ 1 := by
  rw [perD_rs]
  have hr := allD_rise (rs 2 ev) s a b
  have hm : ∀ x ∈ allD (rs 2 ev) s a b, (a ≤ x ∧ x ≤ b) ∧ wd s = wd x := fun x hx => ⟨allD_mem hx, ask_week (List.mem_filter.1 hx).2⟩
  rcases e : allD (rs 2 ev) s a b with _ | ⟨x, _ | ⟨y, l⟩⟩
  · simp
  · simp
  · exfalso
    rw [e] at hr hm
    obtain ⟨⟨x1, x2⟩, x3⟩ := hm x (by simp)
    obtain ⟨⟨y1, y2⟩, y3⟩ := hm y (by simp)
    have hxy : x < y := (List.pairwise_cons.1 hr).1 y (by simp)
    unfold wd at x3 y3
    omega
set_option maxRecDepth 100000 in
set_option maxHeartbeats 4000000 in
theorem psteps (s k ev : Int) (wk : Bool) (w : World) (hT : Tab w) :
    Calls Tryd.prog 5 #[.int .i64 s, .int .i64 k, .int .i64 ev, .bool wk] w fun e w' => e = .returned (.bool true) ∧ Below w.heap.size w w' := by
  have HT := Lib.hid (fun W (q : Below w.heap.size w W) => hT.below q)
  clear hT
  obtain ⟨fr, sz, hfs⟩ : ∃ fr sz : Int, (wk = false ∧ fr = 1 ∧ sz = 1) ∨ (wk = true ∧ fr = 2 ∧ sz = 7) := by
    rcases wk with _ | _
    · exact ⟨1, 1, Or.inl ⟨rfl, rfl, rfl⟩⟩
    · exact ⟨2, 7, Or.inr ⟨rfl, rfl, rfl⟩⟩
  rcases hfs with ⟨rfl, rfl, rfl⟩ | ⟨rfl, rfl, rfl⟩
  · have B0 := (Below.refl w.heap.size w).alloc (Nat.le_refl _) (.cells #[.int .i64 1, .int .i64 ev, .int .i64 0, .int .i64 0, .slice none 0 0, .slice none 0 0, .slice none 0 0, .slice none 0 0] 30)
    have HB := Lib.hid B0
    have HR := Lib.hid (RBox.new w 1 ev 0 0 (.slice none 0 0) (.slice none 0 0) (.slice none 0 0) (.slice none 0 0) 30)
    clear B0
    go_enter Tryd.func5, Tryd.ntmps5
    go_wp2_with fail
    generalize w.alloc (.cells #[.int .i64 1, .int .i64 ev, .int .i64 0, .int .i64 0, .slice none 0 0, .slice none 0 0, .slice none 0 0, .slice none 0 0] 30) = W0 at HB HR ⊢
    refine (begin_any (rs 1 3) _ 10 2 W0 (rs_in W0 1 3) (HT.out _ HB.out)).mono ?_
    rintro e w1 ⟨rfl, hb⟩
    have B1 := Lib.hid (HB.out.trans (hb.mono HB.out.size))
    have R1 := Lib.hid (HR.out.on hb)
    clear hb HB HR
    rw [fact_16]
    simp only [BegA]
    have K0 := Lib.hid (begin_any (rs 1 ev) _ s 0 w1 (rs_in w1 1 ev) (HT.out _ B1.out))
    obtain ⟨x0, x1, x2, x3, x4, x5, x6, x7⟩ := R1.out
    have xl := R1.out.lt
    go_wp2_with fail
    clear x0 x1 x2 x3 x4 x5 x6 x7 xl
    refine K0.out.mono ?_
    rintro e w2 ⟨rfl, hb⟩
    have B2 := Lib.hid (B1.out.trans (hb.mono B1.out.size))
    have R2 := Lib.hid (R1.out.on hb)
    clear hb B1 R1 K0
    have K1 := Lib.hid (begin_any (rs 1 ev) _ s k w2 (rs_in w2 1 ev) (HT.out _ B2.out))
    rcases q0 : pE (rs 1 ev) s 0 with _ | ⟨a0, b0⟩
    · clear q0
      simp only [BegA]
      obtain ⟨x0, x1, x2, x3, x4, x5, x6, x7⟩ := R2.out
      have xl := R2.out.lt
      go_wp2_with fail
      refine K1.out.mono ?_
      rintro e w3 ⟨rfl, hb⟩
      have B3 := Lib.hid (B2.out.trans (hb.mono B2.out.size))
      clear hb K1 x0 x1 x2 x3 x4 x5 x6 x7 xl
      rcases pE (rs 1 ev) s k with _ | ⟨ak, bk⟩
      all_goals
        simp only [BegA]
        go_wp2
        go_ret
        exact ⟨rfl, B3.out⟩
    have Q0 := Lib.hid q0
    clear q0
    simp only [BegA]
    obtain ⟨x0, x1, x2, x3, x4, x5, x6, x7⟩ := R2.out
    have xl := R2.out.lt
    go_wp2_with fail
    clear x0 x1 x2 x3 x4 x5 x6 x7 xl
    refine K1.out.mono ?_
    rintro e w3 ⟨rfl, hb⟩
    have B3 := Lib.hid (B2.out.trans (hb.mono B2.out.size))
    have R3 := Lib.hid (R2.out.on hb)
    clear hb K1 R2 B2
    rcases qk : pE (rs 1 ev) s k with _ | ⟨ak, bk⟩
    · clear qk
      simp only [BegA]
      go_wp2
      go_ret
      exact ⟨rfl, B3.out⟩
    have q0 := Q0.out
    obtain ⟨e0, _⟩ := pE_daily rfl q0
    obtain ⟨e1, e2⟩ := pE_daily rfl qk
    have LE : Hid ((perD (rs 1 ev) s ak bk).length ≤ 1) := Lib.hid (by rw [e2]; exact steps_daily)
    have EQ : (ak == a0 + k * ev) = true := by
      rw [beq_iff_eq, e0, e1]
      show s + k * ev = s + 0 * ev + k * ev
      rw [Int.zero_mul]; omega
    have KD := Lib.hid (perDays_any (rs 1 ev) _ s k w3 (rs_in w3 1 ev) (HT.out _ B3.out))
    have PD : Hid (pD (rs 1 ev) s k = some (perD (rs 1 ev) s ak bk)) := Lib.hid (by unfold pD; rw [qk])
    obtain ⟨g1, g2, g3, _⟩ := pE_some qk
    obtain ⟨t0, t1⟩ := st_bd g2 (rf_nums g1).2
    change 0 ≤ k * ev at t0
    change k * ev ≤ 5478650 at t1
    have a01 := pE_in q0
    clear q0 Q0 qk e0 e1 g1 g2 g3
    simp only [BegA]
    obtain ⟨x0, x1, x2, x3, x4, x5, x6, x7⟩ := R3.out
    have xl := R3.out.lt
    go_wp2_with fail
    clear x0 x1 x2 x3 x4 x5 x6 x7 xl
    refine KD.out.mono ?_
    rintro e w4 ⟨hb, hv⟩
    have B4 := Lib.hid (B3.out.trans (hb.mono B3.out.size))
    rcases hv with ⟨ho, _⟩ | ⟨l, v, ho, rfl, hi⟩
    · rw [PD.out] at ho; cases ho
    obtain rfl : perD (rs 1 ev) s ak bk = l := Option.some.inj (PD.out.symm.trans ho)
    obtain ⟨av, cv, rfl, _⟩ := hi
    have le1 : ((perD (rs 1 ev) s ak bk).length : Int) ≤ 1 := by have := LE.out; omega
    obtain ⟨m, hm⟩ : ∃ m, m = (perD (rs 1 ev) s ak bk).length := ⟨_, rfl⟩
    rw [← hm] at le1
    rw [← hm]
    clear hb ho KD PD LE hm B3 R3
    go_wp2
    go_ret
    exact ⟨ret_bool (by simp <;> omega), B4.out⟩
  · have B0 := (Below.refl w.heap.size w).alloc (Nat.le_refl _) (.cells #[.int .i64 2, .int .i64 ev, .int .i64 0, .int .i64 0, .slice none 0 0, .slice none 0 0, .slice none 0 0, .slice none 0 0] 30)
    have HB := Lib.hid B0
    have HR := Lib.hid (RBox.new w 2 ev 0 0 (.slice none 0 0) (.slice none 0 0) (.slice none 0 0) (.slice none 0 0) 30)
    clear B0
    go_enter Tryd.func5, Tryd.ntmps5
    go_wp2_with fail
    generalize w.alloc (.cells #[.int .i64 2, .int .i64 ev, .int .i64 0, .int .i64 0, .slice none 0 0, .slice none 0 0, .slice none 0 0, .slice none 0 0] 30) = W0 at HB HR ⊢
    refine (begin_any (rs 1 3) _ 10 2 W0 (rs_in W0 1 3) (HT.out _ HB.out)).mono ?_
    rintro e w1 ⟨rfl, hb⟩
    have B1 := Lib.hid (HB.out.trans (hb.mono HB.out.size))
    have R1 := Lib.hid (HR.out.on hb)
    clear hb HB HR
    rw [fact_16]
    simp only [BegA]
    have K0 := Lib.hid (begin_any (rs 2 ev) _ s 0 w1 (rs_in w1 2 ev) (HT.out _ B1.out))
    obtain ⟨x0, x1, x2, x3, x4, x5, x6, x7⟩ := R1.out
    have xl := R1.out.lt
    go_wp2_with fail
    clear x0 x1 x2 x3 x4 x5 x6 x7 xl
    refine K0.out.mono ?_
    rintro e w2 ⟨rfl, hb⟩
    have B2 := Lib.hid (B1.out.trans (hb.mono B1.out.size))
    have R2 := Lib.hid (R1.out.on hb)
    clear hb B1 R1 K0
    have K1 := Lib.hid (begin_any (rs 2 ev) _ s k w2 (rs_in w2 2 ev) (HT.out _ B2.out))
    rcases q0 : pE (rs 2 ev) s 0 with _ | ⟨a0, b0⟩
    · clear q0
      simp only [BegA]
      obtain ⟨x0, x1, x2, x3, x4, x5, x6, x7⟩ := R2.out
      have xl := R2.out.lt
      go_wp2_with fail
      refine K1.out.mono ?_
      rintro e w3 ⟨rfl, hb⟩
      have B3 := Lib.hid (B2.out.trans (hb.mono B2.out.size))
      clear hb K1 x0 x1 x2 x3 x4 x5 x6 x7 xl
      rcases pE (rs 2 ev) s k with _ | ⟨ak, bk⟩
      all_goals
        simp only [BegA]
        go_wp2
        go_ret
        exact ⟨rfl, B3.out⟩
    have Q0 := Lib.hid q0
    clear q0
    simp only [BegA]
    obtain ⟨x0, x1, x2, x3, x4, x5, x6, x7⟩ := R2.out
    have xl := R2.out.lt
    go_wp2_with fail
    clear x0 x1 x2 x3 x4 x5 x6 x7 xl
    refine K1.out.mono ?_
    rintro e w3 ⟨rfl, hb⟩
    have B3 := Lib.hid (B2.out.trans (hb.mono B2.out.size))
    have R3 := Lib.hid (R2.out.on hb)
    clear hb K1 R2 B2
    rcases qk : pE (rs 2 ev) s k with _ | ⟨ak, bk⟩
    · clear qk
      simp only [BegA]
      go_wp2
      go_ret
      exact ⟨rfl, B3.out⟩
    have q0 := Q0.out
    obtain ⟨e0, _⟩ := pE_weekly rfl q0
    obtain ⟨e1, e2⟩ := pE_weekly rfl qk
    have LE : Hid ((perD (rs 2 ev) s ak bk).length ≤ 1) := Lib.hid (steps_weekly e2)
    have EQ : (ak == a0 + k * ev * 7) = true := by
      rw [beq_iff_eq, e0, e1]
      show s - wd s + 1 + k * ev * 7 = s - wd s + 1 + 0 * ev * 7 + k * ev * 7
      rw [Int.zero_mul]; omega
    have KD := Lib.hid (perDays_any (rs 2 ev) _ s k w3 (rs_in w3 2 ev) (HT.out _ B3.out))
    have PD : Hid (pD (rs 2 ev) s k = some (perD (rs 2 ev) s ak bk)) := Lib.hid (by unfold pD; rw [qk])
    obtain ⟨g1, g2, g3, _⟩ := pE_some qk
    obtain ⟨t0, t1⟩ := st_bd g2 (rf_nums g1).2
    change 0 ≤ k * ev at t0
    change k * ev ≤ 5478650 at t1
    have a01 := pE_in q0
    clear q0 Q0 qk e0 e1 g1 g2 g3
    simp only [BegA]
    obtain ⟨x0, x1, x2, x3, x4, x5, x6, x7⟩ := R3.out
    have xl := R3.out.lt
    go_wp2_with fail
    clear x0 x1 x2 x3 x4 x5 x6 x7 xl
    refine KD.out.mono ?_
    rintro e w4 ⟨hb, hv⟩
    have B4 := Lib.hid (B3.out.trans (hb.mono B3.out.size))
    rcases hv with ⟨ho, _⟩ | ⟨l, v, ho, rfl, hi⟩
    · rw [PD.out] at ho; cases ho
    obtain rfl : perD (rs 2 ev) s ak bk = l := Option.some.inj (PD.out.symm.trans ho)
    obtain ⟨av, cv, rfl, _⟩ := hi
    have le1 : ((perD (rs 2 ev) s ak bk).length : Int) ≤ 1 := by have := LE.out; omega
    obtain ⟨m, hm⟩ : ∃ m, m = (perD (rs 2 ev) s ak bk).length := ⟨_, rfl⟩
    rw [← hm] at le1
    rw [← hm]
    clear hb ho KD PD LE hm B3 R3
    go_wp2
    go_ret
    exact ⟨ret_bool (by simp <;> omega), B4.out⟩
end Go.Proofs.YtcillnphabddaacDoor
