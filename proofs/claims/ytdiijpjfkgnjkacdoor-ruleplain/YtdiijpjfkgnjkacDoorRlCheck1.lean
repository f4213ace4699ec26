/-
  What is proved here: what package rule's hasNumbers, isTooLong, hasItems and isRising answer of any rule (contracts over the translation).
-/
import Derived.Test.YtdiijpjfkgnjkacDoorRlAll2
import Derived.Test.YtdiijpjfkgnjkacDoorDayLow
namespace Go.Proofs.YtdiijpjfkgnjkacDoor
open Go.RowKit Cal Txt

theorem ok1_ways {r : Rl} (h : ok1 r = false) : r.freq < 1 ∨ (1 ≤ r.freq ∧ 4 < r.freq) ∨ (1 ≤ r.freq ∧ r.freq ≤ 4 ∧ r.every < 1) ∨ (1 ≤ r.freq ∧ r.freq ≤ 4 ∧ 1 ≤ r.every ∧ 50 < r.every) ∨ (1 ≤ r.freq ∧ r.freq ≤ 4 ∧ 1 ≤ r.every ∧ r.every ≤ 50 ∧ r.count < 0) ∨ (1 ≤ r.freq ∧ r.freq ≤ 4 ∧ 1 ≤ r.every ∧ r.every ≤ 50 ∧ 0 ≤ r.count ∧ 200 < r.count) ∨ (1 ≤ r.freq ∧ r.freq ≤ 4 ∧ 1 ≤ r.every ∧ r.every ≤ 50 ∧ 0 ≤ r.count ∧ r.count ≤ 200 ∧ r.till < 0) ∨ (1 ≤ r.freq ∧ r.freq ≤ 4 ∧ 1 ≤ r.every ∧ r.every ≤ 50 ∧ 0 ≤ r.count ∧ r.count ≤ 200 ∧ 0 ≤ r.till ∧ 109573 < r.till) := by
  have := of_decide_eq_false h
  omega
set_option maxHeartbeats 2000000 in
theorem hasNumbers_any (r : Rl) (am ad aw ap : Option Addr) (cm cd cw cp : Nat) (w : World) :
    Calls Tryd.prog 32 #[.agg #[.int .i64 r.freq, .int .i64 r.every, .int .i64 r.count, .int .i64 r.till, .slice am r.months.length cm, .slice ad r.days.length cd, .slice aw r.weeks.length cw, .slice ap r.pick.length cp]] w fun e w' => e = .returned (.bool (ok1 r)) ∧ Below w.heap.size w w' := by
  have B0 : Below w.heap.size w (w.alloc (.cells #[.int .i64 r.freq, .int .i64 r.every, .int .i64 r.count, .int .i64 r.till, .slice am r.months.length cm, .slice ad r.days.length cd, .slice aw r.weeks.length cw, .slice ap r.pick.length cp] 30)) := (Below.refl _ _).alloc (Nat.le_refl _) _
  have HB := Lib.hid B0
  clear B0
  rcases h : ok1 r with _ | _
  · have N1 := Lib.hid h
    rcases ok1_ways h with a | ⟨a, b⟩ | ⟨a, b, c⟩ | ⟨a, b, c, d⟩ | ⟨a, b, c, d, e⟩ | ⟨a, b, c, d, e, f⟩ | ⟨a, b, c, d, e, f, g⟩ | ⟨a, b, c, d, e, f, g, i⟩
    all_goals
      clear h
      go_enter Tryd.func32, Tryd.ntmps32
      go_wp2_with fail
      first
        | (go_ret
           exact ⟨ret_bool (by first | rfl | exact decide_eq_false (by omega)), HB.out⟩)
        | (first
             | have q1 : decide (0 ≤ r.count) = false := decide_eq_false (by omega)
             | (have q1 : decide (0 ≤ r.count) = true := decide_eq_true (by omega)
                first
                  | have q2 : decide (r.count ≤ 200) = false := decide_eq_false (by omega)
                  | (have q2 : decide (r.count ≤ 200) = true := decide_eq_true (by omega)
                     first
                       | have q3 : decide (0 ≤ r.till) = false := decide_eq_false (by omega)
                       | (have q3 : decide (0 ≤ r.till) = true := decide_eq_true (by omega)
                          have q4 : decide (r.till ≤ 109573) = false := decide_eq_false (by omega))))
           go_quiet ((go_at_call 12; exact Calls.quiet_of_same (last_any _)))
           go_wp2
           go_ret
           exact ⟨ret_bool (by first | rfl | exact decide_eq_false (by omega)), below_drewN HB.out _⟩)
  · have N1 := Lib.hid h
    obtain ⟨⟨a, b⟩, ⟨c, d⟩, ⟨e, f⟩, g, i⟩ := of_decide_eq_true h
    clear h
    go_enter Tryd.func32, Tryd.ntmps32
    go_wp2_with fail
    go_quiet ((go_at_call 12; exact Calls.quiet_of_same (last_any _)))
    go_wp2
    go_ret
    exact ⟨ret_bool (by first | rfl | exact decide_eq_true (by omega)), below_drewN HB.out _⟩
theorem ok2_ways {r : Rl} (h : ok2 r = false) : (12 : Int) < r.months.length ∨ ((r.months.length : Int) ≤ 12 ∧ (31 : Int) < r.days.length) ∨ ((r.months.length : Int) ≤ 12 ∧ (r.days.length : Int) ≤ 31 ∧ (20 : Int) < r.weeks.length) ∨ ((r.months.length : Int) ≤ 12 ∧ (r.days.length : Int) ≤ 31 ∧ (r.weeks.length : Int) ≤ 20 ∧ (20 : Int) < r.pick.length) := by
  have := of_decide_eq_false h
  omega
theorem ok2_yes {r : Rl} (h : ok2 r = true) : (r.months.length : Int) ≤ 12 ∧ (r.days.length : Int) ≤ 31 ∧ (r.weeks.length : Int) ≤ 20 ∧ (r.pick.length : Int) ≤ 20 := by
  have := of_decide_eq_true h
  omega
set_option maxHeartbeats 2000000 in
theorem isTooLong_any (r : Rl) (am ad aw ap : Option Addr) (cm cd cw cp : Nat) (w : World) :
    Calls Tryd.prog 33 #[.agg #[.int .i64 r.freq, .int .i64 r.every, .int .i64 r.count, .int .i64 r.till, .slice am r.months.length cm, .slice ad r.days.length cd, .slice aw r.weeks.length cw, .slice ap r.pick.length cp]] w fun e w' => e = .returned (.bool (!ok2 r)) ∧ Below w.heap.size w w' := by
  have B0 : Below w.heap.size w (w.alloc (.cells #[.int .i64 r.freq, .int .i64 r.every, .int .i64 r.count, .int .i64 r.till, .slice am r.months.length cm, .slice ad r.days.length cd, .slice aw r.weeks.length cw, .slice ap r.pick.length cp] 30)) := (Below.refl _ _).alloc (Nat.le_refl _) _
  have HB := Lib.hid B0
  clear B0
  rcases h : ok2 r with _ | _
  · rcases ok2_ways h with a | ⟨a, b⟩ | ⟨a, b, c⟩ | ⟨a, b, c, d⟩
    all_goals
      clear h
      go_enter Tryd.func33, Tryd.ntmps33
      go_wp2
      go_ret
      exact ⟨ret_bool (by first | rfl | (simp; omega)), HB.out⟩
  · obtain ⟨a, b, c, d⟩ := ok2_yes h
    clear h
    go_enter Tryd.func33, Tryd.ntmps33
    go_wp2
    go_ret
    exact ⟨ret_bool (by first | rfl | (simp; omega)), HB.out⟩
/-- Whether all numbers of the lists are ones that may be. -/
def itemsB (r : Rl) : Bool := r.months.all monP && r.days.all plaP && r.weeks.all wkP && r.pick.all plaP
theorem itemsB_eq (r : Rl) : itemsB r = (ok3 r && wkB r.weeks) := by
  have e1 : r.months.all monP = inB 1 12 r.months := by
    unfold inB monP
    congr 1
    funext x
    exact decide_eq_decide.2 (by omega)
  have e2 : r.days.all plaP = inB (-31) 31 r.days := rfl
  have e3 : r.pick.all plaP = inB (-31) 31 r.pick := rfl
  have e4 : r.weeks.all wkP = wkB r.weeks := rfl
  unfold itemsB ok3
  rw [e1, e2, e3, e4]
  cases inB 1 12 r.months <;> cases inB (-31) 31 r.days <;> cases inB (-31) 31 r.pick <;> cases wkB r.weeks <;> rfl
theorem f1 : ∀ args w, (callFunc 64 args).run Tryd.prog w = .ok (.enter 64 args) w := enters_of Tryd.func64 (by kernel_rfl) rfl
theorem f2 : ∀ args w, (callFunc 65 args).run Tryd.prog w = .ok (.enter 65 args) w := enters_of Tryd.func65 (by kernel_rfl) rfl
theorem f3 : ∀ args w, (callFunc 66 args).run Tryd.prog w = .ok (.enter 66 args) w := enters_of Tryd.func66 (by kernel_rfl) rfl
set_option maxHeartbeats 2000000 in
theorem hasItems_any (r : Rl) (am ad aw ap : Option Addr) (cm cd cw cp : Nat) (w : World) (hm : Ints w (.slice am r.months.length cm) r.months) (hd : Ints w (.slice ad r.days.length cd) r.days) (hw : Nths w (.slice aw r.weeks.length cw) r.weeks) (hp : Ints w (.slice ap r.pick.length cp) r.pick) (hl : ok2 r = true) :
    Calls Tryd.prog 34 #[.agg #[.int .i64 r.freq, .int .i64 r.every, .int .i64 r.count, .int .i64 r.till, .slice am r.months.length cm, .slice ad r.days.length cd, .slice aw r.weeks.length cw, .slice ap r.pick.length cp]] w fun e w' => e = .returned (.bool (itemsB r)) ∧ Below w.heap.size w w' := by
  obtain ⟨l1, l2, l3, l4⟩ := ok2_yes hl
  clear hl
  have B0 : Below w.heap.size w (w.alloc (.cells #[.int .i64 r.freq, .int .i64 r.every, .int .i64 r.count, .int .i64 r.till, .slice am r.months.length cm, .slice ad r.days.length cd, .slice aw r.weeks.length cw, .slice ap r.pick.length cp] 30)) := (Below.refl _ _).alloc (Nat.le_refl _) _
  have HR := Lib.hid (RBox.new w r.freq r.every r.count r.till (.slice am r.months.length cm) (.slice ad r.days.length cd) (.slice aw r.weeks.length cw) (.slice ap r.pick.length cp) 30)
  have HB := Lib.hid B0
  have HM := Lib.hid (hm.on B0)
  have HD := Lib.hid (hd.on B0)
  have HW := Lib.hid (hw.on B0)
  have HP := Lib.hid (hp.on B0)
  clear B0 hm hd hw hp
  go_enter Tryd.func34, Tryd.ntmps34
  go_wp2_with fail
  refine (all_int _ _ f1 items1_any _ _ _ HM.out (by omega)).mono ?_
  rintro e w1 ⟨rfl, hx⟩
  subst hx
  rcases h1 : r.months.all monP with _ | _
  · have N0 : Hid (itemsB r = false) := Lib.hid (by unfold itemsB; rw [h1]; rfl)
    go_wp2
    go_ret
    exact ⟨ret_bool N0.out.symm, HB.out⟩
  go_wp2_with fail
  refine (all_int _ _ f2 items2_any _ _ _ HD.out (by omega)).mono ?_
  rintro e w1 ⟨rfl, hx⟩
  subst hx
  rcases h2 : r.days.all plaP with _ | _
  · have N0 : Hid (itemsB r = false) := Lib.hid (by unfold itemsB; rw [h1, h2]; rfl)
    go_wp2
    go_ret
    exact ⟨ret_bool N0.out.symm, HB.out⟩
  go_wp2_with fail
  refine (all_nth _ _ f3 items3_any _ _ _ HW.out (by omega)).mono ?_
  rintro e w1 ⟨rfl, hx⟩
  have HB1 := Lib.hid (HB.out.trans (hx.mono HB.out.size))
  have HP1 := Lib.hid (HP.out.on hx)
  obtain ⟨R0, R1, R2, R3, R4, R5, R6, R7⟩ := HR.out.on hx
  clear hx HB HP HR HM HD HW
  rcases h3 : r.weeks.all wkP with _ | _
  · have N0 : Hid (itemsB r = false) := Lib.hid (by unfold itemsB; rw [h1, h2, h3]; rfl)
    go_wp2
    go_ret
    exact ⟨ret_bool N0.out.symm, HB1.out⟩
  go_wp2_with fail
  refine (all_int _ _ f2 items2_any _ _ _ HP1.out (by omega)).mono ?_
  rintro e w2 ⟨rfl, hx⟩
  subst hx
  have N0 : Hid (itemsB r = r.pick.all plaP) := Lib.hid (by unfold itemsB; rw [h1, h2, h3]; rfl)
  clear h1 h2 h3
  go_wp2
  go_ret
  exact ⟨ret_bool N0.out.symm, HB1.out⟩
/-- Whether each list rises. -/
theorem ok4_eq (r : Rl) : ok4 r = (risB r.months && risB r.days && wriB r.weeks && risB r.pick) := by
  unfold ok4
  cases risB r.months <;> cases risB r.days <;> cases wriB r.weeks <;> cases risB r.pick <;> rfl
set_option maxHeartbeats 2000000 in
theorem isRising_any (r : Rl) (am ad aw ap : Option Addr) (cm cd cw cp : Nat) (w : World) (hm : Ints w (.slice am r.months.length cm) r.months) (hd : Ints w (.slice ad r.days.length cd) r.days) (hw : Nths w (.slice aw r.weeks.length cw) r.weeks) (hp : Ints w (.slice ap r.pick.length cp) r.pick) (hl : ok2 r = true) :
    Calls Tryd.prog 35 #[.agg #[.int .i64 r.freq, .int .i64 r.every, .int .i64 r.count, .int .i64 r.till, .slice am r.months.length cm, .slice ad r.days.length cd, .slice aw r.weeks.length cw, .slice ap r.pick.length cp]] w fun e w' => e = .returned (.bool (ok4 r)) ∧ Below w.heap.size w w' := by
  obtain ⟨l1, l2, l3, l4⟩ := ok2_yes hl
  clear hl
  have B0 : Below w.heap.size w (w.alloc (.cells #[.int .i64 r.freq, .int .i64 r.every, .int .i64 r.count, .int .i64 r.till, .slice am r.months.length cm, .slice ad r.days.length cd, .slice aw r.weeks.length cw, .slice ap r.pick.length cp] 30)) := (Below.refl _ _).alloc (Nat.le_refl _) _
  have HR := Lib.hid (RBox.new w r.freq r.every r.count r.till (.slice am r.months.length cm) (.slice ad r.days.length cd) (.slice aw r.weeks.length cw) (.slice ap r.pick.length cp) 30)
  have HB := Lib.hid B0
  have HM := Lib.hid (hm.on B0)
  have HD := Lib.hid (hd.on B0)
  have HW := Lib.hid (hw.on B0)
  have HP := Lib.hid (hp.on B0)
  clear B0 hm hd hw hp
  go_enter Tryd.func35, Tryd.ntmps35
  go_wp2_with fail
  refine (rises_int _ _ _ HM.out (by omega)).mono ?_
  rintro e w1 ⟨rfl, hx⟩
  have HB1 := Lib.hid (HB.out.trans (hx.mono HB.out.size))
  have HD1 := Lib.hid (HD.out.on hx)
  have HW1 := Lib.hid (HW.out.on hx)
  have HP1 := Lib.hid (HP.out.on hx)
  have HR1 := Lib.hid (HR.out.on hx)
  clear hx HB HP HR HM HD HW
  rcases h1 : risB r.months with _ | _
  · have N0 : Hid (ok4 r = false) := Lib.hid (by rw [ok4_eq, h1]; rfl)
    go_wp2
    go_ret
    exact ⟨ret_bool N0.out.symm, HB1.out⟩
  obtain ⟨R0, R1, R2, R3, R4, R5, R6, R7⟩ := id HR1.out
  go_wp2_with fail
  clear R0 R1 R2 R3 R4 R5 R6 R7
  refine (rises_int _ _ _ HD1.out (by omega)).mono ?_
  rintro e w2 ⟨rfl, hx⟩
  have HB2 := Lib.hid (HB1.out.trans (hx.mono HB1.out.size))
  have HW2 := Lib.hid (HW1.out.on hx)
  have HP2 := Lib.hid (HP1.out.on hx)
  have HR2 := Lib.hid (HR1.out.on hx)
  clear hx HB1 HP1 HR1 HD1 HW1
  rcases h2 : risB r.days with _ | _
  · have N0 : Hid (ok4 r = false) := Lib.hid (by rw [ok4_eq, h1, h2]; rfl)
    go_wp2
    go_ret
    exact ⟨ret_bool N0.out.symm, HB2.out⟩
  obtain ⟨R0, R1, R2, R3, R4, R5, R6, R7⟩ := id HR2.out
  go_wp2_with fail
  clear R0 R1 R2 R3 R4 R5 R6 R7
  refine (rises_nth _ _ _ HW2.out (by omega)).mono ?_
  rintro e w3 ⟨rfl, hx⟩
  have HB3 := Lib.hid (HB2.out.trans (hx.mono HB2.out.size))
  have HP3 := Lib.hid (HP2.out.on hx)
  have HR3 := Lib.hid (HR2.out.on hx)
  clear hx HB2 HP2 HR2 HW2
  rcases h3 : wriB r.weeks with _ | _
  · have N0 : Hid (ok4 r = false) := Lib.hid (by rw [ok4_eq, h1, h2, h3]; rfl)
    go_wp2
    go_ret
    exact ⟨ret_bool N0.out.symm, HB3.out⟩
  obtain ⟨R0, R1, R2, R3, R4, R5, R6, R7⟩ := id HR3.out
  go_wp2_with fail
  clear R0 R1 R2 R3 R4 R5 R6 R7
  refine (rises_int _ _ _ HP3.out (by omega)).mono ?_
  rintro e w4 ⟨rfl, hx⟩
  have HB4 := Lib.hid (HB3.out.trans (hx.mono HB3.out.size))
  have N0 : Hid (ok4 r = risB r.pick) := Lib.hid (by rw [ok4_eq, h1, h2, h3]; rfl)
  clear h1 h2 h3 hx
  go_wp2
  go_ret
  exact ⟨ret_bool N0.out.symm, HB4.out⟩
end Go.Proofs.YtdiijpjfkgnjkacDoor
