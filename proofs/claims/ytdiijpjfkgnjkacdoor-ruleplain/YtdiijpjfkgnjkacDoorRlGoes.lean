/-
  What is proved here: what package rule's goesTogether answers (contracts over the translation).
-/
import Derived.Test.YtdiijpjfkgnjkacDoorRlCheck1
namespace Go.Proofs.YtdiijpjfkgnjkacDoor
open Go.RowKit Cal Txt

theorem fE : ∀ args w, (callFunc 73 args).run Tryd.prog w = .ok (.enter 73 args) w := enters_of Tryd.func73 (by kernel_rfl) rfl
theorem each_all (l : List (Int × Int)) : l.all (fun x => x.1 == 0) = !anyN l := by
  unfold anyN
  rw [Bool.eq_iff_iff]
  simp
/-- What does not go together, by what there is. -/
def odd5 (f : Int) (a : Bool) (m d x p : Nat) : Bool := (a && decide (f ≤ 2)) || (decide (0 < d) && decide (f = 2)) || (decide (f = 4) && decide (m = 0) && decide (0 < d + x)) || (decide (0 < p) && decide (m + d + x = 0))
theorem odd_eq (r : Rl) : oddB r = odd5 r.freq (anyN r.weeks) r.months.length r.days.length r.weeks.length r.pick.length := rfl
set_option maxRecDepth 100000 in
set_option maxHeartbeats 4000000 in
theorem goes_1 (ev c u : Int) (m d x p : Nat) (a : Bool) (am ad aw ap : Option Addr) (cm cd cw cp : Nat) (w : World) (l1 : (m : Int) ≤ 12) (l2 : (d : Int) ≤ 31) (l3 : (x : Int) ≤ 20) (l4 : (p : Int) ≤ 20)
    (hall : ∀ W, Below w.heap.size w W → Calls Tryd.prog 68 #[.slice aw x cw, .func (.func 73) #[] #[]] W fun e w' => e = .returned (.bool (!a)) ∧ Below W.heap.size W w') :
    Calls Tryd.prog 36 #[.agg #[.int .i64 1, .int .i64 ev, .int .i64 c, .int .i64 u, .slice am m cm, .slice ad d cd, .slice aw x cw, .slice ap p cp]] w fun e w' => e = .returned (.bool (!odd5 1 a m d x p)) ∧ Below w.heap.size w w' := by
  have B0 : Below w.heap.size w (w.alloc (.cells #[.int .i64 1, .int .i64 ev, .int .i64 c, .int .i64 u, .slice am m cm, .slice ad d cd, .slice aw x cw, .slice ap p cp] 30)) := (Below.refl _ _).alloc (Nat.le_refl _) _
  have HR := Lib.hid (RBox.new w 1 ev c u (.slice am m cm) (.slice ad d cd) (.slice aw x cw) (.slice ap p cp) 30)
  have HB := Lib.hid B0
  have HA := Lib.hid hall
  clear B0 hall
  go_enter Tryd.func36, Tryd.ntmps36
  go_wp2_with fail
  go_quiet (fail)
  have HB1 := Lib.hid (below_drewN HB.out nq)
  have HR1 := Lib.hid (HR.out.on (below_drewN (Below.refl _ _) nq))
  clear HB HR
  generalize World.drewN (w.alloc (.cells #[.int .i64 1, .int .i64 ev, .int .i64 c, .int .i64 u, .slice am m cm, .slice ad d cd, .slice aw x cw, .slice ap p cp] 30)) nq = W at HB1 HR1 ⊢
  obtain ⟨R0, R1, R2, R3, R4, R5, R6, R7⟩ := id HR1.out
  go_wp2_with fail
  clear R0 R1 R2 R3 R4 R5 R6 R7
  refine (HA.out _ HB1.out).mono ?_
  rintro e w1 ⟨rfl, hx⟩
  have HB2 := Lib.hid (HB1.out.trans (hx.mono HB1.out.size))
  obtain ⟨R0, R1, R2, R3, R4, R5, R6, R7⟩ := HR1.out.on hx
  clear hx HB1 HR1 HA
  rcases a with _ | _
  all_goals
    go_wp2
    all_goals
      go_ret
      exact ⟨ret_bool (by unfold odd5; rw [Bool.eq_iff_iff]; simp; try omega), HB2.out⟩
set_option maxRecDepth 100000 in
set_option maxHeartbeats 4000000 in
theorem goes_2 (ev c u : Int) (m d x p : Nat) (a : Bool) (am ad aw ap : Option Addr) (cm cd cw cp : Nat) (w : World) (l1 : (m : Int) ≤ 12) (l2 : (d : Int) ≤ 31) (l3 : (x : Int) ≤ 20) (l4 : (p : Int) ≤ 20)
    (hall : ∀ W, Below w.heap.size w W → Calls Tryd.prog 68 #[.slice aw x cw, .func (.func 73) #[] #[]] W fun e w' => e = .returned (.bool (!a)) ∧ Below W.heap.size W w') :
    Calls Tryd.prog 36 #[.agg #[.int .i64 2, .int .i64 ev, .int .i64 c, .int .i64 u, .slice am m cm, .slice ad d cd, .slice aw x cw, .slice ap p cp]] w fun e w' => e = .returned (.bool (!odd5 2 a m d x p)) ∧ Below w.heap.size w w' := by
  have B0 : Below w.heap.size w (w.alloc (.cells #[.int .i64 2, .int .i64 ev, .int .i64 c, .int .i64 u, .slice am m cm, .slice ad d cd, .slice aw x cw, .slice ap p cp] 30)) := (Below.refl _ _).alloc (Nat.le_refl _) _
  have HR := Lib.hid (RBox.new w 2 ev c u (.slice am m cm) (.slice ad d cd) (.slice aw x cw) (.slice ap p cp) 30)
  have HB := Lib.hid B0
  have HA := Lib.hid hall
  clear B0 hall
  go_enter Tryd.func36, Tryd.ntmps36
  go_wp2_with fail
  go_quiet (fail)
  have HB1 := Lib.hid (below_drewN HB.out nq)
  have HR1 := Lib.hid (HR.out.on (below_drewN (Below.refl _ _) nq))
  clear HB HR
  generalize World.drewN (w.alloc (.cells #[.int .i64 2, .int .i64 ev, .int .i64 c, .int .i64 u, .slice am m cm, .slice ad d cd, .slice aw x cw, .slice ap p cp] 30)) nq = W at HB1 HR1 ⊢
  obtain ⟨R0, R1, R2, R3, R4, R5, R6, R7⟩ := id HR1.out
  go_wp2_with fail
  clear R0 R1 R2 R3 R4 R5 R6 R7
  refine (HA.out _ HB1.out).mono ?_
  rintro e w1 ⟨rfl, hx⟩
  have HB2 := Lib.hid (HB1.out.trans (hx.mono HB1.out.size))
  obtain ⟨R0, R1, R2, R3, R4, R5, R6, R7⟩ := HR1.out.on hx
  clear hx HB1 HR1 HA
  rcases a with _ | _
  all_goals
    go_wp2
    all_goals
      go_ret
      exact ⟨ret_bool (by unfold odd5; rw [Bool.eq_iff_iff]; simp; try omega), HB2.out⟩
set_option maxRecDepth 100000 in
set_option maxHeartbeats 4000000 in
theorem goes_3 (ev c u : Int) (m d x p : Nat) (a : Bool) (am ad aw ap : Option Addr) (cm cd cw cp : Nat) (w : World) (l1 : (m : Int) ≤ 12) (l2 : (d : Int) ≤ 31) (l3 : (x : Int) ≤ 20) (l4 : (p : Int) ≤ 20)
    (hall : ∀ W, Below w.heap.size w W → Calls Tryd.prog 68 #[.slice aw x cw, .func (.func 73) #[] #[]] W fun e w' => e = .returned (.bool (!a)) ∧ Below W.heap.size W w') :
    Calls Tryd.prog 36 #[.agg #[.int .i64 3, .int .i64 ev, .int .i64 c, .int .i64 u, .slice am m cm, .slice ad d cd, .slice aw x cw, .slice ap p cp]] w fun e w' => e = .returned (.bool (!odd5 3 a m d x p)) ∧ Below w.heap.size w w' := by
  have B0 : Below w.heap.size w (w.alloc (.cells #[.int .i64 3, .int .i64 ev, .int .i64 c, .int .i64 u, .slice am m cm, .slice ad d cd, .slice aw x cw, .slice ap p cp] 30)) := (Below.refl _ _).alloc (Nat.le_refl _) _
  have HR := Lib.hid (RBox.new w 3 ev c u (.slice am m cm) (.slice ad d cd) (.slice aw x cw) (.slice ap p cp) 30)
  have HB := Lib.hid B0
  have HA := Lib.hid hall
  clear B0 hall
  go_enter Tryd.func36, Tryd.ntmps36
  go_wp2_with fail
  go_quiet (fail)
  have HB1 := Lib.hid (below_drewN HB.out nq)
  have HR1 := Lib.hid (HR.out.on (below_drewN (Below.refl _ _) nq))
  clear HB HR
  generalize World.drewN (w.alloc (.cells #[.int .i64 3, .int .i64 ev, .int .i64 c, .int .i64 u, .slice am m cm, .slice ad d cd, .slice aw x cw, .slice ap p cp] 30)) nq = W at HB1 HR1 ⊢
  obtain ⟨R0, R1, R2, R3, R4, R5, R6, R7⟩ := id HR1.out
  go_wp2
  all_goals
    go_ret
    exact ⟨ret_bool (by unfold odd5; rw [Bool.eq_iff_iff]; simp; try omega), HB1.out⟩
set_option maxRecDepth 100000 in
set_option maxHeartbeats 4000000 in
theorem goes_4 (ev c u : Int) (m d x p : Nat) (a : Bool) (am ad aw ap : Option Addr) (cm cd cw cp : Nat) (w : World) (l1 : (m : Int) ≤ 12) (l2 : (d : Int) ≤ 31) (l3 : (x : Int) ≤ 20) (_l4 : (p : Int) ≤ 20)
    (hall : ∀ W, Below w.heap.size w W → Calls Tryd.prog 68 #[.slice aw x cw, .func (.func 73) #[] #[]] W fun e w' => e = .returned (.bool (!a)) ∧ Below W.heap.size W w') :
    Calls Tryd.prog 36 #[.agg #[.int .i64 4, .int .i64 ev, .int .i64 c, .int .i64 u, .slice am m cm, .slice ad d cd, .slice aw x cw, .slice ap p cp]] w fun e w' => e = .returned (.bool (!odd5 4 a m d x p)) ∧ Below w.heap.size w w' := by
  have B0 : Below w.heap.size w (w.alloc (.cells #[.int .i64 4, .int .i64 ev, .int .i64 c, .int .i64 u, .slice am m cm, .slice ad d cd, .slice aw x cw, .slice ap p cp] 30)) := (Below.refl _ _).alloc (Nat.le_refl _) _
  have HR := Lib.hid (RBox.new w 4 ev c u (.slice am m cm) (.slice ad d cd) (.slice aw x cw) (.slice ap p cp) 30)
  have HB := Lib.hid B0
  have HA := Lib.hid hall
  clear B0 hall
  go_enter Tryd.func36, Tryd.ntmps36
  go_wp2_with fail
  go_quiet (fail)
  have HB1 := Lib.hid (below_drewN HB.out nq)
  have HR1 := Lib.hid (HR.out.on (below_drewN (Below.refl _ _) nq))
  clear HB HR
  generalize World.drewN (w.alloc (.cells #[.int .i64 4, .int .i64 ev, .int .i64 c, .int .i64 u, .slice am m cm, .slice ad d cd, .slice aw x cw, .slice ap p cp] 30)) nq = W at HB1 HR1 ⊢
  obtain ⟨R0, R1, R2, R3, R4, R5, R6, R7⟩ := id HR1.out
  rcases (by omega : (d = 0 ∧ x = 0 ∧ m = 0) ∨ (d = 0 ∧ x = 0 ∧ 0 < m) ∨ (0 < d ∧ m = 0) ∨ (0 < d ∧ 0 < m) ∨ (d = 0 ∧ 0 < x ∧ m = 0) ∨ (d = 0 ∧ 0 < x ∧ 0 < m)) with ⟨rfl, rfl, rfl⟩ | ⟨rfl, rfl, i2⟩ | ⟨i1, rfl⟩ | ⟨i1, i2⟩ | ⟨rfl, i1, rfl⟩ | ⟨rfl, i1, i2⟩
  all_goals
    go_wp2
    all_goals
      go_ret
      exact ⟨ret_bool (by unfold odd5; rw [Bool.eq_iff_iff]; simp <;> omega), HB1.out⟩
theorem goes_any (r : Rl) (am ad aw ap : Option Addr) (cm cd cw cp : Nat) (w : World) (hw : Nths w (.slice aw r.weeks.length cw) r.weeks) (hl : ok2 r = true) (h1 : 1 ≤ r.freq) (h4 : r.freq ≤ 4) :
    Calls Tryd.prog 36 #[.agg #[.int .i64 r.freq, .int .i64 r.every, .int .i64 r.count, .int .i64 r.till, .slice am r.months.length cm, .slice ad r.days.length cd, .slice aw r.weeks.length cw, .slice ap r.pick.length cp]] w fun e w' => e = .returned (.bool (!oddB r)) ∧ Below w.heap.size w w' := by
  obtain ⟨l1, l2, l3, l4⟩ := ok2_yes hl
  have hall : ∀ W, Below w.heap.size w W → Calls Tryd.prog 68 #[.slice aw r.weeks.length cw, .func (.func 73) #[] #[]] W fun e w' => e = .returned (.bool (!anyN r.weeks)) ∧ Below W.heap.size W w' := fun W hW => by
    have := all_nth _ _ fE each_any _ _ _ (hw.on hW) (by omega)
    rwa [each_all] at this
  rw [odd_eq]
  rcases (by omega : r.freq = 1 ∨ r.freq = 2 ∨ r.freq = 3 ∨ r.freq = 4) with e | e | e | e
  all_goals rw [e]
  · exact goes_1 _ _ _ _ _ _ _ _ _ _ _ _ _ _ _ _ _ l1 l2 l3 l4 hall
  · exact goes_2 _ _ _ _ _ _ _ _ _ _ _ _ _ _ _ _ _ l1 l2 l3 l4 hall
  · exact goes_3 _ _ _ _ _ _ _ _ _ _ _ _ _ _ _ _ _ l1 l2 l3 l4 hall
  · exact goes_4 _ _ _ _ _ _ _ _ _ _ _ _ _ _ _ _ _ l1 l2 l3 l4 hall
end Go.Proofs.YtdiijpjfkgnjkacDoor
