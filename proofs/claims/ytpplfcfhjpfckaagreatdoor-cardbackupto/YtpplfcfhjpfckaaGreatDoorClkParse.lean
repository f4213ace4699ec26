/-
  What is proved here: what clock.Parse answers, for every text (contracts over the translation); the table of months is asked as a premise.
-/
import Derived.Test.YtpplfcfhjpfckaaGreatDoorQI
import Derived.Deep.RegionHeld3
import Derived.Deep.DrawnRows
import Derived.Lib.Hide
namespace Go.Proofs.YtpplfcfhjpfckaaGreatDoor
open Go.RowKit Cal Txt
attribute [local go_sem ↓] Go.wp_at_zero Go.wp_at_succ

theorem number_at (s : ByteArray) (a b : Nat) (w : World) (h9 : b - a ≤ 9) (hd : ∀ c ∈ (s.data.toList.drop a).take (b - a), isDg c = true) :
    Calls Tryz.prog 95 #[.string (s.extract a b)] w fun e w' => e = .returned (.int .i64 (nm s.data.toList a b)) ∧ w' = w := by
  have e : (s.extract a b).data.toList = (s.data.toList.drop a).take (b - a) := by
    simp [ByteArray.data_extract]
  have hz : (s.extract a b).size ≤ 9 := by
    have : (s.extract a b).size = (s.extract a b).data.toList.length := rfl
    rw [this, e, List.length_take]; omega
  have := number_any (s.extract a b) w (by rw [e]; exact hd) hz
  rw [e] at this
  exact this
theorem parse_bad (s : ByteArray) (w : World) (hf : frm s.data.toList = false) :
    Calls Tryz.prog 69 #[.string s] w fun e w' => e = .returned (.tuple #[.int .i64 0, .iface 45 (.int .i64 2)]) ∧ Below w.heap.size w w' := by
  go_enter Tryz.func69, Tryz.ntmps69
  go_wp2_with fail
  refine (hasForm_any s _).mono ?_
  rintro e w1 ⟨rfl, hb⟩
  go_wp2
  go_ret2
  exact ⟨rfl, hb⟩
theorem ret_intNil {a b : Int} (h : a = b) : Ending.returned (.tuple #[.int .i64 a, .nilIface]) = .returned (.tuple #[.int .i64 b, .nilIface]) := by rw [h]
set_option maxRecDepth 100000 in
set_option maxHeartbeats 4000000 in
theorem parse_yes (s : ByteArray) (w : World) (hT : Tab w) (hf : frm s.data.toList = true) (hg : good s.data.toList) :
    Calls Tryz.prog 69 #[.string s] w fun e w' => e = .returned (.tuple #[.int .i64 (raw s.data.toList), .nilIface]) ∧ Below w.heap.size w w' := by
  have hl : s.size = 16 := by have := frm_len hf; simpa using this
  obtain ⟨b1, b2, b3, b4, b5⟩ := nm_lt hf
  obtain ⟨d1, d2, d3, d4, d5⟩ := frm_dg hf
  have D1 := Lib.hid d1
  have D2 := Lib.hid d2
  have D3 := Lib.hid d3
  have D4 := Lib.hid d4
  have D5 := Lib.hid d5
  clear d1 d2 d3 d4 d5
  obtain ⟨g1, g2, g3, g4⟩ := hg
  have G1 : Hid (okD (nm s.data.toList 0 4) (nm s.data.toList 5 7) (nm s.data.toList 8 10)) := g1
  have G4 : Hid (1 ≤ raw s.data.toList) := g4
  have q3 : (nm s.data.toList 14 16 : Int) ≤ 59 := by omega
  clear g1 g4
  go_enter Tryz.func69, Tryz.ntmps69
  go_wp2_with fail
  refine (hasForm_any s _).mono ?_
  rintro e w1 ⟨rfl, hb⟩
  have hT1 := hT.below hb
  clear hT
  go_wp2_with fail
  go_region_held3 (fun _ => True) (trivial) (first
    | (go_at_call_of 95 (Value.string (s.extract 0 4)); refine (number_at s 0 4 _ (by omega) D1.out).mono ?_; rintro e w' ⟨rfl, rfl⟩)
    | (go_at_call_of 95 (Value.string (s.extract 5 7)); refine (number_at s 5 7 _ (by omega) D2.out).mono ?_; rintro e w' ⟨rfl, rfl⟩)
    | (go_at_call_of 95 (Value.string (s.extract 8 10)); refine (number_at s 8 10 _ (by omega) D3.out).mono ?_; rintro e w' ⟨rfl, rfl⟩))
  all_goals
    go_wp2_with fail
    have hT2 : Tab (w1.alloc (.cells #[.int .i64 (nm s.data.toList 0 4), .int .i64 (nm s.data.toList 5 7), .int .i64 (nm s.data.toList 8 10)] 133)).drew := (hT1.alloc _).drew
    have E2 : Dat (w1.alloc (.cells #[.int .i64 (nm s.data.toList 0 4), .int .i64 (nm s.data.toList 5 7), .int .i64 (nm s.data.toList 8 10)] 133)).drew w1.heap.size (nm s.data.toList 0 4) (nm s.data.toList 5 7) (nm s.data.toList 8 10) := Dat.new w1 _ _ _ _
    have hb2 : Below w.heap.size w (w1.alloc (.cells #[.int .i64 (nm s.data.toList 0 4), .int .i64 (nm s.data.toList 5 7), .int .i64 (nm s.data.toList 8 10)] 133)).drew := (hb.alloc hb.size _).drew
    generalize (w1.alloc (.cells #[.int .i64 (nm s.data.toList 0 4), .int .i64 (nm s.data.toList 5 7), .int .i64 (nm s.data.toList 8 10)] 133)).drew = W at hT2 E2 hb2 ⊢
    refine wp_region_quiet_below (by kernel_rfl) (by kernel_rfl) ?_
    repeat (quiet_step (first
      | (go_at_call_of 95 (Value.string (s.extract 11 13)); exact Calls.regrown_of (below_same (number_at s 11 13 _ (by omega) D4.out)))
      | (go_at_call_of 95 (Value.string (s.extract 14 16)); exact Calls.regrown_of (below_same (number_at s 14 16 _ (by omega) D5.out)))))
    refine wpQuiet_nil ?_
    intro _ hw'
    obtain ⟨⟨dq, osq⟩, hw''⟩ := hw'
    subst hw''
    have hT3 := hT2.below (below_regrown W dq osq)
    have E3 := E2.on (below_regrown W dq osq)
    have hb3 := hb2.trans ((below_regrown W dq osq).mono hb2.size)
    generalize Sort.grow (redrawn W dq) osq = W3 at hT3 E3 hb3 ⊢
    clear hT2 E2 hb2 hb hT1
    obtain ⟨E_0, E_1, E_2⟩ := id E3
    have E_l := E3.lt
    go_wp2_with fail
    refine (time_yes _ _ _ _ _ hT3 G1.out (by omega) (by omega) (by have := G4.out; unfold raw at this; omega)).mono ?_
    rintro e w4 ⟨rfl, hb4⟩
    go_wp2_with fail
    go_ret2
    exact ⟨ret_intNil (by unfold raw; omega), hb3.trans (hb4.mono hb3.size)⟩
set_option maxRecDepth 100000 in
set_option maxHeartbeats 4000000 in
theorem parse_min (s : ByteArray) (w : World) (hT : Tab w) (hf : frm s.data.toList = true) (hg : ¬ nm s.data.toList 14 16 ≤ 59) :
    Calls Tryz.prog 69 #[.string s] w fun e w' => e = .returned (.tuple #[.int .i64 0, errRange]) ∧ Below w.heap.size w w' := by
  have hl : s.size = 16 := by have := frm_len hf; simpa using this
  obtain ⟨b1, b2, b3, b4, b5⟩ := nm_lt hf
  obtain ⟨d1, d2, d3, d4, d5⟩ := frm_dg hf
  have D1 := Lib.hid d1
  have D2 := Lib.hid d2
  have D3 := Lib.hid d3
  have D4 := Lib.hid d4
  have D5 := Lib.hid d5
  clear d1 d2 d3 d4 d5
  have q3 : 60 ≤ (nm s.data.toList 14 16 : Int) := by omega
  clear hg
  go_enter Tryz.func69, Tryz.ntmps69
  go_wp2_with fail
  refine (hasForm_any s _).mono ?_
  rintro e w1 ⟨rfl, hb⟩
  have hT1 := hT.below hb
  clear hT
  go_wp2_with fail
  go_region_held3 (fun _ => True) (trivial) (first
    | (go_at_call_of 95 (Value.string (s.extract 0 4)); refine (number_at s 0 4 _ (by omega) D1.out).mono ?_; rintro e w' ⟨rfl, rfl⟩)
    | (go_at_call_of 95 (Value.string (s.extract 5 7)); refine (number_at s 5 7 _ (by omega) D2.out).mono ?_; rintro e w' ⟨rfl, rfl⟩)
    | (go_at_call_of 95 (Value.string (s.extract 8 10)); refine (number_at s 8 10 _ (by omega) D3.out).mono ?_; rintro e w' ⟨rfl, rfl⟩))
  all_goals
    go_wp2_with fail
    have hT2 : Tab (w1.alloc (.cells #[.int .i64 (nm s.data.toList 0 4), .int .i64 (nm s.data.toList 5 7), .int .i64 (nm s.data.toList 8 10)] 133)).drew := (hT1.alloc _).drew
    have E2 : Dat (w1.alloc (.cells #[.int .i64 (nm s.data.toList 0 4), .int .i64 (nm s.data.toList 5 7), .int .i64 (nm s.data.toList 8 10)] 133)).drew w1.heap.size (nm s.data.toList 0 4) (nm s.data.toList 5 7) (nm s.data.toList 8 10) := Dat.new w1 _ _ _ _
    have hb2 : Below w.heap.size w (w1.alloc (.cells #[.int .i64 (nm s.data.toList 0 4), .int .i64 (nm s.data.toList 5 7), .int .i64 (nm s.data.toList 8 10)] 133)).drew := (hb.alloc hb.size _).drew
    generalize (w1.alloc (.cells #[.int .i64 (nm s.data.toList 0 4), .int .i64 (nm s.data.toList 5 7), .int .i64 (nm s.data.toList 8 10)] 133)).drew = W at hT2 E2 hb2 ⊢
    refine wp_region_quiet_below (by kernel_rfl) (by kernel_rfl) ?_
    repeat (quiet_step (first
      | (go_at_call_of 95 (Value.string (s.extract 11 13)); exact Calls.regrown_of (below_same (number_at s 11 13 _ (by omega) D4.out)))
      | (go_at_call_of 95 (Value.string (s.extract 14 16)); exact Calls.regrown_of (below_same (number_at s 14 16 _ (by omega) D5.out)))))
    refine wpQuiet_nil ?_
    intro _ hw'
    obtain ⟨⟨dq, osq⟩, hw''⟩ := hw'
    subst hw''
    have hT3 := hT2.below (below_regrown W dq osq)
    have E3 := E2.on (below_regrown W dq osq)
    have hb3 := hb2.trans ((below_regrown W dq osq).mono hb2.size)
    generalize Sort.grow (redrawn W dq) osq = W3 at hT3 E3 hb3 ⊢
    clear hT2 E2 hb2 hb hT1
    obtain ⟨E_0, E_1, E_2⟩ := id E3
    have E_l := E3.lt
    go_wp2_with fail
    go_ret2
    exact ⟨rfl, hb3⟩
set_option maxRecDepth 100000 in
set_option maxHeartbeats 4000000 in
theorem parse_none (s : ByteArray) (w : World) (hT : Tab w) (hf : frm s.data.toList = true) (hg : nm s.data.toList 14 16 ≤ 59) (hn : ¬ good s.data.toList) :
    Calls Tryz.prog 69 #[.string s] w fun e w' => e = .returned (.tuple #[.int .i64 0, errRange]) ∧ Below w.heap.size w w' := by
  have hl : s.size = 16 := by have := frm_len hf; simpa using this
  obtain ⟨b1, b2, b3, b4, b5⟩ := nm_lt hf
  obtain ⟨d1, d2, d3, d4, d5⟩ := frm_dg hf
  have D1 := Lib.hid d1
  have D2 := Lib.hid d2
  have D3 := Lib.hid d3
  have D4 := Lib.hid d4
  have D5 := Lib.hid d5
  clear d1 d2 d3 d4 d5
  have q3 : (nm s.data.toList 14 16 : Int) ≤ 59 := by omega
  have HN : Hid (¬ (okD (nm s.data.toList 0 4) (nm s.data.toList 5 7) (nm s.data.toList 8 10) ∧ 0 ≤ (nm s.data.toList 11 13 * 60 + nm s.data.toList 14 16 : Int) ∧ (nm s.data.toList 11 13 * 60 + nm s.data.toList 14 16 : Int) ≤ 1439 ∧ 1 ≤ (num (nm s.data.toList 0 4) (nm s.data.toList 5 7) (nm s.data.toList 8 10) - 1) * 1440 + (nm s.data.toList 11 13 * 60 + nm s.data.toList 14 16 : Int))) := fun h => hn ⟨h.1, by omega, hg, by unfold raw; omega⟩
  clear hn
  go_enter Tryz.func69, Tryz.ntmps69
  go_wp2_with fail
  refine (hasForm_any s _).mono ?_
  rintro e w1 ⟨rfl, hb⟩
  have hT1 := hT.below hb
  clear hT
  go_wp2_with fail
  go_region_held3 (fun _ => True) (trivial) (first
    | (go_at_call_of 95 (Value.string (s.extract 0 4)); refine (number_at s 0 4 _ (by omega) D1.out).mono ?_; rintro e w' ⟨rfl, rfl⟩)
    | (go_at_call_of 95 (Value.string (s.extract 5 7)); refine (number_at s 5 7 _ (by omega) D2.out).mono ?_; rintro e w' ⟨rfl, rfl⟩)
    | (go_at_call_of 95 (Value.string (s.extract 8 10)); refine (number_at s 8 10 _ (by omega) D3.out).mono ?_; rintro e w' ⟨rfl, rfl⟩))
  all_goals
    go_wp2_with fail
    have hT2 : Tab (w1.alloc (.cells #[.int .i64 (nm s.data.toList 0 4), .int .i64 (nm s.data.toList 5 7), .int .i64 (nm s.data.toList 8 10)] 133)).drew := (hT1.alloc _).drew
    have E2 : Dat (w1.alloc (.cells #[.int .i64 (nm s.data.toList 0 4), .int .i64 (nm s.data.toList 5 7), .int .i64 (nm s.data.toList 8 10)] 133)).drew w1.heap.size (nm s.data.toList 0 4) (nm s.data.toList 5 7) (nm s.data.toList 8 10) := Dat.new w1 _ _ _ _
    have hb2 : Below w.heap.size w (w1.alloc (.cells #[.int .i64 (nm s.data.toList 0 4), .int .i64 (nm s.data.toList 5 7), .int .i64 (nm s.data.toList 8 10)] 133)).drew := (hb.alloc hb.size _).drew
    generalize (w1.alloc (.cells #[.int .i64 (nm s.data.toList 0 4), .int .i64 (nm s.data.toList 5 7), .int .i64 (nm s.data.toList 8 10)] 133)).drew = W at hT2 E2 hb2 ⊢
    refine wp_region_quiet_below (by kernel_rfl) (by kernel_rfl) ?_
    repeat (quiet_step (first
      | (go_at_call_of 95 (Value.string (s.extract 11 13)); exact Calls.regrown_of (below_same (number_at s 11 13 _ (by omega) D4.out)))
      | (go_at_call_of 95 (Value.string (s.extract 14 16)); exact Calls.regrown_of (below_same (number_at s 14 16 _ (by omega) D5.out)))))
    refine wpQuiet_nil ?_
    intro _ hw'
    obtain ⟨⟨dq, osq⟩, hw''⟩ := hw'
    subst hw''
    have hT3 := hT2.below (below_regrown W dq osq)
    have E3 := E2.on (below_regrown W dq osq)
    have hb3 := hb2.trans ((below_regrown W dq osq).mono hb2.size)
    generalize Sort.grow (redrawn W dq) osq = W3 at hT3 E3 hb3 ⊢
    clear hT2 E2 hb2 hb hT1
    obtain ⟨E_0, E_1, E_2⟩ := id E3
    have E_l := E3.lt
    go_wp2_with fail
    refine (time_no _ _ _ _ _ hT3 HN.out).mono ?_
    rintro e w4 ⟨rfl, hb4⟩
    go_wp2_with fail
    go_ret2
    exact ⟨rfl, hb3.trans (hb4.mono hb3.size)⟩
end Go.Proofs.YtpplfcfhjpfckaaGreatDoor
