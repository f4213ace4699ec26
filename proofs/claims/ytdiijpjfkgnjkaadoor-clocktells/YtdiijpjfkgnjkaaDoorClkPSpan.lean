/-
  What is proved here: what clock.PrintSpan answers, for every number (contracts over the translation); the units and the powers of ten are asked as premises.
-/
import Derived.Test.YtdiijpjfkgnjkaaDoorClkSpan
namespace Go.Proofs.YtdiijpjfkgnjkaaDoor
open Go.RowKit Cal Txt

theorem pspan_no (n : Int) (w : World) (h : ¬ (-1000000 ≤ n ∧ n ≤ 1000000)) :
    Calls Tryd.prog 29 #[.int .i64 n] w fun e w' => e = .returned (.tuple #[.string ⟨#[]⟩, errRange]) ∧ Below w.heap.size w w' := by
  by_cases g : n < -1000000
  · clear h
    go_enter Tryd.func29, Tryd.ntmps29
    go_wp2
    go_ret2
    exact ⟨rfl, Below.refl _ _⟩
  · have g' : 1000000 < n := by omega
    clear h
    go_enter Tryd.func29, Tryd.ntmps29
    go_wp2
    go_ret2
    exact ⟨rfl, Below.refl _ _⟩
theorem pspan_zero (w : World) :
    Calls Tryd.prog 29 #[.int .i64 0] w fun e w' => e = .returned (.tuple #[.string ⟨(spt 0).toArray⟩, .nilIface]) ∧ Below w.heap.size w w' := by
  go_enter Tryd.func29, Tryd.ntmps29
  go_wp2
  go_ret2
  exact ⟨rfl, Below.refl _ _⟩
/-- What is left behind so many units, and the text so far. -/
def nk (a : Nat) : Nat → Nat
  | 0 => a
  | 1 => a % 1440
  | 2 => a % 60
  | _ => 0
def tk (sg : List UInt8) (a : Nat) : Nat → List UInt8
  | 0 => sg
  | 1 => sg ++ pc (a / 1440) 100
  | 2 => sg ++ pc (a / 1440) 100 ++ pc (a % 1440 / 60) 104
  | _ => sg ++ prts a
theorem byte_str (W : World) : (Go.convert 5 9 (.int .u8 100)).run Tryd.prog W = .ok (.string ⟨#[100]⟩) W ∧ (Go.convert 5 9 (.int .u8 104)).run Tryd.prog W = .ok (.string ⟨#[104]⟩) W ∧ (Go.convert 5 9 (.int .u8 109)).run Tryd.prog W = .ok (.string ⟨#[109]⟩) W := ⟨by kernel_rfl, by kernel_rfl, by kernel_rfl⟩
theorem app_list (s : ByteArray) (l : List UInt8) (c : UInt8) : (s ++ ((⟨l.toArray⟩ : ByteArray) ++ ⟨#[c]⟩)).data.toList = s.data.toList ++ (l ++ [c]) := by simp
theorem app_size (s : ByteArray) (l : List UInt8) (c : UInt8) : (s ++ ((⟨l.toArray⟩ : ByteArray) ++ ⟨#[c]⟩)).size = s.size + l.length + 1 := by
  have e : ∀ x : ByteArray, x.size = x.data.toList.length := fun _ => rfl
  rw [e, app_list]; simp; omega
set_option maxRecDepth 100000 in
set_option maxHeartbeats 8000000 in
/-- The rounds, from what stands behind the sign on. -/
theorem pspan_walk (sg : List UInt8) (a : Nat) (n : Int) (w : World) (hP : Pow w) (hU : Uni w) (ha : 1 ≤ a) (ha2 : a ≤ 1000000)
    (hn : (n < 0 ∧ -n = a ∧ sg = [45]) ∨ (¬ n < 0 ∧ n = a ∧ sg = [])) :
    Calls Tryd.prog 29 #[.int .i64 n] w fun e w' => e = .returned (.tuple #[.string ⟨(sg ++ prts a).toArray⟩, .nilIface]) ∧ Below w.heap.size w w' := by
  have nz : (n == 0) = false := by rw [beq_eq_false_iff_ne]; omega
  obtain ⟨⟨a0, a1, a2⟩, ⟨b0, b1, b2⟩, ⟨c0, c1, c2⟩⟩ := hU
  rcases hn with ⟨g, e, es⟩ | ⟨g, e, es⟩
  all_goals
    have E := Lib.hid e
    have ES := Lib.hid es
    have gb1 : -1000000 ≤ n := by omega
    have gb2 : n ≤ 1000000 := by omega
    clear e es
    go_enter Tryd.func29, Tryd.ntmps29
    go_wp2
    go_loopw [0, 4, 22] (fun m t i wr => ∃ (s' : ByteArray) (k : Nat), m = .int .i64 (nk a k : Nat) ∧ t = .string s' ∧ i = .int .i64 k ∧ s'.data.toList = tk sg a k ∧ s'.size ≤ 1 + 10 * k ∧ Pow wr ∧ Below w.heap.size w wr ∧ (k = 0 ∨ k = 1 ∨ k = 2 ∨ k = 3)) (fun _ _ i _ => 3 - (intOf i).toNat)
    case atStart => exact ⟨_, 0, by rw [E.out]; rfl, rfl, rfl, by rw [ES.out]; rfl, by decide, hP, Below.refl _ _, Or.inl rfl⟩
    case round =>
      clear a0 a1 a2 b0 b1 b2 c0 c1 c2 hP E ES gb1 gb2 g nz
      obtain ⟨s', k, rfl, rfl, rfl, hx, hz, hP, hb, hk⟩ := hrel
      rcases hk with rfl | hk
      · have ix := unit_0
        have bs := fun W => (byte_str W).1
        have X0 : Hid (s'.data.toList = tk sg a 0) := hx
        clear hx
        rw [show nk a 0 = a from rfl]
        by_cases hq : 0 < ((a : Int) / 1440)
        · have dl : (Lib.decDigits ((a : Int) / 1440).toNat).length ≤ 9 := dec_len _ 8 (by omega)
          have t1 : s'.data.toList ++ (Lib.decDigits ((a : Int) / 1440).toNat ++ [100]) = tk sg a 1 := by
            rw [X0.out, show ((a : Int) / 1440).toNat = (a / 1440) by omega]
            have e := pc_pos (k := (a / 1440)) (by omega) 100
            simp only [tk]
            rw [← e]
          have T1 := Lib.hid t1
          clear t1
          go_wp2_with fail
          have hP2 := hP.alloc (.cells #[.int .u8 100, .int .i64 1440, .int .i64 999999999] 61)
          have hb2 := hb.alloc hb.size (.cells #[.int .u8 100, .int .i64 1440, .int .i64 999999999] 61)
          have E_0 : (wr.alloc (.cells #[.int .u8 100, .int .i64 1440, .int .i64 999999999] 61)).cell? ⟨wr.heap.size, 0, none⟩ = some (.int .u8 100) := by simp
          have E_1 : (wr.alloc (.cells #[.int .u8 100, .int .i64 1440, .int .i64 999999999] 61)).cell? ⟨wr.heap.size, 1, none⟩ = some (.int .i64 1440) := by simp
          have E_l : wr.heap.size < (wr.alloc (.cells #[.int .u8 100, .int .i64 1440, .int .i64 999999999] 61)).heap.size := by simp
          clear hP hb
          generalize (wr.alloc (.cells #[.int .u8 100, .int .i64 1440, .int .i64 999999999] 61)) = W at hP2 hb2 E_0 E_1 E_l ⊢
          have k0 := cell_regrown E_0
          refine wp_region_quiet_below (by kernel_rfl) (by kernel_rfl) ?_
          have n1 : ¬ 9223372036854775807 < (Lib.decDigits ((a : Int) / 1440).toNat).length + 1 := by omega
          have n2 : ¬ 9223372036854775807 < s'.size + ((Lib.decDigits ((a : Int) / 1440).toNat).length + 1) := by omega
          repeat (quiet_step (first | (go_at_call 41; exact Calls.regrown_of (itoa_any _ _ (hP2.below (below_regrown W _ _)) (by omega) (by omega)))))
          refine wpQuiet_nil ?_
          intro _ hw'
          obtain ⟨⟨dq, osq⟩, hw''⟩ := hw'
          subst hw''
          have hP3 := hP2.below (below_regrown W dq osq)
          have hb3 := hb2.trans ((below_regrown W dq osq).mono hb2.size)
          have E_1' := cell_regrown E_1 dq osq
          have E_l' : wr.heap.size < (Sort.grow (redrawn W dq) osq).heap.size := Nat.lt_of_lt_of_le E_l (below_regrown W dq osq).size
          clear k0 E_0 E_1 E_l hP2 hb2
          generalize Sort.grow (redrawn W dq) osq = W3 at hP3 hb3 E_1' E_l' ⊢
          go_wp2_with fail
          go_roundw
          case rel => exact ⟨_, 1, by rw [show nk a 1 = a % 1440 from rfl]; go_num, rfl, rfl, (app_list _ _ _).trans T1.out, by rw [app_size]; omega, hP3, hb3, by omega⟩
          case measure => simp [intOf]
        · have t1 : s'.data.toList = tk sg a 1 := by
            rw [X0.out]
            have e : (a / 1440) = 0 := by omega
            simp only [tk]
            rw [e]
            simp [pc_zero]
          have T1 := Lib.hid t1
          clear t1
          go_wp2_with fail
          have hP2 := hP.alloc (.cells #[.int .u8 100, .int .i64 1440, .int .i64 999999999] 61)
          have hb2 := hb.alloc hb.size (.cells #[.int .u8 100, .int .i64 1440, .int .i64 999999999] 61)
          clear hP hb
          go_roundw
          case rel => exact ⟨_, 1, by rw [show nk a 1 = a % 1440 from rfl]; go_num, rfl, rfl, T1.out, by omega, hP2, hb2, by omega⟩
          case measure => simp [intOf]
      rcases hk with rfl | hk
      · have ix := unit_1
        have bs := fun W => (byte_str W).2.1
        have X0 : Hid (s'.data.toList = tk sg a 1) := hx
        clear hx
        rw [show nk a 1 = a % 1440 from rfl]
        by_cases hq : 0 < ((a : Int) % 1440 / 60)
        · have dl : (Lib.decDigits ((a : Int) % 1440 / 60).toNat).length ≤ 9 := dec_len _ 8 (by omega)
          have t1 : s'.data.toList ++ (Lib.decDigits ((a : Int) % 1440 / 60).toNat ++ [104]) = tk sg a 2 := by
            rw [X0.out, show ((a : Int) % 1440 / 60).toNat = (a % 1440 / 60) by omega]
            have e := pc_pos (k := (a % 1440 / 60)) (by omega) 104
            simp only [tk, List.append_assoc]
            rw [← e]
          have T1 := Lib.hid t1
          clear t1
          go_wp2_with fail
          have hP2 := hP.alloc (.cells #[.int .u8 104, .int .i64 60, .int .i64 23] 61)
          have hb2 := hb.alloc hb.size (.cells #[.int .u8 104, .int .i64 60, .int .i64 23] 61)
          have E_0 : (wr.alloc (.cells #[.int .u8 104, .int .i64 60, .int .i64 23] 61)).cell? ⟨wr.heap.size, 0, none⟩ = some (.int .u8 104) := by simp
          have E_1 : (wr.alloc (.cells #[.int .u8 104, .int .i64 60, .int .i64 23] 61)).cell? ⟨wr.heap.size, 1, none⟩ = some (.int .i64 60) := by simp
          have E_l : wr.heap.size < (wr.alloc (.cells #[.int .u8 104, .int .i64 60, .int .i64 23] 61)).heap.size := by simp
          clear hP hb
          generalize (wr.alloc (.cells #[.int .u8 104, .int .i64 60, .int .i64 23] 61)) = W at hP2 hb2 E_0 E_1 E_l ⊢
          have k0 := cell_regrown E_0
          refine wp_region_quiet_below (by kernel_rfl) (by kernel_rfl) ?_
          have n1 : ¬ 9223372036854775807 < (Lib.decDigits ((a : Int) % 1440 / 60).toNat).length + 1 := by omega
          have n2 : ¬ 9223372036854775807 < s'.size + ((Lib.decDigits ((a : Int) % 1440 / 60).toNat).length + 1) := by omega
          repeat (quiet_step (first | (go_at_call 41; exact Calls.regrown_of (itoa_any _ _ (hP2.below (below_regrown W _ _)) (by omega) (by omega)))))
          refine wpQuiet_nil ?_
          intro _ hw'
          obtain ⟨⟨dq, osq⟩, hw''⟩ := hw'
          subst hw''
          have hP3 := hP2.below (below_regrown W dq osq)
          have hb3 := hb2.trans ((below_regrown W dq osq).mono hb2.size)
          have E_1' := cell_regrown E_1 dq osq
          have E_l' : wr.heap.size < (Sort.grow (redrawn W dq) osq).heap.size := Nat.lt_of_lt_of_le E_l (below_regrown W dq osq).size
          clear k0 E_0 E_1 E_l hP2 hb2
          generalize Sort.grow (redrawn W dq) osq = W3 at hP3 hb3 E_1' E_l' ⊢
          go_wp2_with fail
          go_roundw
          case rel => exact ⟨_, 2, by rw [show nk a 2 = a % 60 from rfl]; go_num, rfl, rfl, (app_list _ _ _).trans T1.out, by rw [app_size]; omega, hP3, hb3, by omega⟩
          case measure => simp [intOf]
        · have t1 : s'.data.toList = tk sg a 2 := by
            rw [X0.out]
            have e : (a % 1440 / 60) = 0 := by omega
            simp only [tk]
            rw [e]
            simp [pc_zero]
          have T1 := Lib.hid t1
          clear t1
          go_wp2_with fail
          have hP2 := hP.alloc (.cells #[.int .u8 104, .int .i64 60, .int .i64 23] 61)
          have hb2 := hb.alloc hb.size (.cells #[.int .u8 104, .int .i64 60, .int .i64 23] 61)
          clear hP hb
          go_roundw
          case rel => exact ⟨_, 2, by rw [show nk a 2 = a % 60 from rfl]; go_num, rfl, rfl, T1.out, by omega, hP2, hb2, by omega⟩
          case measure => simp [intOf]
      rcases hk with rfl | hk
      · have ix := unit_2
        have bs := fun W => (byte_str W).2.2
        have X0 : Hid (s'.data.toList = tk sg a 2) := hx
        clear hx
        rw [show nk a 2 = a % 60 from rfl]
        by_cases hq : 0 < ((a : Int) % 60)
        · have dl : (Lib.decDigits ((a : Int) % 60).toNat).length ≤ 9 := dec_len _ 8 (by omega)
          have t1 : s'.data.toList ++ (Lib.decDigits ((a : Int) % 60).toNat ++ [109]) = tk sg a 3 := by
            rw [X0.out, show ((a : Int) % 60).toNat = (a % 60) by omega]
            have e := pc_pos (k := (a % 60)) (by omega) 109
            simp only [tk, prts, List.append_assoc]
            rw [← e]
          have T1 := Lib.hid t1
          clear t1
          go_wp2_with fail
          have hP2 := hP.alloc (.cells #[.int .u8 109, .int .i64 1, .int .i64 59] 61)
          have hb2 := hb.alloc hb.size (.cells #[.int .u8 109, .int .i64 1, .int .i64 59] 61)
          have E_0 : (wr.alloc (.cells #[.int .u8 109, .int .i64 1, .int .i64 59] 61)).cell? ⟨wr.heap.size, 0, none⟩ = some (.int .u8 109) := by simp
          have E_1 : (wr.alloc (.cells #[.int .u8 109, .int .i64 1, .int .i64 59] 61)).cell? ⟨wr.heap.size, 1, none⟩ = some (.int .i64 1) := by simp
          have E_l : wr.heap.size < (wr.alloc (.cells #[.int .u8 109, .int .i64 1, .int .i64 59] 61)).heap.size := by simp
          clear hP hb
          generalize (wr.alloc (.cells #[.int .u8 109, .int .i64 1, .int .i64 59] 61)) = W at hP2 hb2 E_0 E_1 E_l ⊢
          have k0 := cell_regrown E_0
          refine wp_region_quiet_below (by kernel_rfl) (by kernel_rfl) ?_
          have n1 : ¬ 9223372036854775807 < (Lib.decDigits ((a : Int) % 60).toNat).length + 1 := by omega
          have n2 : ¬ 9223372036854775807 < s'.size + ((Lib.decDigits ((a : Int) % 60).toNat).length + 1) := by omega
          repeat (quiet_step (first | (go_at_call 41; exact Calls.regrown_of (itoa_any _ _ (hP2.below (below_regrown W _ _)) (by omega) (by omega)))))
          refine wpQuiet_nil ?_
          intro _ hw'
          obtain ⟨⟨dq, osq⟩, hw''⟩ := hw'
          subst hw''
          have hP3 := hP2.below (below_regrown W dq osq)
          have hb3 := hb2.trans ((below_regrown W dq osq).mono hb2.size)
          have E_1' := cell_regrown E_1 dq osq
          have E_l' : wr.heap.size < (Sort.grow (redrawn W dq) osq).heap.size := Nat.lt_of_lt_of_le E_l (below_regrown W dq osq).size
          clear k0 E_0 E_1 E_l hP2 hb2
          generalize Sort.grow (redrawn W dq) osq = W3 at hP3 hb3 E_1' E_l' ⊢
          go_wp2_with fail
          go_roundw
          case rel => exact ⟨_, 3, by rw [show nk a 3 = 0 from rfl]; go_num, rfl, rfl, (app_list _ _ _).trans T1.out, by rw [app_size]; omega, hP3, hb3, by omega⟩
          case measure => simp [intOf]
        · have t1 : s'.data.toList = tk sg a 3 := by
            rw [X0.out]
            have e : (a % 60) = 0 := by omega
            simp only [tk, prts]
            rw [e]
            simp [pc_zero]
          have T1 := Lib.hid t1
          clear t1
          go_wp2_with fail
          have hP2 := hP.alloc (.cells #[.int .u8 109, .int .i64 1, .int .i64 59] 61)
          have hb2 := hb.alloc hb.size (.cells #[.int .u8 109, .int .i64 1, .int .i64 59] 61)
          clear hP hb
          go_roundw
          case rel => exact ⟨_, 3, by rw [show nk a 3 = 0 from rfl]; go_num, rfl, rfl, T1.out, by omega, hP2, hb2, by omega⟩
          case measure => simp [intOf]
      subst hk
      have X : Hid (s' = ⟨(sg ++ prts a).toArray⟩) := by
        apply ByteArray.ext; apply Array.ext'; exact hx
      clear hx
      go_wp2
      go_ret2
      exact ⟨ret_strNil X.out, hb⟩
theorem pspan_yes (n : Int) (w : World) (hP : Pow w) (hU : Uni w) (h1 : -1000000 ≤ n) (h2 : n ≤ 1000000) :
    Calls Tryd.prog 29 #[.int .i64 n] w fun e w' => e = .returned (.tuple #[.string ⟨(spt n).toArray⟩, .nilIface]) ∧ Below w.heap.size w w' := by
  by_cases h : n = 0
  · subst h; exact pspan_zero w
  · have := pspan_walk (if n < 0 then [45] else []) n.natAbs n w hP hU (by omega) (by omega) (by
      by_cases g : n < 0
      · exact Or.inl ⟨g, by omega, if_pos g⟩
      · exact Or.inr ⟨g, by omega, if_neg g⟩)
    have e : spt n = (if n < 0 then [45] else []) ++ prts n.natAbs := by unfold spt; rw [if_neg h]
    rw [e]; exact this
end Go.Proofs.YtdiijpjfkgnjkaaDoor
