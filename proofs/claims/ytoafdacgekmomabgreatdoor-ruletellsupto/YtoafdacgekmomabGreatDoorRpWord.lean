/-
  What is proved here: what package rule's parseFreq, parseWeekday and parseDay answer (contracts over the translation); tables and words are asked as premises.
-/
import Derived.Test.YtoafdacgekmomabGreatDoorRpNum
namespace Go.Proofs.YtoafdacgekmomabGreatDoor
open Go.RowKit Cal Txt

theorem idx4 (k : Nat) (h : k < 4) (W : World) : (Instr.index 56 (.agg #[.string (tb (fq 1)), .string (tb (fq 2)), .string (tb (fq 3)), .string (tb (fq 4))]) (.int .i64 k)).run Tryz.prog W = .ok (.string (tb (fq (k + 1)))) W := by
  rcases (by omega : k = 0 ∨ k = 1 ∨ k = 2 ∨ k = 3) with rfl | rfl | rfl | rfl <;> kernel_rfl
theorem idxW (k : Nat) (h : k < 7) (W : World) : (Instr.index 57 (.agg #[.string (tb (dn 1)), .string (tb (dn 2)), .string (tb (dn 3)), .string (tb (dn 4)), .string (tb (dn 5)), .string (tb (dn 6)), .string (tb (dn 7))]) (.int .i64 k)).run Tryz.prog W = .ok (.string (tb (dn (k + 1)))) W := by
  rcases seven h with rfl | rfl | rfl | rfl | rfl | rfl | rfl <;> kernel_rfl
/-- A place that was found, or none. -/
def posA (n : Int) : Value := .tuple #[.int .i64 n, .bool (decide (¬ n = 0))]
theorem posA_none {n : Int} (h : n = 0) : posA n = .tuple #[.int .i64 0, .bool false] := by rw [h]; rfl
theorem posA_some {n m : Int} (h : n = m) (hm : ¬ m = 0) : posA n = .tuple #[.int .i64 m, .bool true] := by rw [h]; unfold posA; rw [decide_eq_true hm]
set_option maxRecDepth 100000 in
set_option maxHeartbeats 2000000 in
theorem parseFreq_any (s : ByteArray) (w : World) (hF : FrW w) :
    Calls Tryz.prog 60 #[.string s] w fun e w' => e = .returned (posA (fk s.data.toList)) ∧ w' = w := by
  have c0 : w.cell? ⟨0, 0, none⟩ = some (.string (tb (fq 1))) := hF 0 (by decide)
  have c1 : w.cell? ⟨0, 1, none⟩ = some (.string (tb (fq 2))) := hF 1 (by decide)
  have c2 : w.cell? ⟨0, 2, none⟩ = some (.string (tb (fq 3))) := hF 2 (by decide)
  have c3 : w.cell? ⟨0, 3, none⟩ = some (.string (tb (fq 4))) := hF 3 (by decide)
  clear hF
  go_enter Tryz.func60, Tryz.ntmps60
  go_wp2
  go_loop [4, 5, 7] (fun _ _ i => ∃ k : Nat, k ≤ 4 ∧ i = .int .i64 k ∧ ∀ j : Nat, j < k → fq (j + 1) ≠ s.data.toList) (fun _ _ i => 4 - (intOf i).toNat)
  case atStart => exact ⟨0, by omega, rfl, fun j hj => by omega⟩
  case round =>
    obtain ⟨k, hk, rfl, hF⟩ := hrel
    have HF := Lib.hid hF
    clear hF
    by_cases hlt : k < 4
    · have ix := idx4 k hlt
      have k4 : (k : Int) < 4 := by omega
      by_cases he : fq (k + 1) = s.data.toList
      · have e1 : ((tb (fq (k + 1))).toList == s.toList) = true := by rw [Lib.toList_data, Lib.toList_data, tb_data, he]; simp
        have N1 : Hid (posA (fk s.data.toList) = .tuple #[.int .i64 (k + 1), .bool true]) := Lib.hid (posA_some (by rw [← he]; exact fk_fq (by omega) (by omega)) (by omega))
        clear he
        go_wp2
        go_ret2
        exact ⟨by rw [N1.out]; rfl, rfl⟩
      · have e1 : ((tb (fq (k + 1))).toList == s.toList) = false := by rw [Lib.toList_data, Lib.toList_data, tb_data]; simpa using he
        have N1 : Hid (∀ j : Nat, j < k + 1 → fq (j + 1) ≠ s.data.toList) := Lib.hid (fun j hj => by
          rcases Nat.lt_or_ge j k with g | g
          · exact HF.out j g
          · obtain rfl : j = k := by omega
            exact he)
        clear he
        go_wp2
        go_round
        case rel => exact ⟨k + 1, by omega, by go_num, N1.out⟩
        case measure => simp [intOf]; omega
    · have N1 : Hid (posA (fk s.data.toList) = .tuple #[.int .i64 0, .bool false]) := Lib.hid (posA_none (by
        by_cases h0 : fk s.data.toList = 0
        · exact h0
        · obtain ⟨q1, q2, q3⟩ := fq_fk h0
          have := HF.out ((fk s.data.toList).toNat - 1) (by omega)
          rw [show (((fk s.data.toList).toNat - 1 : Nat) : Int) + 1 = fk s.data.toList by omega] at this
          exact absurd q1 this))
      go_wp2
      go_ret2
      exact ⟨by rw [N1.out]; rfl, rfl⟩
set_option maxRecDepth 100000 in
set_option maxHeartbeats 2000000 in
theorem parseWeekday_any (s : ByteArray) (w : World) (hW : WdW w) :
    Calls Tryz.prog 98 #[.string s] w fun e w' => e = .returned (posA (dk s.data.toList)) ∧ w' = w := by
  have c0 : w.cell? ⟨3, 0, none⟩ = some (.string (tb (dn 1))) := hW 0 (by decide)
  have c1 : w.cell? ⟨3, 1, none⟩ = some (.string (tb (dn 2))) := hW 1 (by decide)
  have c2 : w.cell? ⟨3, 2, none⟩ = some (.string (tb (dn 3))) := hW 2 (by decide)
  have c3 : w.cell? ⟨3, 3, none⟩ = some (.string (tb (dn 4))) := hW 3 (by decide)
  have c4 : w.cell? ⟨3, 4, none⟩ = some (.string (tb (dn 5))) := hW 4 (by decide)
  have c5 : w.cell? ⟨3, 5, none⟩ = some (.string (tb (dn 6))) := hW 5 (by decide)
  have c6 : w.cell? ⟨3, 6, none⟩ = some (.string (tb (dn 7))) := hW 6 (by decide)
  clear hW
  go_enter Tryz.func98, Tryz.ntmps98
  go_wp2
  go_loop [4, 5, 7] (fun _ _ i => ∃ k : Nat, k ≤ 7 ∧ i = .int .i64 k ∧ ∀ j : Nat, j < k → dn (j + 1) ≠ s.data.toList) (fun _ _ i => 7 - (intOf i).toNat)
  case atStart => exact ⟨0, by omega, rfl, fun j hj => by omega⟩
  case round =>
    obtain ⟨k, hk, rfl, hF⟩ := hrel
    have HF := Lib.hid hF
    clear hF
    by_cases hlt : k < 7
    · have ix := idxW k hlt
      have k4 : (k : Int) < 7 := by omega
      by_cases he : dn (k + 1) = s.data.toList
      · have e1 : ((tb (dn (k + 1))).toList == s.toList) = true := by rw [Lib.toList_data, Lib.toList_data, tb_data, he]; simp
        have N1 : Hid (posA (dk s.data.toList) = .tuple #[.int .i64 (k + 1), .bool true]) := Lib.hid (posA_some (by rw [← he]; exact dk_dn (by omega) (by omega)) (by omega))
        clear he
        go_wp2
        go_ret2
        exact ⟨by rw [N1.out]; rfl, rfl⟩
      · have e1 : ((tb (dn (k + 1))).toList == s.toList) = false := by rw [Lib.toList_data, Lib.toList_data, tb_data]; simpa using he
        have N1 : Hid (∀ j : Nat, j < k + 1 → dn (j + 1) ≠ s.data.toList) := Lib.hid (fun j hj => by
          rcases Nat.lt_or_ge j k with g | g
          · exact HF.out j g
          · obtain rfl : j = k := by omega
            exact he)
        clear he
        go_wp2
        go_round
        case rel => exact ⟨k + 1, by omega, by go_num, N1.out⟩
        case measure => simp [intOf]; omega
    · have N1 : Hid (posA (dk s.data.toList) = .tuple #[.int .i64 0, .bool false]) := Lib.hid (posA_none (by
        by_cases h0 : dk s.data.toList = 0
        · exact h0
        · obtain ⟨q1, q2, q3⟩ := dn_dk h0
          have := HF.out ((dk s.data.toList).toNat - 1) (by omega)
          rw [show (((dk s.data.toList).toNat - 1 : Nat) : Int) + 1 = dk s.data.toList by omega] at this
          exact absurd q1 this))
      go_wp2
      go_ret2
      exact ⟨by rw [N1.out]; rfl, rfl⟩
theorem tl1_data (s : ByteArray) : (s ++ (⟨#[32, 48, 48, 58, 48, 49]⟩ : ByteArray)).data.toList = s.data.toList ++ tl1 := by simp [tl1]
set_option maxRecDepth 100000 in
set_option maxHeartbeats 2000000 in
theorem parseDay_any (s : ByteArray) (w : World) (hT : Tab w) (hs : s.size ≤ 2000000) :
    Calls Tryz.prog 76 #[.string s] w fun e w' => e = .returned (numA (dr s.data.toList)) ∧ Below w.heap.size w w' := by
  have f1 : ¬ 9223372036854775807 < s.size + 6 := by omega
  rcases h : dr s.data.toList with _ | n
  · have KP : Hid (∃ k, ¬ k = 0 ∧ Calls Tryz.prog 97 #[.string (s ++ ⟨#[32, 48, 48, 58, 48, 49]⟩)] w fun e w' => e = .returned (.tuple #[.int .i64 0, .iface 44 (.int .i64 k)]) ∧ Below w.heap.size w w') := Lib.hid (by
      rcases day_none h with k | ⟨k1, k2, k3⟩
      · exact ⟨2, by decide, parse_bad _ w (by rw [tl1_data]; exact k)⟩
      · exact ⟨1, by decide, parse_none _ w hT (by rw [tl1_data]; exact k1) (by rw [tl1_data]; exact k2) (by rw [tl1_data]; exact k3)⟩)
    obtain ⟨k, _, K⟩ := KP.out
    have HK := Lib.hid K
    clear KP K h hT
    rw [numA_none rfl]
    go_enter Tryz.func76, Tryz.ntmps76
    go_wp2_with fail
    refine HK.out.mono ?_
    rintro e w1 ⟨rfl, hb⟩
    go_wp2
    go_ret2
    exact ⟨rfl, hb⟩
  · obtain ⟨k1, k2, k3, k4, k5⟩ := day_some h
    have HK := Lib.hid (parse_yes (s ++ ⟨#[32, 48, 48, 58, 48, 49]⟩) w hT (by rw [tl1_data]; exact k1) (by rw [tl1_data]; exact k2))
    rw [tl1_data, k3] at HK
    have N1 : Hid (((n - 1) * 1440 + 1) / 1440 + 1 = n) := Lib.hid (by omega)
    clear k1 k2 k3 h hT
    rw [numA_some rfl]
    go_enter Tryz.func76, Tryz.ntmps76
    go_wp2_with fail
    refine HK.out.mono ?_
    rintro e w1 ⟨rfl, hb⟩
    go_wp2_with fail
    refine (split_yes _ _ (by omega) (by omega)).mono ?_
    rintro e w2 ⟨rfl, hw⟩
    subst hw
    rw [N1.out]
    go_wp2_with fail
    go_quiet (fail)
    go_wp2
    go_ret2
    exact ⟨rfl, below_drewN hb _⟩
end Go.Proofs.YtoafdacgekmomabGreatDoor
