/-
  What is proved here: the walk of chimelaw4.MonthRows: it returns true for every two numbers, and turns nothing that was there; the table of months is asked as a premise.
-/
import Derived.Test.YtikpfeaidgeebaaDoorMoMon
namespace Go.Proofs.YtikpfeaidgeebaaDoor.Mo
open Go.RowKit Cal Txt

theorem is_fact : isM 2027 2 := by unfold isM; omega
theorem fact_len : (lfM 2027 2 none0).length = 4 := by
  unfold lfM
  rw [leaf_len]
  decide +kernel
set_option maxRecDepth 100000 in
set_option maxHeartbeats 1000000 in
theorem mrows_yes (y m : Int) (w : World) (hT : Tab w) (h : isM y m) :
    Calls Tryd.prog 5 #[.int .i64 y, .int .i64 m] w fun e w' => e = .returned (.bool true) ∧ Below w.heap.size w w' := by
  have K1 := Lib.hid (mleaf_yes 2027 2 w hT is_fact)
  have K2 : Hid (∀ W, Below w.heap.size w W → _) := Lib.hid (fun W (hW : Below w.heap.size w W) => mleaf_yes y m W (hT.below hW) h)
  have LB := lfM_len none0 h
  have LS : Hid (∀ k, k < (lfM y m none0).length → _) := Lib.hid (fun k (hk : k < (lfM y m none0).length) => lfM_size none0 h hk)
  clear h hT
  go_enter Tryd.func5, Tryd.ntmps5
  go_wp2_with fail
  refine K1.out.mono ?_
  rintro e w1 ⟨⟨v1, rfl, hx⟩, hb⟩
  obtain ⟨a1, c1, rfl, _⟩ := hx
  rw [fact_len]
  have B1 := Lib.hid hb
  clear hb K1
  go_wp2_with fail
  refine (K2.out w1 B1.out).mono ?_
  rintro e w2 ⟨⟨v2, rfl, hx⟩, hb⟩
  obtain ⟨a2, c2, rfl, hc⟩ := hx
  have HC := Lib.hid hc
  have B2 := Lib.hid (B1.out.trans (hb.mono B1.out.size))
  clear hb hc K2
  generalize lfM y m none0 = l at LB LS HC ⊢
  go_wp2
  go_loop [9] (fun i => ∃ k : Nat, k ≤ l.length ∧ i = .int .i64 k) (fun i => l.length - (intOf i).toNat)
  case atStart => exact ⟨0, Nat.zero_le _, rfl⟩
  case round =>
    obtain ⟨k, hk, rfl⟩ := hrel
    by_cases hlt : k < l.length
    · rcases HC.out with hc | ⟨b, off, rfl, hc⟩
      · rw [hc] at hlt; simp at hlt
      have k1 := hc k hlt
      have k2 := LS.out k hlt
      generalize l.getD k ByteArray.empty = X at k1 k2
      clear hc
      go_wp2
      go_round
      case rel => exact ⟨k + 1, by omega, by go_num⟩
      case measure => simp [intOf]; omega
    · go_wp2
      go_ret
      exact ⟨ret_bool (decide_eq_true (by omega)), B2.out⟩
theorem mrows_no (y m : Int) (w : World) (hT : Tab w) (h : ¬ isM y m) :
    Calls Tryd.prog 5 #[.int .i64 y, .int .i64 m] w fun e w' => e = .returned (.bool true) ∧ Below w.heap.size w w' := by
  have K1 := Lib.hid (mleaf_yes 2027 2 w hT is_fact)
  have K2 : Hid (∀ W, _) := Lib.hid (fun W => mleaf_no y m W h)
  have hc : y < 1900 ∨ (1900 ≤ y ∧ 2199 < y) ∨ (1900 ≤ y ∧ y ≤ 2199 ∧ m < 1) ∨ (1900 ≤ y ∧ y ≤ 2199 ∧ 1 ≤ m ∧ 12 < m) := by unfold isM at h; omega
  clear h hT
  rcases hc with h | ⟨h, g⟩ | ⟨h, g, k⟩ | ⟨h, g, k, l⟩
  all_goals
    go_enter Tryd.func5, Tryd.ntmps5
    go_wp2_with fail
    refine K1.out.mono ?_
    rintro e w1 ⟨⟨v1, rfl, hx⟩, hb⟩
    obtain ⟨a1, c1, rfl, _⟩ := hx
    rw [fact_len]
    have B1 := Lib.hid hb
    clear hb K1
    go_wp2_with fail
    refine (K2.out w1).mono ?_
    rintro e w2 ⟨rfl, hb⟩
    have B2 := Lib.hid (B1.out.trans (hb.mono B1.out.size))
    clear hb K2
    go_wp2
    go_ret
    exact ⟨rfl, B2.out⟩
theorem mrows (y m : Int) (w : World) (hT : Tab w) :
    Calls Tryd.prog 5 #[.int .i64 y, .int .i64 m] w fun e w' => e = .returned (.bool true) ∧ Below w.heap.size w w' := by
  by_cases h : isM y m
  · exact mrows_yes y m w hT h
  · exact mrows_no y m w hT h
end Go.Proofs.YtikpfeaidgeebaaDoor.Mo
