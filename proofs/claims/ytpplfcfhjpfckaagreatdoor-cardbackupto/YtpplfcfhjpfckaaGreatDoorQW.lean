/-
  What is proved here: what strings.Split answers at one byte, and what package rule's parseNumber, parseFreq, parseWeekday and parseDay answer (contracts over the translation); tables and words are asked as premises.
  What is proved here: what package rule's parseFreq, parseWeekday and parseDay answer (contracts over the translation); tables and words are asked as premises.
-/
import Derived.Test.YtpplfcfhjpfckaaGreatDoorQV
import Derived.Test.YtpplfcfhjpfckaaGreatDoorClkParse
import Derived.Test.YtpplfcfhjpfckaaGreatDoorQF
import Derived.Test.YtpplfcfhjpfckaaGreatDoorQK
namespace Go.Proofs.YtpplfcfhjpfckaaGreatDoor
open Go.RowKit Cal Txt

theorem infoStr : (Tryz.prog.info? (Tryz.lays146_ren.t 9)).map (fun i => (i.zero, i.size, i.bytes)) = some (some (.string ByteArray.empty), 1, 16) := by kernel_rfl
theorem countB_one (s : ByteArray) (c : UInt8) : Lib.countB s ⟨#[c]⟩ = s.data.toList.count c := Lib.count_one c _
theorem indexB_one (s : ByteArray) (c : UInt8) : Lib.indexB s ⟨#[c]⟩ = Lib.indexByte s.data.toList c := Lib.index_one _ c
theorem one_size (c : UInt8) : 1 ≤ (⟨#[c]⟩ : ByteArray).size := Nat.le_refl 1
theorem genSplit_one (s : ByteArray) (c : UInt8) (w : World) (hs : s.size < 4294967281) :
    Calls Tryz.prog 127 #[.string s, .string ⟨#[c]⟩, .int .i64 0, .int .i64 (-1)] w fun e w' =>
      e = .returned (.slice (some ⟨w.heap.size, 0, none⟩) (s.data.toList.count c + 1) (s.data.toList.count c + 1)) ∧ w' = w.alloc (.cells ((Lib.splitB ⟨#[c]⟩ 0 (s.data.toList.count c) s).map Value.string).toArray 9) := by
  have L := Tryz.lays146
  have hle := Lib.countB_le ⟨#[c]⟩ (one_size c) s.size s (Nat.le_refl _)
  have hlen := Lib.splitB_all ⟨#[c]⟩ (one_size c) 0 _ s rfl
  rw [countB_one] at hle hlen
  have k := Any.strings_genSplit_core (P := Tryz.prog) (ρ := Tryz.lays146_ren) { L with } infoStr s ⟨#[c]⟩ 0 (-1) (s.data.toList.count c + 1) w hs (one_size c) (Nat.zero_le _)
    (fun x cs _ => by rw [indexB_one]; exact Any.strings_Index_one { L with } x c _)
    (by rw [countB_one]; exact Any.strings_Count_one { L with } s c w) (by decide) (by decide) (by rw [if_pos (by decide), countB_one]; omega)
  rw [Nat.add_sub_cancel, hlen] at k
  have e2 : Lib.cellsOf (Lib.splitB ⟨#[c]⟩ 0 (s.data.toList.count c) s) (s.data.toList.count c + 1) = ((Lib.splitB ⟨#[c]⟩ 0 (s.data.toList.count c) s).map Value.string).toArray := by rw [← hlen]; exact Lib.cellsOf_full _
  rw [e2] at k
  exact k
/-- The pieces of a text. -/
def pcs (c : UInt8) (s : ByteArray) : List ByteArray := Lib.splitB ⟨#[c]⟩ 0 (s.data.toList.count c) s
theorem pcs_cut (c : UInt8) (s : ByteArray) : (pcs c s).map (·.data.toList) = cutAt c s.data.toList := by
  unfold pcs
  rw [Lib.splitB_data]
  exact splitK_cut c _ _ (Nat.le_refl _)
theorem pcs_len (c : UInt8) (s : ByteArray) : (pcs c s).length = s.data.toList.count c + 1 := by
  have := congrArg List.length (pcs_cut c s)
  rwa [List.length_map, cut_len] at this
theorem genSplit_pcs (s : ByteArray) (c : UInt8) (w : World) (hs : s.size < 4294967281) :
    Calls Tryz.prog 127 #[.string s, .string ⟨#[c]⟩, .int .i64 0, .int .i64 (-1)] w fun e w' =>
      e = .returned (.slice (some ⟨w.heap.size, 0, none⟩) (pcs c s).length (pcs c s).length) ∧ w' = w.alloc (.cells ((pcs c s).map Value.string).toArray 9) := by
  have := genSplit_one s c w hs
  rw [← pcs_len] at this
  exact this
/-- strings.Split at one byte. -/
theorem split_one (s : ByteArray) (c : UInt8) (w : World) (hs : s.size < 4294967281) :
    Calls Tryz.prog 100 #[.string s, .string ⟨#[c]⟩] w fun e w' =>
      e = .returned (.slice (some ⟨w.heap.size, 0, none⟩) (pcs c s).length (pcs c s).length) ∧ w' = w.alloc (.cells ((pcs c s).map Value.string).toArray 9) := by
  have k := Lib.hid (genSplit_pcs s c w hs)
  go_enter Tryz.func100, Tryz.ntmps100
  go_wp2_with fail
  refine k.out.mono ?_
  rintro e w' ⟨rfl, hw⟩
  subst hw
  go_wp2
  go_ret
  exact ⟨rfl, rfl⟩
/-- The errors of package strconv lie as their texts lay them. -/
def ErS (w : World) : Prop := (∃ te pe, w.cell? ⟨9, 0, none⟩ = some (.iface te pe)) ∧ ∃ te pe, w.cell? ⟨10, 0, none⟩ = some (.iface te pe)
theorem ErS.below {w w' : World} (h : ErS w) (b : Below w.heap.size w w') : ErS w' := by
  obtain ⟨⟨t1, p1, h1⟩, t2, p2, h2⟩ := h
  exact ⟨⟨t1, p1, (b.cell (p := ⟨9, 0, none⟩) (cell_lt h1)).trans h1⟩, t2, p2, (b.cell (p := ⟨10, 0, none⟩) (cell_lt h2)).trans h2⟩
/-- What is answered of a number that was read, or not. -/
def numA (o : Option Int) : Value := .tuple #[.int .i64 (o.getD 0), .bool o.isSome]
theorem numA_none {o : Option Int} (h : o = none) : numA o = .tuple #[.int .i64 0, .bool false] := by rw [h]; rfl
theorem numA_some {o : Option Int} {n : Int} (h : o = some n) : numA o = .tuple #[.int .i64 n, .bool true] := by rw [h]; rfl
set_option maxRecDepth 100000 in
set_option maxHeartbeats 2000000 in
theorem parseNumber_any (s : ByteArray) (w : World) (hP : Pow w) (hE : ErS w) (hs : s.size ≤ 2000000) :
    Calls Tryz.prog 141 #[.string s] w fun e w' => e = .returned (numA (nr 4 s.data.toList)) ∧ Below w.heap.size w w' := by
  rcases ho : Lib.atoiAll s.data.toList with v | _ | _
  · have KA : Hid (Calls Tryz.prog 128 #[.string s] w fun e w' => e = .returned (.tuple #[.int .i64 v, .nilIface]) ∧ Below w.heap.size w w') := Lib.hid (by
      refine (Tryz.strconv_Atoi_ok s (by omega) v ho w).mono ?_
      rintro e w' ⟨rfl, hw⟩
      refine ⟨rfl, ?_⟩
      rcases hw with rfl | ⟨t, rfl⟩
      · exact Below.refl _ _
      · exact Lib.bytesWorld_below w _ t)
    obtain ⟨v0, v1⟩ := Lib.atoiAll_bounds ho
    rcases (by omega : v < -9999 ∨ (-9999 ≤ v ∧ 9999 < v) ∨ (-9999 ≤ v ∧ v ≤ 9999)) with c | ⟨c, d⟩ | ⟨c, d⟩
    · have N1 : Hid (nr 4 s.data.toList = none) := Lib.hid (by
        rcases e : nr 4 s.data.toList with _ | n
        · rfl
        · have k := nr_some e
          have := atoi_nt n k.2
          rw [k.1, ho] at this
          have : v = n := by injection this
          omega)
      rw [numA_none N1.out]
      go_enter Tryz.func141, Tryz.ntmps141
      go_wp2_with fail
      refine KA.out.mono ?_
      rintro e w1 ⟨rfl, hb⟩
      go_wp2
      go_ret2
      exact ⟨rfl, hb⟩
    · have N1 : Hid (nr 4 s.data.toList = none) := Lib.hid (by
        rcases e : nr 4 s.data.toList with _ | n
        · rfl
        · have k := nr_some e
          have := atoi_nt n k.2
          rw [k.1, ho] at this
          have : v = n := by injection this
          omega)
      rw [numA_none N1.out]
      go_enter Tryz.func141, Tryz.ntmps141
      go_wp2_with fail
      refine KA.out.mono ?_
      rintro e w1 ⟨rfl, hb⟩
      go_wp2
      go_ret2
      exact ⟨rfl, hb⟩
    · by_cases hn : nt v = s.data.toList
      · have N1 : Hid (nr 4 s.data.toList = some v) := Lib.hid (by rw [← hn]; exact nr_nt v 3 (by omega))
        have e1 : ((tb (nt v)).toList == s.toList) = true := by rw [Lib.toList_data, Lib.toList_data, tb_data, hn]; simp
        rw [numA_some N1.out]
        have HP := Lib.hid hP
        clear hn N1 ho hP
        go_enter Tryz.func141, Tryz.ntmps141
        go_wp2_with fail
        refine KA.out.mono ?_
        rintro e w1 ⟨rfl, hb⟩
        have HP1 := HP.out.below hb
        go_wp2_with fail
        refine (itoa_nt v _ HP1 v0 v1).mono ?_
        rintro e w2 ⟨rfl, hb2⟩
        go_wp2
        go_ret2
        exact ⟨rfl, hb.trans (hb2.mono hb.size)⟩
      · have N1 : Hid (nr 4 s.data.toList = none) := Lib.hid (by
          rcases e : nr 4 s.data.toList with _ | n
          · rfl
          · have k := nr_some e
            have := atoi_nt n k.2
            rw [k.1, ho] at this
            have : v = n := by injection this
            exact absurd (by rw [this]; exact k.1) hn)
        have e1 : ((tb (nt v)).toList == s.toList) = false := by rw [Lib.toList_data, Lib.toList_data, tb_data]; simpa using hn
        rw [numA_none N1.out]
        have HP := Lib.hid hP
        clear hn N1 ho hP
        go_enter Tryz.func141, Tryz.ntmps141
        go_wp2_with fail
        refine KA.out.mono ?_
        rintro e w1 ⟨rfl, hb⟩
        have HP1 := HP.out.below hb
        go_wp2_with fail
        refine (itoa_nt v _ HP1 v0 v1).mono ?_
        rintro e w2 ⟨rfl, hb2⟩
        go_wp2
        go_ret2
        exact ⟨rfl, hb.trans (hb2.mono hb.size)⟩
  all_goals
    have N1 : Hid (nr 4 s.data.toList = none) := Lib.hid (by
      rcases e : nr 4 s.data.toList with _ | n
      · rfl
      · have k := nr_some e
        have := atoi_nt n k.2
        rw [k.1, ho] at this
        cases this)
    obtain ⟨⟨t1, p1, h1⟩, t2, p2, h2⟩ := hE
    rw [numA_none N1.out]
  · have KA := Lib.hid (Tryz.strconv_Atoi_syntax s (by omega) ho _ w h1 (Or.inr ⟨_, _, rfl⟩))
    clear h1 h2 ho N1 hP
    go_enter Tryz.func141, Tryz.ntmps141
    go_wp2_with fail
    refine KA.out.mono ?_
    rintro e w1 ⟨N, rfl, _, _, hb⟩
    go_wp2
    go_ret2
    exact ⟨rfl, hb⟩
  · have KA := Lib.hid (Tryz.strconv_Atoi_range s (by omega) ho _ w h2 (Or.inr ⟨_, _, rfl⟩))
    clear h1 h2 ho N1 hP
    go_enter Tryz.func141, Tryz.ntmps141
    go_wp2_with fail
    refine KA.out.mono ?_
    rintro e w1 ⟨N, rfl, _, _, hb⟩
    go_wp2
    go_ret2
    exact ⟨rfl, hb⟩
end Go.Proofs.YtpplfcfhjpfckaaGreatDoor
namespace Go.Proofs.YtpplfcfhjpfckaaGreatDoor
open Go.RowKit Cal Txt

theorem idx4 (k : Nat) (h : k < 4) (W : World) : (Instr.index 155 (.agg #[.string (tb (fq 1)), .string (tb (fq 2)), .string (tb (fq 3)), .string (tb (fq 4))]) (.int .i64 k)).run Tryz.prog W = .ok (.string (tb (fq (k + 1)))) W := by
  rcases (by omega : k = 0 ∨ k = 1 ∨ k = 2 ∨ k = 3) with rfl | rfl | rfl | rfl <;> kernel_rfl
theorem idxW (k : Nat) (h : k < 7) (W : World) : (Instr.index 156 (.agg #[.string (tb (dn 1)), .string (tb (dn 2)), .string (tb (dn 3)), .string (tb (dn 4)), .string (tb (dn 5)), .string (tb (dn 6)), .string (tb (dn 7))]) (.int .i64 k)).run Tryz.prog W = .ok (.string (tb (dn (k + 1)))) W := by
  rcases seven h with rfl | rfl | rfl | rfl | rfl | rfl | rfl <;> kernel_rfl
/-- A place that was found, or none. -/
def posA (n : Int) : Value := .tuple #[.int .i64 n, .bool (decide (¬ n = 0))]
theorem posA_none {n : Int} (h : n = 0) : posA n = .tuple #[.int .i64 0, .bool false] := by rw [h]; rfl
theorem posA_some {n m : Int} (h : n = m) (hm : ¬ m = 0) : posA n = .tuple #[.int .i64 m, .bool true] := by rw [h]; unfold posA; rw [decide_eq_true hm]
set_option maxRecDepth 100000 in
set_option maxHeartbeats 2000000 in
theorem parseFreq_any (s : ByteArray) (w : World) (hF : FrW w) :
    Calls Tryz.prog 125 #[.string s] w fun e w' => e = .returned (posA (fk s.data.toList)) ∧ w' = w := by
  have c0 : w.cell? ⟨4, 0, none⟩ = some (.string (tb (fq 1))) := hF 0 (by decide)
  have c1 : w.cell? ⟨4, 1, none⟩ = some (.string (tb (fq 2))) := hF 1 (by decide)
  have c2 : w.cell? ⟨4, 2, none⟩ = some (.string (tb (fq 3))) := hF 2 (by decide)
  have c3 : w.cell? ⟨4, 3, none⟩ = some (.string (tb (fq 4))) := hF 3 (by decide)
  clear hF
  go_enter Tryz.func125, Tryz.ntmps125
  go_wp2
  go_loop [4, 5, 7] (fun _ _ i => ∃ k : Nat, k ≤ 4 ∧ i = .int .i64 k ∧ ∀ j : Nat, j < k → fq (j + 1) ≠ s.data.toList) (fun _ _ i => 4 - (intOf i).toNat)
  case atStart => exact ⟨0, by omega, rfl, fun j hj => by omega⟩
  case round =>
    obtain ⟨k, hk, rfl, hF⟩ := hrel
    have HF := Lib.hid hF
    clear hF
    by_cases hlt : k < 4
    · have ix := idx4 k hlt
      have k4 : (k : Int) < 4 := by omega
      by_cases he : fq (k + 1) = s.data.toList
      · have e1 : ((tb (fq (k + 1))).toList == s.toList) = true := by rw [Lib.toList_data, Lib.toList_data, tb_data, he]; simp
        have N1 : Hid (posA (fk s.data.toList) = .tuple #[.int .i64 (k + 1), .bool true]) := Lib.hid (posA_some (by rw [← he]; exact fk_fq (by omega) (by omega)) (by omega))
        clear he
        go_wp2
        go_ret2
        exact ⟨by rw [N1.out]; rfl, rfl⟩
      · have e1 : ((tb (fq (k + 1))).toList == s.toList) = false := by rw [Lib.toList_data, Lib.toList_data, tb_data]; simpa using he
        have N1 : Hid (∀ j : Nat, j < k + 1 → fq (j + 1) ≠ s.data.toList) := Lib.hid (fun j hj => by
          rcases Nat.lt_or_ge j k with g | g
          · exact HF.out j g
          · obtain rfl : j = k := by omega
            exact he)
        clear he
        go_wp2
        go_round
        case rel => exact ⟨k + 1, by omega, by go_num, N1.out⟩
        case measure => simp [intOf]; omega
    · have N1 : Hid (posA (fk s.data.toList) = .tuple #[.int .i64 0, .bool false]) := Lib.hid (posA_none (by
        by_cases h0 : fk s.data.toList = 0
        · exact h0
        · obtain ⟨q1, q2, q3⟩ := fq_fk h0
          have := HF.out ((fk s.data.toList).toNat - 1) (by omega)
          rw [show (((fk s.data.toList).toNat - 1 : Nat) : Int) + 1 = fk s.data.toList by omega] at this
          exact absurd q1 this))
      go_wp2
      go_ret2
      exact ⟨by rw [N1.out]; rfl, rfl⟩
set_option maxRecDepth 100000 in
set_option maxHeartbeats 2000000 in
theorem parseWeekday_any (s : ByteArray) (w : World) (hW : WdW w) :
    Calls Tryz.prog 158 #[.string s] w fun e w' => e = .returned (posA (dk s.data.toList)) ∧ w' = w := by
  have c0 : w.cell? ⟨7, 0, none⟩ = some (.string (tb (dn 1))) := hW 0 (by decide)
  have c1 : w.cell? ⟨7, 1, none⟩ = some (.string (tb (dn 2))) := hW 1 (by decide)
  have c2 : w.cell? ⟨7, 2, none⟩ = some (.string (tb (dn 3))) := hW 2 (by decide)
  have c3 : w.cell? ⟨7, 3, none⟩ = some (.string (tb (dn 4))) := hW 3 (by decide)
  have c4 : w.cell? ⟨7, 4, none⟩ = some (.string (tb (dn 5))) := hW 4 (by decide)
  have c5 : w.cell? ⟨7, 5, none⟩ = some (.string (tb (dn 6))) := hW 5 (by decide)
  have c6 : w.cell? ⟨7, 6, none⟩ = some (.string (tb (dn 7))) := hW 6 (by decide)
  clear hW
  go_enter Tryz.func158, Tryz.ntmps158
  go_wp2
  go_loop [4, 5, 7] (fun _ _ i => ∃ k : Nat, k ≤ 7 ∧ i = .int .i64 k ∧ ∀ j : Nat, j < k → dn (j + 1) ≠ s.data.toList) (fun _ _ i => 7 - (intOf i).toNat)
  case atStart => exact ⟨0, by omega, rfl, fun j hj => by omega⟩
  case round =>
    obtain ⟨k, hk, rfl, hF⟩ := hrel
    have HF := Lib.hid hF
    clear hF
    by_cases hlt : k < 7
    · have ix := idxW k hlt
      have k4 : (k : Int) < 7 := by omega
      by_cases he : dn (k + 1) = s.data.toList
      · have e1 : ((tb (dn (k + 1))).toList == s.toList) = true := by rw [Lib.toList_data, Lib.toList_data, tb_data, he]; simp
        have N1 : Hid (posA (dk s.data.toList) = .tuple #[.int .i64 (k + 1), .bool true]) := Lib.hid (posA_some (by rw [← he]; exact dk_dn (by omega) (by omega)) (by omega))
        clear he
        go_wp2
        go_ret2
        exact ⟨by rw [N1.out]; rfl, rfl⟩
      · have e1 : ((tb (dn (k + 1))).toList == s.toList) = false := by rw [Lib.toList_data, Lib.toList_data, tb_data]; simpa using he
        have N1 : Hid (∀ j : Nat, j < k + 1 → dn (j + 1) ≠ s.data.toList) := Lib.hid (fun j hj => by
          rcases Nat.lt_or_ge j k with g | g
          · exact HF.out j g
          · obtain rfl : j = k := by omega
            exact he)
        clear he
        go_wp2
        go_round
        case rel => exact ⟨k + 1, by omega, by go_num, N1.out⟩
        case measure => simp [intOf]; omega
    · have N1 : Hid (posA (dk s.data.toList) = .tuple #[.int .i64 0, .bool false]) := Lib.hid (posA_none (by
        by_cases h0 : dk s.data.toList = 0
        · exact h0
        · obtain ⟨q1, q2, q3⟩ := dn_dk h0
          have := HF.out ((dk s.data.toList).toNat - 1) (by omega)
          rw [show (((dk s.data.toList).toNat - 1 : Nat) : Int) + 1 = dk s.data.toList by omega] at this
          exact absurd q1 this))
      go_wp2
      go_ret2
      exact ⟨by rw [N1.out]; rfl, rfl⟩
theorem tl1_data (s : ByteArray) : (s ++ (⟨#[32, 48, 48, 58, 48, 49]⟩ : ByteArray)).data.toList = s.data.toList ++ tl1 := by simp [tl1]
set_option maxRecDepth 100000 in
set_option maxHeartbeats 2000000 in
theorem parseDay_any (s : ByteArray) (w : World) (hT : Tab w) (hs : s.size ≤ 2000000) :
    Calls Tryz.prog 142 #[.string s] w fun e w' => e = .returned (numA (dr s.data.toList)) ∧ Below w.heap.size w w' := by
  have f1 : ¬ 9223372036854775807 < s.size + 6 := by omega
  rcases h : dr s.data.toList with _ | n
  · have KP : Hid (∃ k, ¬ k = 0 ∧ Calls Tryz.prog 69 #[.string (s ++ ⟨#[32, 48, 48, 58, 48, 49]⟩)] w fun e w' => e = .returned (.tuple #[.int .i64 0, .iface 45 (.int .i64 k)]) ∧ Below w.heap.size w w') := Lib.hid (by
      rcases day_none h with k | ⟨k1, k2, k3⟩
      · exact ⟨2, by decide, parse_bad _ w (by rw [tl1_data]; exact k)⟩
      · exact ⟨1, by decide, parse_none _ w hT (by rw [tl1_data]; exact k1) (by rw [tl1_data]; exact k2) (by rw [tl1_data]; exact k3)⟩)
    obtain ⟨k, _, K⟩ := KP.out
    have HK := Lib.hid K
    clear KP K h hT
    rw [numA_none rfl]
    go_enter Tryz.func142, Tryz.ntmps142
    go_wp2_with fail
    refine HK.out.mono ?_
    rintro e w1 ⟨rfl, hb⟩
    go_wp2
    go_ret2
    exact ⟨rfl, hb⟩
  · obtain ⟨k1, k2, k3, k4, k5⟩ := day_some h
    have HK := Lib.hid (parse_yes (s ++ ⟨#[32, 48, 48, 58, 48, 49]⟩) w hT (by rw [tl1_data]; exact k1) (by rw [tl1_data]; exact k2))
    rw [tl1_data, k3] at HK
    have N1 : Hid (((n - 1) * 1440 + 1) / 1440 + 1 = n) := Lib.hid (by omega)
    clear k1 k2 k3 h hT
    rw [numA_some rfl]
    go_enter Tryz.func142, Tryz.ntmps142
    go_wp2_with fail
    refine HK.out.mono ?_
    rintro e w1 ⟨rfl, hb⟩
    go_wp2_with fail
    refine (split_yes _ _ (by omega) (by omega)).mono ?_
    rintro e w2 ⟨rfl, hw⟩
    subst hw
    rw [N1.out]
    go_wp2_with fail
    go_quiet (fail)
    go_wp2
    go_ret2
    exact ⟨rfl, below_drewN hb _⟩
end Go.Proofs.YtpplfcfhjpfckaaGreatDoor
