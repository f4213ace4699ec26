/-
  What is proved here: what strings.Split answers at one byte, and what package rule's parseNumber, parseFreq, parseWeekday and parseDay answer (contracts over the translation); tables and words are asked as premises.
-/
import Derived.Test.YtoafdacgekmomabGreatDoorRlText
import Derived.Test.YtoafdacgekmomabGreatDoorClkParse
import Derived.Test.YtoafdacgekmomabGreatDoorQF
namespace Go.Proofs.YtoafdacgekmomabGreatDoor
open Go.RowKit Cal Txt

theorem infoStr : (Tryz.prog.info? (Tryz.lays146_ren.t 9)).map (fun i => (i.zero, i.size, i.bytes)) = some (some (.string ByteArray.empty), 1, 16) := by kernel_rfl
theorem countB_one (s : ByteArray) (c : UInt8) : Lib.countB s ⟨#[c]⟩ = s.data.toList.count c := Lib.count_one c _
theorem indexB_one (s : ByteArray) (c : UInt8) : Lib.indexB s ⟨#[c]⟩ = Lib.indexByte s.data.toList c := Lib.index_one _ c
theorem one_size (c : UInt8) : 1 ≤ (⟨#[c]⟩ : ByteArray).size := Nat.le_refl 1
theorem genSplit_one (s : ByteArray) (c : UInt8) (w : World) (hs : s.size < 4294967281) :
    Calls Tryz.prog 62 #[.string s, .string ⟨#[c]⟩, .int .i64 0, .int .i64 (-1)] w fun e w' =>
      e = .returned (.slice (some ⟨w.heap.size, 0, none⟩) (s.data.toList.count c + 1) (s.data.toList.count c + 1)) ∧ w' = w.alloc (.cells ((Lib.splitB ⟨#[c]⟩ 0 (s.data.toList.count c) s).map Value.string).toArray 9) := by
  have L := Tryz.lays146
  have hle := Lib.countB_le ⟨#[c]⟩ (one_size c) s.size s (Nat.le_refl _)
  have hlen := Lib.splitB_all ⟨#[c]⟩ (one_size c) 0 _ s rfl
  rw [countB_one] at hle hlen
  have k := Any.strings_genSplit_core (P := Tryz.prog) (ρ := Tryz.lays146_ren) { L with } infoStr s ⟨#[c]⟩ 0 (-1) (s.data.toList.count c + 1) w hs (one_size c) (Nat.zero_le _)
    (fun x cs _ => by rw [indexB_one]; exact Any.strings_Index_one { L with } x c _)
    (by rw [countB_one]; exact Any.strings_Count_one { L with } s c w) (by decide) (by decide) (by rw [if_pos (by decide), countB_one]; omega)
  rw [Nat.add_sub_cancel, hlen] at k
  have e2 : Lib.cellsOf (Lib.splitB ⟨#[c]⟩ 0 (s.data.toList.count c) s) (s.data.toList.count c + 1) = ((Lib.splitB ⟨#[c]⟩ 0 (s.data.toList.count c) s).map Value.string).toArray := by rw [← hlen]; exact Lib.cellsOf_full _
  rw [e2] at k
  exact k
/-- The pieces of a text. -/
def pcs (c : UInt8) (s : ByteArray) : List ByteArray := Lib.splitB ⟨#[c]⟩ 0 (s.data.toList.count c) s
theorem pcs_cut (c : UInt8) (s : ByteArray) : (pcs c s).map (·.data.toList) = cutAt c s.data.toList := by
  unfold pcs
  rw [Lib.splitB_data]
  exact splitK_cut c _ _ (Nat.le_refl _)
theorem pcs_len (c : UInt8) (s : ByteArray) : (pcs c s).length = s.data.toList.count c + 1 := by
  have := congrArg List.length (pcs_cut c s)
  rwa [List.length_map, cut_len] at this
theorem genSplit_pcs (s : ByteArray) (c : UInt8) (w : World) (hs : s.size < 4294967281) :
    Calls Tryz.prog 62 #[.string s, .string ⟨#[c]⟩, .int .i64 0, .int .i64 (-1)] w fun e w' =>
      e = .returned (.slice (some ⟨w.heap.size, 0, none⟩) (pcs c s).length (pcs c s).length) ∧ w' = w.alloc (.cells ((pcs c s).map Value.string).toArray 9) := by
  have := genSplit_one s c w hs
  rw [← pcs_len] at this
  exact this
/-- strings.Split at one byte. -/
theorem split_one (s : ByteArray) (c : UInt8) (w : World) (hs : s.size < 4294967281) :
    Calls Tryz.prog 33 #[.string s, .string ⟨#[c]⟩] w fun e w' =>
      e = .returned (.slice (some ⟨w.heap.size, 0, none⟩) (pcs c s).length (pcs c s).length) ∧ w' = w.alloc (.cells ((pcs c s).map Value.string).toArray 9) := by
  have k := Lib.hid (genSplit_pcs s c w hs)
  go_enter Tryz.func33, Tryz.ntmps33
  go_wp2_with fail
  refine k.out.mono ?_
  rintro e w' ⟨rfl, hw⟩
  subst hw
  go_wp2
  go_ret
  exact ⟨rfl, rfl⟩
/-- The errors of package strconv lie as their texts lay them. -/
def ErS (w : World) : Prop := (∃ te pe, w.cell? ⟨9, 0, none⟩ = some (.iface te pe)) ∧ ∃ te pe, w.cell? ⟨10, 0, none⟩ = some (.iface te pe)
theorem ErS.below {w w' : World} (h : ErS w) (b : Below w.heap.size w w') : ErS w' := by
  obtain ⟨⟨t1, p1, h1⟩, t2, p2, h2⟩ := h
  exact ⟨⟨t1, p1, (b.cell (p := ⟨9, 0, none⟩) (cell_lt h1)).trans h1⟩, t2, p2, (b.cell (p := ⟨10, 0, none⟩) (cell_lt h2)).trans h2⟩
/-- What is answered of a number that was read, or not. -/
def numA (o : Option Int) : Value := .tuple #[.int .i64 (o.getD 0), .bool o.isSome]
theorem numA_none {o : Option Int} (h : o = none) : numA o = .tuple #[.int .i64 0, .bool false] := by rw [h]; rfl
theorem numA_some {o : Option Int} {n : Int} (h : o = some n) : numA o = .tuple #[.int .i64 n, .bool true] := by rw [h]; rfl
set_option maxRecDepth 100000 in
set_option maxHeartbeats 2000000 in
theorem parseNumber_any (s : ByteArray) (w : World) (hP : Pow w) (hE : ErS w) (hs : s.size ≤ 2000000) :
    Calls Tryz.prog 75 #[.string s] w fun e w' => e = .returned (numA (nr 4 s.data.toList)) ∧ Below w.heap.size w w' := by
  rcases ho : Lib.atoiAll s.data.toList with v | _ | _
  · have KA : Hid (Calls Tryz.prog 96 #[.string s] w fun e w' => e = .returned (.tuple #[.int .i64 v, .nilIface]) ∧ Below w.heap.size w w') := Lib.hid (by
      refine (Tryz.strconv_Atoi_ok s (by omega) v ho w).mono ?_
      rintro e w' ⟨rfl, hw⟩
      refine ⟨rfl, ?_⟩
      rcases hw with rfl | ⟨t, rfl⟩
      · exact Below.refl _ _
      · exact Lib.bytesWorld_below w _ t)
    obtain ⟨v0, v1⟩ := Lib.atoiAll_bounds ho
    rcases (by omega : v < -9999 ∨ (-9999 ≤ v ∧ 9999 < v) ∨ (-9999 ≤ v ∧ v ≤ 9999)) with c | ⟨c, d⟩ | ⟨c, d⟩
    · have N1 : Hid (nr 4 s.data.toList = none) := Lib.hid (by
        rcases e : nr 4 s.data.toList with _ | n
        · rfl
        · have k := nr_some e
          have := atoi_nt n k.2
          rw [k.1, ho] at this
          have : v = n := by injection this
          omega)
      rw [numA_none N1.out]
      go_enter Tryz.func75, Tryz.ntmps75
      go_wp2_with fail
      refine KA.out.mono ?_
      rintro e w1 ⟨rfl, hb⟩
      go_wp2
      go_ret2
      exact ⟨rfl, hb⟩
    · have N1 : Hid (nr 4 s.data.toList = none) := Lib.hid (by
        rcases e : nr 4 s.data.toList with _ | n
        · rfl
        · have k := nr_some e
          have := atoi_nt n k.2
          rw [k.1, ho] at this
          have : v = n := by injection this
          omega)
      rw [numA_none N1.out]
      go_enter Tryz.func75, Tryz.ntmps75
      go_wp2_with fail
      refine KA.out.mono ?_
      rintro e w1 ⟨rfl, hb⟩
      go_wp2
      go_ret2
      exact ⟨rfl, hb⟩
    · by_cases hn : nt v = s.data.toList
      · have N1 : Hid (nr 4 s.data.toList = some v) := Lib.hid (by rw [← hn]; exact nr_nt v 3 (by omega))
        have e1 : ((tb (nt v)).toList == s.toList) = true := by rw [Lib.toList_data, Lib.toList_data, tb_data, hn]; simp
        rw [numA_some N1.out]
        have HP := Lib.hid hP
        clear hn N1 ho hP
        go_enter Tryz.func75, Tryz.ntmps75
        go_wp2_with fail
        refine KA.out.mono ?_
        rintro e w1 ⟨rfl, hb⟩
        have HP1 := HP.out.below hb
        go_wp2_with fail
        refine (itoa_nt v _ HP1 v0 v1).mono ?_
        rintro e w2 ⟨rfl, hb2⟩
        go_wp2
        go_ret2
        exact ⟨rfl, hb.trans (hb2.mono hb.size)⟩
      · have N1 : Hid (nr 4 s.data.toList = none) := Lib.hid (by
          rcases e : nr 4 s.data.toList with _ | n
          · rfl
          · have k := nr_some e
            have := atoi_nt n k.2
            rw [k.1, ho] at this
            have : v = n := by injection this
            exact absurd (by rw [this]; exact k.1) hn)
        have e1 : ((tb (nt v)).toList == s.toList) = false := by rw [Lib.toList_data, Lib.toList_data, tb_data]; simpa using hn
        rw [numA_none N1.out]
        have HP := Lib.hid hP
        clear hn N1 ho hP
        go_enter Tryz.func75, Tryz.ntmps75
        go_wp2_with fail
        refine KA.out.mono ?_
        rintro e w1 ⟨rfl, hb⟩
        have HP1 := HP.out.below hb
        go_wp2_with fail
        refine (itoa_nt v _ HP1 v0 v1).mono ?_
        rintro e w2 ⟨rfl, hb2⟩
        go_wp2
        go_ret2
        exact ⟨rfl, hb.trans (hb2.mono hb.size)⟩
  all_goals
    have N1 : Hid (nr 4 s.data.toList = none) := Lib.hid (by
      rcases e : nr 4 s.data.toList with _ | n
      · rfl
      · have k := nr_some e
        have := atoi_nt n k.2
        rw [k.1, ho] at this
        cases this)
    obtain ⟨⟨t1, p1, h1⟩, t2, p2, h2⟩ := hE
    rw [numA_none N1.out]
  · have KA := Lib.hid (Tryz.strconv_Atoi_syntax s (by omega) ho _ w h1 (Or.inr ⟨_, _, rfl⟩))
    clear h1 h2 ho N1 hP
    go_enter Tryz.func75, Tryz.ntmps75
    go_wp2_with fail
    refine KA.out.mono ?_
    rintro e w1 ⟨N, rfl, _, _, hb⟩
    go_wp2
    go_ret2
    exact ⟨rfl, hb⟩
  · have KA := Lib.hid (Tryz.strconv_Atoi_range s (by omega) ho _ w h2 (Or.inr ⟨_, _, rfl⟩))
    clear h1 h2 ho N1 hP
    go_enter Tryz.func75, Tryz.ntmps75
    go_wp2_with fail
    refine KA.out.mono ?_
    rintro e w1 ⟨N, rfl, _, _, hb⟩
    go_wp2
    go_ret2
    exact ⟨rfl, hb⟩
end Go.Proofs.YtoafdacgekmomabGreatDoor
