/-
  What is proved here: what clock.sumParts answers, for every text (a contract over the translation); the units are asked as a premise.
-/
import Derived.Test.YtdiijpjfkgnjkaaDoorClkPart
namespace Go.Proofs.YtdiijpjfkgnjkaaDoor
open Go.RowKit Cal Txt

/-- The units, as their text lays them. -/
def Uni (w : World) : Prop := (w.cell? ⟨0, 0, none⟩ = some (.int .u8 100) ∧ w.cell? ⟨0, 1, none⟩ = some (.int .i64 1440) ∧ w.cell? ⟨0, 2, none⟩ = some (.int .i64 999999999)) ∧
  (w.cell? ⟨0, 3, none⟩ = some (.int .u8 104) ∧ w.cell? ⟨0, 4, none⟩ = some (.int .i64 60) ∧ w.cell? ⟨0, 5, none⟩ = some (.int .i64 23)) ∧
  (w.cell? ⟨0, 6, none⟩ = some (.int .u8 109) ∧ w.cell? ⟨0, 7, none⟩ = some (.int .i64 1) ∧ w.cell? ⟨0, 8, none⟩ = some (.int .i64 59))
theorem Uni.pos {w : World} (h : Uni w) : 0 < w.heap.size := by
  have k := h.1.1
  rcases Nat.lt_or_ge 0 w.heap.size with q | q
  · exact q
  · simp [World.cell?, Array.getElem?_eq_none q] at k
theorem Uni.below {w w' : World} (h : Uni w) (b : Below w.heap.size w w') : Uni w' := by
  have hp := h.pos
  obtain ⟨⟨a0, a1, a2⟩, ⟨b0, b1, b2⟩, ⟨c0, c1, c2⟩⟩ := h
  exact ⟨⟨(b.cell (p := ⟨0, 0, none⟩) hp).trans a0, (b.cell (p := ⟨0, 1, none⟩) hp).trans a1, (b.cell (p := ⟨0, 2, none⟩) hp).trans a2⟩,
    ⟨(b.cell (p := ⟨0, 3, none⟩) hp).trans b0, (b.cell (p := ⟨0, 4, none⟩) hp).trans b1, (b.cell (p := ⟨0, 5, none⟩) hp).trans b2⟩,
    ⟨(b.cell (p := ⟨0, 6, none⟩) hp).trans c0, (b.cell (p := ⟨0, 7, none⟩) hp).trans c1, (b.cell (p := ⟨0, 8, none⟩) hp).trans c2⟩⟩
theorem unit_0 (W : World) : (Instr.index 62 (.agg #[.int .u8 100, .int .i64 1440, .int .i64 999999999, .int .u8 104, .int .i64 60, .int .i64 23, .int .u8 109, .int .i64 1, .int .i64 59]) (.int .i64 0)).run Tryd.prog W = .ok (.agg #[.int .u8 100, .int .i64 1440, .int .i64 999999999]) W := by kernel_rfl
theorem unit_1 (W : World) : (Instr.index 62 (.agg #[.int .u8 100, .int .i64 1440, .int .i64 999999999, .int .u8 104, .int .i64 60, .int .i64 23, .int .u8 109, .int .i64 1, .int .i64 59]) (.int .i64 1)).run Tryd.prog W = .ok (.agg #[.int .u8 104, .int .i64 60, .int .i64 23]) W := by kernel_rfl
theorem unit_2 (W : World) : (Instr.index 62 (.agg #[.int .u8 100, .int .i64 1440, .int .i64 999999999, .int .u8 104, .int .i64 60, .int .i64 23, .int .u8 109, .int .i64 1, .int .i64 59]) (.int .i64 2)).run Tryd.prog W = .ok (.agg #[.int .u8 109, .int .i64 1, .int .i64 59]) W := by kernel_rfl
theorem part_int (s : ByteArray) (c : UInt8) (ci mi mo : Int) (most : Nat) (w : World) (hs : s.size ≤ maxLen) (hc : (c.toNat : Int) = ci) (hm : (most : Int) = mo) :
    Calls Tryd.prog 56 #[.string s, .agg #[.int .u8 ci, .int .i64 mi, .int .i64 mo]] w (PartSays s c most w) := by
  subst hm; exact part_any s c ci mi most w hs hc
/-- What is left behind so many units, and their sum. -/
def txk (l : List UInt8) : Nat → List UInt8
  | 0 => l
  | 1 => l1 l
  | 2 => l2 l
  | _ => l3 l
def smk (l : List UInt8) : Nat → Nat
  | 0 => 0
  | 1 => (prt l 100 999999999).1 * 1440
  | 2 => (prt l 100 999999999).1 * 1440 + (prt (l1 l) 104 23).1 * 60
  | _ => sum l
theorem drop_ext (s : ByteArray) (k : Nat) : (s.extract k s.size).data.toList = s.data.toList.drop k := by
  rw [ByteArray.data_extract, Array.toList_extract, List.extract_eq_take_drop]
  refine List.take_of_length_le ?_
  rw [List.length_drop]
  exact Nat.le_refl _
theorem size_ext (s : ByteArray) (k : Nat) : (s.extract k s.size).size ≤ s.size := by
  have : (s.extract k s.size).size = (s.extract k s.size).data.toList.length := rfl
  rw [this, drop_ext, List.length_drop]
  have : s.data.toList.length = s.size := rfl
  omega
theorem ret_sum {a b : Int} {c d : Bool} (h : a = b) (g : c = d) : Ending.returned (.tuple #[.int .i64 a, .bool c]) = .returned (.tuple #[.int .i64 b, .bool d]) := by rw [h, g]
set_option maxRecDepth 100000 in
set_option maxHeartbeats 4000000 in
theorem sumParts_any (s : ByteArray) (w : World) (hs : s.size ≤ maxLen) (hU : Uni w) :
    Calls Tryd.prog 50 #[.string s] w fun e w' => e = .returned (.tuple #[.int .i64 (sum s.data.toList : Nat), .bool (decide (0 < sum s.data.toList ∧ l3 s.data.toList = []))]) ∧ Below w.heap.size w w' := by
  obtain ⟨⟨a0, a1, a2⟩, ⟨b0, b1, b2⟩, ⟨c0, c1, c2⟩⟩ := hU
  go_enter Tryd.func50, Tryd.ntmps50
  go_wp2
  go_loopw [0, 4, 10] (fun t n i wr => ∃ (s' : ByteArray) (k : Nat), t = .string s' ∧ n = .int .i64 (smk s.data.toList k : Nat) ∧ i = .int .i64 k ∧ s'.size ≤ s.size ∧ s'.data.toList = txk s.data.toList k ∧ Below w.heap.size w wr ∧ (k = 0 ∨ k = 1 ∨ k = 2 ∨ k = 3)) (fun _ _ i _ => 3 - (intOf i).toNat)
  case atStart => exact ⟨s, 0, rfl, rfl, rfl, Nat.le_refl _, rfl, Below.refl _ _, Or.inl rfl⟩
  case round =>
    clear a0 a1 a2 b0 b1 b2 c0 c1 c2
    obtain ⟨s', k, rfl, rfl, rfl, hz, hx, hb, hk⟩ := hrel
    rcases hk with rfl | hk
    · have S0 : Hid (s'.data.toList = txk s.data.toList 0) := hx
      have ix := unit_0
      have pm := prt_most s'.data.toList 100 999999999
      have pl : (prt s'.data.toList 100 999999999).2 ≤ s'.size := prt_len s'.data.toList 100 999999999
      have NX : Hid ((s'.data.toList.drop (prt s'.data.toList 100 999999999).2 = txk s.data.toList 1) ∧ smk s.data.toList 0 + (prt s'.data.toList 100 999999999).1 * 1440 = smk s.data.toList 1) := by
        rw [S0.out]; exact ⟨rfl, by simp [smk, txk]⟩
      have sb : smk s.data.toList 0 ≤ 2000000000000 := by simp [smk]
      clear hx S0
      go_wp2_with fail
      have PI := part_int s' 100 100 1440 999999999 999999999 (wr.alloc (.cells #[.int .u8 100, .int .i64 1440, .int .i64 999999999] 61)) (Nat.le_trans hz hs) rfl rfl
      unfold PartSays at PI
      refine PI.mono ?_
      clear PI
      rintro e w2 ⟨rfl, hb2⟩
      obtain ⟨hc2, hf2⟩ := bcell hb2
      have hz2 : wr.heap.size + 1 ≤ w2.heap.size := by have := hb2.size; simpa using this
      have hz2' : wr.heap.size < w2.heap.size := by omega
      have hb3 := (hb.alloc hb.size (.cells #[.int .u8 100, .int .i64 1440, .int .i64 999999999] 61)).trans (hb2.mono (by have := hb.size; simp; omega))
      clear hb hb2
      generalize (prt s'.data.toList 100 999999999).1 = p1 at *
      generalize (prt s'.data.toList 100 999999999).2 = p2 at *
      go_wp2_with fail
      go_roundw
      case rel => exact ⟨_, 1, rfl, by rw [← NX.out.2]; go_num, rfl, Nat.le_trans (size_ext _ _) hz, (drop_ext _ _).trans NX.out.1, hb3, by omega⟩
      case measure => simp [intOf]
    rcases hk with rfl | hk
    · have S0 : Hid (s'.data.toList = txk s.data.toList 1) := hx
      have ix := unit_1
      have pm := prt_most s'.data.toList 104 23
      have pl : (prt s'.data.toList 104 23).2 ≤ s'.size := prt_len s'.data.toList 104 23
      have NX : Hid ((s'.data.toList.drop (prt s'.data.toList 104 23).2 = txk s.data.toList 2) ∧ smk s.data.toList 1 + (prt s'.data.toList 104 23).1 * 60 = smk s.data.toList 2) := by
        rw [S0.out]; exact ⟨rfl, by simp [smk, txk]⟩
      have sb : smk s.data.toList 1 ≤ 2000000000000 := by have := prt_most s.data.toList 100 999999999; simp only [smk]; omega
      clear hx S0
      go_wp2_with fail
      have PI := part_int s' 104 104 60 23 23 (wr.alloc (.cells #[.int .u8 104, .int .i64 60, .int .i64 23] 61)) (Nat.le_trans hz hs) rfl rfl
      unfold PartSays at PI
      refine PI.mono ?_
      clear PI
      rintro e w2 ⟨rfl, hb2⟩
      obtain ⟨hc2, hf2⟩ := bcell hb2
      have hz2 : wr.heap.size + 1 ≤ w2.heap.size := by have := hb2.size; simpa using this
      have hz2' : wr.heap.size < w2.heap.size := by omega
      have hb3 := (hb.alloc hb.size (.cells #[.int .u8 104, .int .i64 60, .int .i64 23] 61)).trans (hb2.mono (by have := hb.size; simp; omega))
      clear hb hb2
      generalize (prt s'.data.toList 104 23).1 = p1 at *
      generalize (prt s'.data.toList 104 23).2 = p2 at *
      go_wp2_with fail
      go_roundw
      case rel => exact ⟨_, 2, rfl, by rw [← NX.out.2]; go_num, rfl, Nat.le_trans (size_ext _ _) hz, (drop_ext _ _).trans NX.out.1, hb3, by omega⟩
      case measure => simp [intOf]
    rcases hk with rfl | hk
    · have S0 : Hid (s'.data.toList = txk s.data.toList 2) := hx
      have ix := unit_2
      have pm := prt_most s'.data.toList 109 59
      have pl : (prt s'.data.toList 109 59).2 ≤ s'.size := prt_len s'.data.toList 109 59
      have NX : Hid ((s'.data.toList.drop (prt s'.data.toList 109 59).2 = txk s.data.toList 3) ∧ smk s.data.toList 2 + (prt s'.data.toList 109 59).1 * 1 = smk s.data.toList 3) := by
        rw [S0.out]; exact ⟨rfl, by simp [smk, sum, txk]⟩
      have sb : smk s.data.toList 2 ≤ 2000000000000 := by have := prt_most s.data.toList 100 999999999; have := prt_most (l1 s.data.toList) 104 23; simp only [smk]; omega
      clear hx S0
      go_wp2_with fail
      have PI := part_int s' 109 109 1 59 59 (wr.alloc (.cells #[.int .u8 109, .int .i64 1, .int .i64 59] 61)) (Nat.le_trans hz hs) rfl rfl
      unfold PartSays at PI
      refine PI.mono ?_
      clear PI
      rintro e w2 ⟨rfl, hb2⟩
      obtain ⟨hc2, hf2⟩ := bcell hb2
      have hz2 : wr.heap.size + 1 ≤ w2.heap.size := by have := hb2.size; simpa using this
      have hz2' : wr.heap.size < w2.heap.size := by omega
      have hb3 := (hb.alloc hb.size (.cells #[.int .u8 109, .int .i64 1, .int .i64 59] 61)).trans (hb2.mono (by have := hb.size; simp; omega))
      clear hb hb2
      generalize (prt s'.data.toList 109 59).1 = p1 at *
      generalize (prt s'.data.toList 109 59).2 = p2 at *
      go_wp2_with fail
      go_roundw
      case rel => exact ⟨_, 3, rfl, by rw [← NX.out.2]; go_num, rfl, Nat.le_trans (size_ext _ _) hz, (drop_ext _ _).trans NX.out.1, hb3, by omega⟩
      case measure => simp [intOf]
    subst hk
    have sb : sum s.data.toList ≤ 2000000000000 := by
      have q1 := prt_most s.data.toList 100 999999999
      have q2 := prt_most (l1 s.data.toList) 104 23
      have q3 := prt_most (l2 s.data.toList) 109 59
      unfold sum; omega
    have E1 : Hid (smk s.data.toList 3 = sum s.data.toList) := rfl
    have E2 : Hid (s'.data.toList = l3 s.data.toList) := hx
    clear hx
    rw [show smk s.data.toList 3 = sum s.data.toList from rfl]
    by_cases hp : (0 : Int) < (sum s.data.toList : Nat)
    · rcases he : s'.toList.isEmpty with _ | _
      · have R : Hid (false = decide (0 < sum s.data.toList ∧ l3 s.data.toList = [])) := by
          refine (decide_eq_false ?_).symm
          rintro ⟨_, q⟩
          rw [← E2.out, ← ByteArray.toList_eq] at q
          rw [q] at he; cases he
        go_wp2
        go_ret2
        exact ⟨ret_sum rfl R.out, hb⟩
      · have R : Hid (true = decide (0 < sum s.data.toList ∧ l3 s.data.toList = [])) := by
          refine (decide_eq_true ⟨by omega, ?_⟩).symm
          rw [← E2.out, ← ByteArray.toList_eq]; exact List.isEmpty_iff.1 he
        go_wp2
        go_ret2
        exact ⟨ret_sum rfl R.out, hb⟩
    · have R : Hid (false = decide (0 < sum s.data.toList ∧ l3 s.data.toList = [])) := (decide_eq_false (fun q => by omega)).symm
      go_wp2
      go_ret2
      exact ⟨ret_sum rfl (by first | exact R.out | rfl), hb⟩
end Go.Proofs.YtdiijpjfkgnjkaaDoor
