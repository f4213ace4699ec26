/-
  What is proved here: what clock.Span answers, for every text (a contract over the translation); the units are asked as a premise.
-/
import Derived.Test.YtdiijpjfkgnjkaaDoorClkSum
namespace Go.Proofs.YtdiijpjfkgnjkaaDoor
open Go.RowKit Cal Txt

/-- Does a text open with a minus? -/
def neg (l : List UInt8) : Bool := l.head? == some 45
theorem trim_eq (l : List UInt8) : Lib.trimPrefix l [45] = unsg l ∧ Lib.hasPrefix l [45] = neg l := by
  unfold Lib.trimPrefix Lib.hasPrefix unsg neg
  cases l with
  | nil => exact ⟨rfl, rfl⟩
  | cons c l =>
    by_cases h : c = 45
    · subst h; simp
    · have h' : ¬ (45 : UInt8) = c := fun x => h x.symm
      have e1 : ((45 : UInt8) == c) = false := beq_eq_false_iff_ne.2 h'
      have e2 : (c == (45 : UInt8)) = false := beq_eq_false_iff_ne.2 h
      simp [List.isPrefixOf, e1, e2, h]
theorem cut_any (s : ByteArray) (w : World) :
    Calls Tryd.prog 49 #[.string s, .string ⟨#[45]⟩] w fun e w' => e = .returned (.tuple #[.string ⟨(unsg s.data.toList).toArray⟩, .bool (neg s.data.toList)]) ∧ w' = w := by
  have h := Tryd.strings_CutPrefix s ⟨#[45]⟩ w
  have e : (⟨#[45]⟩ : ByteArray).data.toList = [45] := rfl
  rw [e, (trim_eq _).1, (trim_eq _).2] at h
  exact h
theorem unsg_len (l : List UInt8) : (unsg l).length ≤ l.length := by
  unfold unsg; split <;> simp
theorem ret_span {a b : Int} {c d : Value} (h : a = b) (g : c = d) : Ending.returned (.tuple #[.int .i64 a, c]) = .returned (.tuple #[.int .i64 b, d]) := by rw [h, g]
theorem span_zero (s : ByteArray) (w : World) (h : s.data.toList = [48, 109]) :
    Calls Tryd.prog 31 #[.string s] w fun e w' => e = .returned (.tuple #[.int .i64 (spn s.data.toList).1, fault (spn s.data.toList).2]) ∧ Below w.heap.size w w' := by
  obtain rfl : s = ⟨#[48, 109]⟩ := by apply ByteArray.ext; apply Array.ext'; exact h
  clear h
  go_enter Tryd.func31, Tryd.ntmps31
  go_wp2
  go_ret2
  exact ⟨rfl, Below.refl _ _⟩
set_option maxRecDepth 100000 in
set_option maxHeartbeats 1000000 in
theorem span_bad (s : ByteArray) (w : World) (hs : s.size ≤ maxLen) (hU : Uni w) (h : ¬ s.data.toList = [48, 109]) (hn : spOf (unsg s.data.toList) = none) :
    Calls Tryd.prog 31 #[.string s] w fun e w' => e = .returned (.tuple #[.int .i64 (spn s.data.toList).1, fault (spn s.data.toList).2]) ∧ Below w.heap.size w w' := by
  have q1 : (s.toList == [48, 109]) = false := by rw [ByteArray.toList_eq]; exact beq_eq_false_iff_ne.2 h
  have r : spn s.data.toList = (0, 2) := by unfold spn; rw [if_neg h, hn]
  have R := Lib.hid r
  clear r
  have sp : decide (0 < sum (unsg s.data.toList) ∧ l3 (unsg s.data.toList) = []) = false := by
    unfold spOf at hn; split at hn
    · cases hn
    · exact decide_eq_false ‹_›
  have SP := Lib.hid sp
  clear sp hn
  have hz : (⟨(unsg s.data.toList).toArray⟩ : ByteArray).size ≤ maxLen := by
    have := unsg_len s.data.toList; rw [size_len] at this
    have e : (⟨(unsg s.data.toList).toArray⟩ : ByteArray).size = (unsg s.data.toList).length := rfl
    omega
  clear h
  go_enter Tryd.func31, Tryd.ntmps31
  go_wp2_with fail
  refine (cut_any s _).mono ?_
  rintro e w' ⟨rfl, rfl⟩
  go_wp2_with fail
  refine (sumParts_any _ _ hz hU).mono ?_
  rintro e w2 ⟨rfl, hb⟩
  rw [SP.out]
  go_wp2
  go_ret2
  exact ⟨ret_span (by rw [R.out]) (by rw [R.out]; rfl), hb⟩
set_option maxRecDepth 100000 in
set_option maxHeartbeats 1000000 in
theorem span_big (s : ByteArray) (w : World) (hs : s.size ≤ maxLen) (hU : Uni w) (h : ¬ s.data.toList = [48, 109]) (n : Nat) (hn : spOf (unsg s.data.toList) = some n) (hb0 : 1000000 < n) (hb1 : n ≤ 2000000000000) :
    Calls Tryd.prog 31 #[.string s] w fun e w' => e = .returned (.tuple #[.int .i64 (spn s.data.toList).1, fault (spn s.data.toList).2]) ∧ Below w.heap.size w w' := by
  have q1 : (s.toList == [48, 109]) = false := by rw [ByteArray.toList_eq]; exact beq_eq_false_iff_ne.2 h
  have r : spn s.data.toList = (0, 1) := by unfold spn; rw [if_neg h, hn]; exact if_pos hb0
  have R := Lib.hid r
  clear r
  have sp : decide (0 < sum (unsg s.data.toList) ∧ l3 (unsg s.data.toList) = []) = true ∧ sum (unsg s.data.toList) = n := by
    unfold spOf at hn; split at hn
    · exact ⟨decide_eq_true ‹_›, Option.some.inj hn⟩
    · cases hn
  have SP := Lib.hid sp
  clear sp hn
  have hz : (⟨(unsg s.data.toList).toArray⟩ : ByteArray).size ≤ maxLen := by
    have := unsg_len s.data.toList; rw [size_len] at this
    have e : (⟨(unsg s.data.toList).toArray⟩ : ByteArray).size = (unsg s.data.toList).length := rfl
    omega
  clear h
  go_enter Tryd.func31, Tryd.ntmps31
  go_wp2_with fail
  refine (cut_any s _).mono ?_
  rintro e w' ⟨rfl, rfl⟩
  go_wp2_with fail
  refine (sumParts_any _ _ hz hU).mono ?_
  rintro e w2 ⟨rfl, hb⟩
  rw [SP.out.1, SP.out.2]
  have hb2 : (1000000 : Int) < n := by omega
  go_wp2
  go_ret2
  exact ⟨ret_span (by rw [R.out]) (by rw [R.out]; rfl), hb⟩
set_option maxRecDepth 100000 in
set_option maxHeartbeats 1000000 in
theorem span_neg (s : ByteArray) (w : World) (hs : s.size ≤ maxLen) (hU : Uni w) (h : ¬ s.data.toList = [48, 109]) (n : Nat) (hn : spOf (unsg s.data.toList) = some n) (hb0 : n ≤ 1000000) (hg : neg s.data.toList = true) :
    Calls Tryd.prog 31 #[.string s] w fun e w' => e = .returned (.tuple #[.int .i64 (spn s.data.toList).1, fault (spn s.data.toList).2]) ∧ Below w.heap.size w w' := by
  have q1 : (s.toList == [48, 109]) = false := by rw [ByteArray.toList_eq]; exact beq_eq_false_iff_ne.2 h
  have r : spn s.data.toList = (-(n : Int), 0) := by
    unfold spn; rw [if_neg h, hn]
    exact (if_neg (by omega)).trans (by rw [if_pos (by unfold neg at hg; exact eq_of_beq hg)])
  have R := Lib.hid r
  clear r
  have sp : decide (0 < sum (unsg s.data.toList) ∧ l3 (unsg s.data.toList) = []) = true ∧ sum (unsg s.data.toList) = n := by
    unfold spOf at hn; split at hn
    · exact ⟨decide_eq_true ‹_›, Option.some.inj hn⟩
    · cases hn
  have SP := Lib.hid sp
  clear sp hn
  have hz : (⟨(unsg s.data.toList).toArray⟩ : ByteArray).size ≤ maxLen := by
    have := unsg_len s.data.toList; rw [size_len] at this
    have e : (⟨(unsg s.data.toList).toArray⟩ : ByteArray).size = (unsg s.data.toList).length := rfl
    omega
  clear h
  go_enter Tryd.func31, Tryd.ntmps31
  go_wp2_with fail
  refine (cut_any s _).mono ?_
  rintro e w' ⟨rfl, rfl⟩
  go_wp2_with fail
  refine (sumParts_any _ _ hz hU).mono ?_
  rintro e w2 ⟨rfl, hb⟩
  rw [SP.out.1, SP.out.2]
  have hb2 : ¬ (1000000 : Int) < n := by omega
  go_wp2
  go_ret2
  exact ⟨ret_span (by rw [R.out]) (by rw [R.out]; rfl), hb⟩
set_option maxRecDepth 100000 in
set_option maxHeartbeats 1000000 in
theorem span_pos (s : ByteArray) (w : World) (hs : s.size ≤ maxLen) (hU : Uni w) (h : ¬ s.data.toList = [48, 109]) (n : Nat) (hn : spOf (unsg s.data.toList) = some n) (hb0 : n ≤ 1000000) (hg : neg s.data.toList = false) :
    Calls Tryd.prog 31 #[.string s] w fun e w' => e = .returned (.tuple #[.int .i64 (spn s.data.toList).1, fault (spn s.data.toList).2]) ∧ Below w.heap.size w w' := by
  have q1 : (s.toList == [48, 109]) = false := by rw [ByteArray.toList_eq]; exact beq_eq_false_iff_ne.2 h
  have r : spn s.data.toList = ((n : Int), 0) := by
    unfold spn; rw [if_neg h, hn]
    exact (if_neg (by omega)).trans (by rw [if_neg (by unfold neg at hg; exact beq_eq_false_iff_ne.1 hg)])
  have R := Lib.hid r
  clear r
  have sp : decide (0 < sum (unsg s.data.toList) ∧ l3 (unsg s.data.toList) = []) = true ∧ sum (unsg s.data.toList) = n := by
    unfold spOf at hn; split at hn
    · exact ⟨decide_eq_true ‹_›, Option.some.inj hn⟩
    · cases hn
  have SP := Lib.hid sp
  clear sp hn
  have hz : (⟨(unsg s.data.toList).toArray⟩ : ByteArray).size ≤ maxLen := by
    have := unsg_len s.data.toList; rw [size_len] at this
    have e : (⟨(unsg s.data.toList).toArray⟩ : ByteArray).size = (unsg s.data.toList).length := rfl
    omega
  clear h
  go_enter Tryd.func31, Tryd.ntmps31
  go_wp2_with fail
  refine (cut_any s _).mono ?_
  rintro e w' ⟨rfl, rfl⟩
  go_wp2_with fail
  refine (sumParts_any _ _ hz hU).mono ?_
  rintro e w2 ⟨rfl, hb⟩
  rw [SP.out.1, SP.out.2]
  have hb2 : ¬ (1000000 : Int) < n := by omega
  go_wp2
  go_ret2
  exact ⟨ret_span (by rw [R.out]) (by rw [R.out]; rfl), hb⟩
theorem sum_le (l : List UInt8) : sum l ≤ 2000000000000 := by
  have q1 := prt_most l 100 999999999
  have q2 := prt_most (l1 l) 104 23
  have q3 := prt_most (l2 l) 109 59
  unfold sum; omega
theorem span_any (s : ByteArray) (w : World) (hs : s.size ≤ maxLen) (hU : Uni w) :
    Calls Tryd.prog 31 #[.string s] w fun e w' => e = .returned (.tuple #[.int .i64 (spn s.data.toList).1, fault (spn s.data.toList).2]) ∧ Below w.heap.size w w' := by
  by_cases h : s.data.toList = [48, 109]
  · exact span_zero s w h
  cases hn : spOf (unsg s.data.toList) with
  | none => exact span_bad s w hs hU h hn
  | some n =>
    by_cases hb : 1000000 < n
    · refine span_big s w hs hU h n hn hb ?_
      unfold spOf at hn; split at hn
      · have := sum_le (unsg s.data.toList); have := Option.some.inj hn; omega
      · cases hn
    · cases hg : neg s.data.toList
      · exact span_pos s w hs hU h n hn (by omega) hg
      · exact span_neg s w hs hU h n hn (by omega) hg
end Go.Proofs.YtdiijpjfkgnjkaaDoor
