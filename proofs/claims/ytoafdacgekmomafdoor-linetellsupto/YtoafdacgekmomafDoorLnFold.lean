/-
  What is proved here: what package line's Fold answers, for every text (a contract over the translation).
-/
import Derived.Test.YtoafdacgekmomafDoorTxtOwn
import Derived.Test.YtoafdacgekmomafDoorLnPure
import Derived.Deep.Cut
import Derived.Deep.RegionHeld3
namespace Go.Proofs.YtoafdacgekmomafDoor
open Go.RowKit Cal Ln

theorem ln_take (s : ByteArray) (c k : Nat) (hc : c = min s.size k) : (s.extract 0 c).data.toList = s.data.toList.take k := by
  rw [ByteArray.data_extract, Array.toList_extract, List.extract_eq_take_drop]
  show (s.data.toList.drop 0).take (c - 0) = _
  rw [List.drop_zero, Nat.sub_zero, hc]
  rcases Nat.le_total s.size k with h | h
  · rw [Nat.min_eq_left h, List.take_of_length_le h]
    exact List.take_of_length_le (Nat.le_refl _)
  · rw [Nat.min_eq_right h]
theorem ln_drop (s : ByteArray) (c k : Nat) (hc : c = min s.size k) : (s.extract c s.size).data.toList = s.data.toList.drop k := by
  rw [ByteArray.data_extract, Array.toList_extract, List.extract_eq_take_drop]
  have e : (s.data.toList.drop c).take (s.size - c) = s.data.toList.drop c := List.take_of_length_le (by rw [List.length_drop]; exact Nat.le_refl _)
  show (s.data.toList.drop c).take (s.size - c) = _
  rw [e, hc]
  rcases Nat.le_total s.size k with h | h
  · rw [Nat.min_eq_left h, List.drop_of_length_le h]
    exact List.drop_of_length_le (Nat.le_refl _)
  · rw [Nat.min_eq_right h]
theorem blank_app (y : ByteArray) : ((⟨#[32]⟩ : ByteArray) ++ y).data.toList = 32 :: y.data.toList := by simp
/-- How long a text is. -/
def sLen : Value → Nat
  | .string s => s.size
  | _ => 0
theorem nil_of_size {x : ByteArray} (h : x.size = 0) : x.data.toList = [] := List.eq_nil_of_length_eq_zero h
theorem ne_of_size {x : ByteArray} (h : ¬ x.size = 0) : x.data.toList ≠ [] := fun k => h (by have := congrArg List.length k; simpa using this)
/-- What is answered of a text that was folded. -/
def FoldA (s : ByteArray) (w : World) (e : Ending) (w' : World) : Prop :=
  Below w.heap.size w w' ∧ ∃ v xs, e = .returned v ∧ w'.ownsRow w.heap.size 9 1 v (fold s.data.toList).length (strs xs) ∧ xs.map (·.data.toList) = fold s.data.toList
set_option maxRecDepth 100000 in
set_option maxHeartbeats 2000000 in
theorem fold_any (s : ByteArray) (w : World) (hs : s.size ≤ 140737488351232) :
    Calls Tryd.prog 10 #[.string s] w (FoldA s w) := by
  obtain ⟨i0, hi, hz0, hz1, hz2⟩ := info_parts info_str
  obtain ⟨c, hc⟩ : ∃ c, c = min s.size 40 := ⟨_, rfl⟩
  have hc0 : (if 40 < (s.size : Int) then 40 else (s.size : Int)) = (c : Int) := by split <;> omega
  have hcs : c ≤ s.size := by omega
  have hci : (c : Int) ≤ (s.size : Int) := by omega
  have hcn : (0 : Int) ≤ (c : Int) := by omega
  have HT := Lib.hid (ln_take s c 40 hc)
  have HD := Lib.hid (ln_drop s c 40 hc)
  clear hc
  go_enter Tryd.func10, Tryd.ntmps10
  go_upto_region 2 with (fail)
  go_region_held3 (fun _ => True) (trivial) (fail)
  clear hc0 hci hcn
  go_wp2
  go_loopw [3, 4, 5] (fun t v l wr => ∃ (n : Int) (x : ByteArray) (xs : List ByteArray), t = .int .i64 n ∧ l = .string x ∧ x.size ≤ s.size ∧ FK s.data.toList x.data.toList (xs.map (·.data.toList)) ∧ wr.ownsRow w.heap.size 9 1 v xs.length (strs xs) ∧ Below w.heap.size w wr) (fun _ _ l _ => sLen l)
  case atStart => exact ⟨_, _, [s.extract 0 c], rfl, rfl, by simp, by rw [HD.out]; show FK _ _ [(s.extract 0 c).data.toList]; rw [HT.out]; exact FK_start _, (World.ownsRow_lit w _ 1 (Nat.le_refl _) (by decide) rfl).drew, ((Below.refl _ _).alloc (Nat.le_refl _) _).drew⟩
  case round =>
    clear HT HD hcs
    obtain ⟨n, x, xs, rfl, rfl, hx, hK, hown, hB⟩ := hrel
    have HK := Lib.hid hK
    have HO := Lib.hid hown
    clear hK hown
    by_cases h0 : x.size = 0
    · have e0 : x = ⟨#[]⟩ := ByteArray.ext (Array.eq_empty_of_size_eq_zero h0)
      have R := HO.out
      have E1 := FK_end (by have := HK.out; rw [nil_of_size h0] at this; exact this)
      rw [show xs.length = (fold s.data.toList).length by rw [← E1, List.length_map]] at R
      have HR := Lib.hid R
      have HE := Lib.hid E1
      clear R E1 HO HK
      go_wp2
      go_ret
      exact ⟨hB, _, xs, rfl, HR.out, HE.out⟩
    · have p : x.toList.isEmpty = false := by rw [ByteArray.toList_eq]; simpa using ne_of_size h0
      obtain ⟨d, hd⟩ : ∃ d, d = min x.size 39 := ⟨_, rfl⟩
      have hd0 : (if 39 < (x.size : Int) then 39 else (x.size : Int)) = (d : Int) := by split <;> omega
      have hds : d ≤ x.size := by omega
      have hdp : 0 < d := by omega
      have HT := Lib.hid (ln_take x d 39 hd)
      have HD := Lib.hid (ln_drop x d 39 hd)
      have N1 := Lib.hid (FK_next HK.out (ne_of_size h0))
      clear hd
      have q1 : x.size ≤ 140737488351232 := by omega
      have L := FK_len HK.out
      rw [List.length_map] at L
      have L2 : s.data.toList.length = s.size := rfl
      rw [L2] at L
      have L3 : (xs.length + 1) * 16 ≤ 140737488355328 := by omega
      have HO1 := Lib.hid (own_below HO.out (Below.refl _ wr))
      have sz := hB.size
      clear L L2
      go_wp2_with (at_builtin; refine wpList_append_own _ rfl _ _ 22 rfl w.heap.size 9 i0 (.string ByteArray.empty) 1 16 Tryd.underlying22 hi hz0 hz1 hz2 rfl (by decide) _ _ _ rfl (HO1.out.alloc _) ⟨wr.heap.size, 0, none⟩ 1 1 [.string ((⟨#[32]⟩ : ByteArray) ++ x.extract 0 d)] rfl rfl ?c1 ?c2 ?c3 ?c4 ?c5 ?_)
      case c1 =>
        intro j u hj
        match j, hj with
        | 0, hj => simp at hj; subst hj; simp [Addr.add]
      case c2 => intro u hu; simp at hu; subst hu; rfl
      case c3 => unfold maxLen; omega
      case c4 => exact L3
      case c5 => simp; omega
      intro v' w2 hown' hgrow _
      have R := own_next hB.size hB (Below.refl _ wr) HO.out hown' hgrow
      have R1 := Lib.hid R.1
      have R2 := Lib.hid R.2
      clear R hown' hgrow HO1 HO
      go_wp2
      go_roundw
      case rel =>
        refine ⟨_, _, _, rfl, rfl, ?_, ?_, by rw [List.length_append]; exact R1.out, R2.out⟩
        · simp; omega
        · rw [HD.out, List.map_append]
          show FK _ _ (_ ++ [((⟨#[32]⟩ : ByteArray) ++ x.extract 0 d).data.toList])
          rw [blank_app, HT.out]
          exact N1.out
      case measure => simp [sLen]; omega
end Go.Proofs.YtoafdacgekmomafDoor
