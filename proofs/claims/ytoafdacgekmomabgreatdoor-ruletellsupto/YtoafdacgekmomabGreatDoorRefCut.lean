/-
  What is proved here: what the document's Cut answers (contracts over the translation).
-/
import Derived.Test.YtoafdacgekmomabGreatDoorQG
namespace Go.Proofs.YtoafdacgekmomabGreatDoor
open Go.RowKit Cal Txt

/-- How far a text is cut. -/
def cutK (c : UInt8) (s : ByteArray) (fr i : Nat) (xs : List ByteArray) : Prop :=
  fr ≤ i ∧ i ≤ s.size ∧ xs.length ≤ fr ∧ (xs.map (·.data.toList)) ++ cutAt c (s.data.toList.drop fr) = cutAt c s.data.toList ∧ c ∉ (s.data.toList.drop fr).take (i - fr)
theorem ext_list (s : ByteArray) (a b : Nat) : (s.extract a b).data.toList = (s.data.toList.drop a).take (b - a) := by
  simp
theorem cutK_start (c : UInt8) (s : ByteArray) : cutK c s 0 0 [] := ⟨Nat.le_refl _, Nat.zero_le _, Nat.zero_le _, rfl, by simp⟩
theorem drop_take_next (l : List UInt8) (fr i : Nat) (h : fr ≤ i) (hi : i < l.length) : (l.drop fr).take (i + 1 - fr) = (l.drop fr).take (i - fr) ++ [l[i]] := by
  rw [show i + 1 - fr = (i - fr) + 1 by omega, List.take_succ_eq_append_getElem (by rw [List.length_drop]; omega), List.getElem_drop]
  congr 3
  omega
theorem cutK_skip {c : UInt8} {s : ByteArray} {fr i : Nat} {xs : List ByteArray} (h : cutK c s fr i xs) (hi : i < s.size) (hc : ¬ s[i] = c) : cutK c s fr (i + 1) xs := by
  obtain ⟨h1, h2, h3, h4, h5⟩ := h
  refine ⟨by omega, by omega, h3, h4, ?_⟩
  rw [drop_take_next _ _ _ h1 hi]
  intro k
  rcases List.mem_append.1 k with k | k
  · exact h5 k
  · exact hc (List.mem_singleton.1 k).symm
theorem drop_split (l : List UInt8) (fr i : Nat) (h : fr ≤ i) (hi : i < l.length) : l.drop fr = (l.drop fr).take (i - fr) ++ l[i] :: l.drop (i + 1) := by
  conv => lhs; rw [← List.take_append_drop (i - fr) (l.drop fr)]
  rw [List.drop_drop, show fr + (i - fr) = i by omega, List.drop_eq_getElem_cons hi]
theorem cutK_hit {c : UInt8} {s : ByteArray} {fr i : Nat} {xs : List ByteArray} (h : cutK c s fr i xs) (hi : i < s.size) (hc : s[i] = c) : cutK c s (i + 1) (i + 1) (xs ++ [s.extract fr i]) := by
  obtain ⟨h1, h2, h3, h4, h5⟩ := h
  refine ⟨by omega, by omega, by simp; omega, ?_, by simp⟩
  have e := drop_split s.data.toList fr i h1 hi
  have hc' : s.data.toList[i] = c := hc
  rw [hc'] at e
  rw [e, cut_app c _ _ h5] at h4
  rw [List.map_append, List.append_assoc, ← h4]
  congr 1
  show [(s.extract fr i).data.toList] ++ _ = _
  rw [ext_list s fr i]
  rfl
theorem lists_inj : ∀ {xs ys : List ByteArray}, xs.map (·.data.toList) = ys.map (·.data.toList) → xs = ys
  | [], [], _ => rfl
  | [], _ :: _, h => by cases h
  | _ :: _, [], h => by cases h
  | x :: xs, y :: ys, h => by
    rw [List.map_cons, List.map_cons] at h
    have h1 := (List.cons.inj h).1
    have h2 := (List.cons.inj h).2
    rw [lists_inj h2]
    congr 1
    exact ByteArray.ext (Array.ext' h1)
theorem cutK_end {c : UInt8} {s : ByteArray} {fr i : Nat} {xs : List ByteArray} (h : cutK c s fr i xs) (hi : ¬ i < s.size) : xs ++ [s.extract fr s.size] = pcs c s := by
  obtain ⟨h1, h2, h3, h4, h5⟩ := h
  obtain rfl : i = s.size := by omega
  have e : (s.data.toList.drop fr).take (s.size - fr) = s.data.toList.drop fr := List.take_of_length_le (by rw [List.length_drop]; show s.size - fr ≤ _; omega)
  apply lists_inj
  rw [pcs_cut, ← h4, List.map_append]
  congr 1
  show [(s.extract fr s.size).data.toList] = _
  rw [ext_list s fr s.size, e, cut_plain c _ (by rw [e] at h5; exact h5)]
/-- What is answered of a text that was cut. -/
def CutA (c : UInt8) (s : ByteArray) (w : World) (e : Ending) (w' : World) : Prop :=
  Below w.heap.size w w' ∧ ∃ v, e = .returned v ∧ w'.ownsRow w.heap.size 9 1 v (pcs c s).length (strs (pcs c s))
set_option maxRecDepth 100000 in
set_option maxHeartbeats 2000000 in
theorem refCut (s : ByteArray) (c : UInt8) (w : World) (hs : s.size ≤ 2000000) :
    Calls Tryz.prog 27 #[.string s, .int .u8 (c.toNat : Int)] w (CutA c s w) := by
  obtain ⟨i0, hi, hz0, hz1, hz2⟩ := info_parts info_str
  go_enter Tryz.func27, Tryz.ntmps27
  go_wp2
  go_loopw [5, 6, 7] (fun v f i wr => ∃ (fr k : Nat) (xs : List ByteArray), i = .int .i64 k ∧ f = .int .i64 fr ∧ cutK c s fr k xs ∧ wr.ownsRow w.heap.size 9 1 v xs.length (strs xs) ∧ Below w.heap.size w wr) (fun _ _ i _ => s.size - (intOf i).toNat)
  case atStart => exact ⟨0, 0, [], rfl, rfl, cutK_start c s, World.ownsRow_nil _ _ _ _, Below.refl _ _⟩
  case round =>
    obtain ⟨fr, k, xs, rfl, rfl, hK, hown, hB⟩ := hrel
    have HK := Lib.hid hK
    have HO := Lib.hid hown
    obtain ⟨k1, k2, k3, _, _⟩ := hK
    have hsz := hB.size
    clear hown
    by_cases hlt : k < s.size
    · by_cases hc : s[k] = c
      · have N1 := Lib.hid (cutK_hit HK.out hlt hc)
        have p : ((s[k].toNat : Int) == (c.toNat : Int)) = true := by rw [hc]; simp
        have HO1 := Lib.hid (own_below HO.out (Below.refl _ wr))
        clear hc
        go_wp2_with (at_builtin; refine wpList_append_own _ rfl _ _ 47 rfl w.heap.size 9 i0 (.string ByteArray.empty) 1 16 Tryz.underlying47 hi hz0 hz1 hz2 rfl (by decide) _ _ _ rfl (HO1.out.alloc _) ⟨wr.heap.size, 0, none⟩ 1 1 [.string (s.extract fr k)] rfl rfl ?c1 ?c2 ?c3 ?c4 ?c5 ?_)
        case c1 =>
          intro j u hj
          match j, hj with
          | 0, hj => simp at hj; subst hj; simp [Addr.add]
        case c2 => intro u hu; simp at hu; subst hu; rfl
        case c3 => unfold maxLen; omega
        case c4 => omega
        case c5 => simp; omega
        intro v' w2 hown' hgrow _
        have R := own_next hB.size hB (Below.refl _ wr) HO.out hown' hgrow
        have R1 := Lib.hid R.1
        have R2 := Lib.hid R.2
        clear R hown' hgrow HO1 HO
        go_wp2
        go_roundw
        case rel => exact ⟨k + 1, k + 1, _, by go_num, by go_num, N1.out, by rw [List.length_append]; exact R1.out, R2.out⟩
        case measure => simp [intOf]; omega
      · have N1 := Lib.hid (cutK_skip HK.out hlt hc)
        have p : ((s[k].toNat : Int) == (c.toNat : Int)) = false := by
          rw [beq_eq_false_iff_ne]
          intro q
          exact hc (UInt8.toNat_inj.1 (by omega))
        clear hc
        go_wp2
        go_roundw
        case rel => exact ⟨fr, k + 1, xs, by go_num, rfl, N1.out, HO.out, hB⟩
        case measure => simp [intOf]; omega
    · have N1 := Lib.hid (cutK_end HK.out hlt)
      have HO1 := Lib.hid (own_below HO.out (Below.refl _ wr))
      have hfr : fr ≤ s.size := by omega
      go_wp2_with (at_builtin; refine wpList_append_own _ rfl _ _ 47 rfl w.heap.size 9 i0 (.string ByteArray.empty) 1 16 Tryz.underlying47 hi hz0 hz1 hz2 rfl (by decide) _ _ _ rfl (HO1.out.alloc _) ⟨wr.heap.size, 0, none⟩ 1 1 [.string (s.extract fr s.size)] rfl rfl ?c1 ?c2 ?c3 ?c4 ?c5 ?_)
      case c1 =>
        intro j u hj
        match j, hj with
        | 0, hj => simp at hj; subst hj; simp [Addr.add]
      case c2 => intro u hu; simp at hu; subst hu; rfl
      case c3 => unfold maxLen; omega
      case c4 => omega
      case c5 => simp; omega
      intro v' w2 hown' hgrow _
      have R := own_next hB.size hB (Below.refl _ wr) HO.out hown' hgrow
      have R1 := Lib.hid R.1
      have R2 := Lib.hid R.2
      rw [N1.out] at R1
      have L : Hid ((pcs c s).length = xs.length + 1) := Lib.hid (by rw [← N1.out]; simp)
      rw [← L.out] at R1
      clear R hown' hgrow HO1 HO
      go_wp2
      go_ret
      exact ⟨R2.out, _, rfl, R1.out⟩
end Go.Proofs.YtoafdacgekmomabGreatDoor
