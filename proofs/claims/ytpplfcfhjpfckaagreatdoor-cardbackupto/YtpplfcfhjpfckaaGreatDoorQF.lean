/-
  What is proved here: plain facts on cutting a text: the library's way and ours are the same; no program is named.
  What is proved here: plain facts on a date that is read as a time one minute behind its beginning; no program is named.
-/
import Derived.Test.YtpplfcfhjpfckaaGreatDoorQB
import Derived.Lib.SplitLaws
import Derived.Lib.IndexLaws
import Derived.Lib.IndexBytes
namespace Go.Proofs.YtpplfcfhjpfckaaGreatDoor.Txt
open Go.Lib

theorem splitK_cut (c : UInt8) : ∀ (n : Nat) (s : List UInt8), s.length ≤ n → splitK [c] 0 (s.count c) s = cutAt c s := by
  intro n
  induction n with
  | zero =>
    intro s hs
    have : s = [] := List.eq_nil_of_length_eq_zero (by omega)
    subst this
    rfl
  | succ n ih =>
    intro s hs
    by_cases h : indexByte s c = -1
    · have hn : c ∉ s := fun hm => by
        obtain ⟨k, hk⟩ := List.getElem?_of_mem hm
        exact indexByte_none h k hk
      rw [List.count_eq_zero_of_not_mem hn, cut_plain c s hn]
      rfl
    · obtain ⟨o, ho⟩ : ∃ o : Nat, indexByte s c = o := ⟨(indexByte s c).toNat, by have := indexByte_ge s c; omega⟩
      obtain ⟨h1, h2⟩ := indexByte_some ho
      have hlt : o < s.length := (List.getElem?_eq_some_iff.1 h1).1
      have hdrop : s.drop o = c :: s.drop (o + 1) := by
        rw [List.drop_eq_getElem_cons hlt]
        congr 1
        exact (List.getElem?_eq_some_iff.1 h1).2
      have hsp : s = s.take o ++ c :: s.drop (o + 1) := by rw [← hdrop, List.take_append_drop]
      have hna : c ∉ s.take o := fun hm => by
        obtain ⟨k, hk⟩ := List.getElem?_of_mem hm
        have hko : k < o := by
          have := (List.getElem?_eq_some_iff.1 hk).1
          rw [List.length_take] at this
          omega
        rw [List.getElem?_take, if_pos hko] at hk
        exact h2 k hko hk
      have hcount : s.count c = (s.drop (o + 1)).count c + 1 := by
        conv => lhs; rw [hsp]
        rw [List.count_append, List.count_eq_zero_of_not_mem hna, List.count_cons_self]
        omega
      rw [hcount]
      show (if index s [c] == -1 then [s] else s.take ((index s [c]).toNat + 0) :: splitK [c] 0 ((s.drop (o + 1)).count c) (s.drop ((index s [c]).toNat + [c].length))) = _
      rw [index_one, ho]
      have e1 : ((o : Int) == -1) = false := by
        rw [beq_eq_false_iff_ne]; omega
      rw [e1]
      show s.take ((o : Int).toNat + 0) :: splitK [c] 0 _ (s.drop ((o : Int).toNat + 1)) = _
      rw [Int.toNat_natCast, Nat.add_zero, ih _ (by rw [List.length_drop]; omega)]
      conv => rhs; rw [hsp]
      rw [cut_app c _ _ hna]
theorem cut_len (c : UInt8) (s : List UInt8) : (cutAt c s).length = s.count c + 1 := by
  induction s with
  | nil => rfl
  | cons b l ih =>
    by_cases h : b = c
    · subst h
      rw [show b :: l = [] ++ b :: l from rfl, cut_app b [] l (by simp)]
      simp [ih]
    · have hb : (b == c) = false := by simpa using h
      rw [List.count_cons, hb]
      unfold cutAt
      rw [if_neg h, List.length_cons, List.length_tail, ih]
      simp
end Go.Proofs.YtpplfcfhjpfckaaGreatDoor.Txt
namespace Go.Proofs.YtpplfcfhjpfckaaGreatDoor.Txt
open Go.Lib Cal

/-- What makes a time of a date. -/
def tl1 : List UInt8 := [32, 48, 48, 58, 48, 49]
theorem frm_tl1 (l : List UInt8) : frm (l ++ tl1) = dfB l := by
  unfold dfB
  by_cases h : l.length = 10
  · rw [Bool.eq_iff_iff, frm_iff, frm_iff]
    have e1 : (l ++ tl1).length = 16 := by rw [List.length_append, h]; rfl
    have e2 : (l ++ mid).length = 16 := by rw [List.length_append, h]; rfl
    have key : ∀ i, i < 16 → fit (fm.getD i 0) ((l ++ tl1).getD i 0) = fit (fm.getD i 0) ((l ++ mid).getD i 0) := fun i hi => by
      by_cases hl : i < 10
      · rw [List.getD_eq_getElem?_getD, List.getD_eq_getElem?_getD, List.getD_eq_getElem?_getD, List.getElem?_append_left (by omega), List.getElem?_append_left (by omega)]
      · obtain ⟨j, rfl⟩ : ∃ j, i = 10 + j := ⟨i - 10, by omega⟩
        have g1 : (l ++ tl1).getD (10 + j) 0 = tl1.getD j 0 := by
          rw [List.getD_eq_getElem?_getD, List.getD_eq_getElem?_getD, List.getElem?_append_right (by omega), h]
          congr 2; omega
        have g2 : (l ++ mid).getD (10 + j) 0 = mid.getD j 0 := by
          rw [List.getD_eq_getElem?_getD, List.getD_eq_getElem?_getD, List.getElem?_append_right (by omega), h]
          congr 2; omega
        rw [g1, g2]
        rcases (by omega : j = 0 ∨ j = 1 ∨ j = 2 ∨ j = 3 ∨ j = 4 ∨ j = 5) with rfl | rfl | rfl | rfl | rfl | rfl <;> decide
    constructor
    · rintro ⟨_, h2⟩; exact ⟨e2, fun i hi => by rw [← key i hi]; exact h2 i hi⟩
    · rintro ⟨_, h2⟩; exact ⟨e1, fun i hi => by rw [key i hi]; exact h2 i hi⟩
  · rw [frm_short (by rw [List.length_append]; show ¬ l.length + 6 = 16; omega), frm_short (by rw [List.length_append]; show ¬ l.length + 6 = 16; omega)]
theorem nm_tl1 {l : List UInt8} (h : l.length = 10) : nm (l ++ tl1) 0 4 = nm l 0 4 ∧ nm (l ++ tl1) 5 7 = nm l 5 7 ∧ nm (l ++ tl1) 8 10 = nm l 8 10 ∧ nm (l ++ tl1) 11 13 = 0 ∧ nm (l ++ tl1) 14 16 = 1 := by
  refine ⟨nm_app _ _ _ _ (by omega), nm_app _ _ _ _ (by omega), nm_app _ _ _ _ (by omega), ?_, ?_⟩
  · unfold nm
    rw [List.drop_append, List.drop_eq_nil_of_le (by omega), h]
    decide
  · unfold nm
    rw [List.drop_append, List.drop_eq_nil_of_le (by omega), h]
    decide
theorem day_some {l : List UInt8} {n : Int} (h : dr l = some n) : frm (l ++ tl1) = true ∧ good (l ++ tl1) ∧ raw (l ++ tl1) = (n - 1) * 1440 + 1 ∧ 1 ≤ n ∧ n ≤ 109573 := by
  have hb := (dt_dr h).2
  unfold dr at h
  split at h
  · rename_i e
    rw [Bool.and_eq_true] at e
    have hl := dfB_len e.1
    obtain ⟨q1, q2, q3, q4, q5⟩ := nm_tl1 hl
    have hn : num (nm l 0 4) (nm l 5 7) (nm l 8 10) = n := Option.some.inj h
    have hr : raw (l ++ tl1) = (n - 1) * 1440 + 1 := by
      unfold raw
      rw [q1, q2, q3, q4, q5, hn]
      omega
    refine ⟨by rw [frm_tl1]; exact e.1, ⟨?_, ?_, ?_, ?_⟩, hr, hb.1, hb.2⟩
    · rw [q1, q2, q3]; exact okB_iff.1 e.2
    · rw [q4]; decide
    · rw [q5]; decide
    · rw [hr]; omega
  · cases h
theorem day_none {l : List UInt8} (h : dr l = none) : frm (l ++ tl1) = false ∨ (frm (l ++ tl1) = true ∧ nm (l ++ tl1) 14 16 ≤ 59 ∧ ¬ good (l ++ tl1)) := by
  unfold dr at h
  split at h
  · cases h
  · rename_i e
    rcases hd : dfB l with _ | _
    · exact Or.inl (by rw [frm_tl1]; exact hd)
    · have hl := dfB_len hd
      obtain ⟨q1, q2, q3, q4, q5⟩ := nm_tl1 hl
      refine Or.inr ⟨by rw [frm_tl1]; exact hd, by rw [q5]; decide, fun g => ?_⟩
      have g1 := g.1
      rw [q1, q2, q3] at g1
      exact e (by rw [hd, okB_iff.2 g1]; rfl)
end Go.Proofs.YtpplfcfhjpfckaaGreatDoor.Txt
