/-
  What is proved here: plain facts on cutting a text: the library's way and ours are the same; no program is named.
-/
import Derived.Test.YthjlbeinfkcemabGreatDoorTxtList
import Derived.Lib.SplitLaws
import Derived.Lib.IndexLaws
import Derived.Lib.IndexBytes
namespace Go.Proofs.YthjlbeinfkcemabGreatDoor.Txt
open Go.Lib

theorem splitK_cut (c : UInt8) : ∀ (n : Nat) (s : List UInt8), s.length ≤ n → splitK [c] 0 (s.count c) s = cutAt c s := by
  intro n
  induction n with
  | zero =>
    intro s hs
    have : s = [] := List.eq_nil_of_length_eq_zero (by omega)
    subst this
    rfl
  | succ n ih =>
    intro s hs
    by_cases h : indexByte s c = -1
    · have hn : c ∉ s := fun hm => by
        obtain ⟨k, hk⟩ := List.getElem?_of_mem hm
        exact indexByte_none h k hk
      rw [List.count_eq_zero_of_not_mem hn, cut_plain c s hn]
      rfl
    · obtain ⟨o, ho⟩ : ∃ o : Nat, indexByte s c = o := ⟨(indexByte s c).toNat, by have := indexByte_ge s c; omega⟩
      obtain ⟨h1, h2⟩ := indexByte_some ho
      have hlt : o < s.length := (List.getElem?_eq_some_iff.1 h1).1
      have hdrop : s.drop o = c :: s.drop (o + 1) := by
        rw [List.drop_eq_getElem_cons hlt]
        congr 1
        exact (List.getElem?_eq_some_iff.1 h1).2
      have hsp : s = s.take o ++ c :: s.drop (o + 1) := by rw [← hdrop, List.take_append_drop]
      have hna : c ∉ s.take o := fun hm => by
        obtain ⟨k, hk⟩ := List.getElem?_of_mem hm
        have hko : k < o := by
          have := (List.getElem?_eq_some_iff.1 hk).1
          rw [List.length_take] at this
          omega
        rw [List.getElem?_take, if_pos hko] at hk
        exact h2 k hko hk
      have hcount : s.count c = (s.drop (o + 1)).count c + 1 := by
        conv => lhs; rw [hsp]
        rw [List.count_append, List.count_eq_zero_of_not_mem hna, List.count_cons_self]
        omega
      rw [hcount]
      show (if index s [c] == -1 then [s] else s.take ((index s [c]).toNat + 0) :: splitK [c] 0 ((s.drop (o + 1)).count c) (s.drop ((index s [c]).toNat + [c].length))) = _
      rw [index_one, ho]
      have e1 : ((o : Int) == -1) = false := by
        rw [beq_eq_false_iff_ne]; omega
      rw [e1]
      show s.take ((o : Int).toNat + 0) :: splitK [c] 0 _ (s.drop ((o : Int).toNat + 1)) = _
      rw [Int.toNat_natCast, Nat.add_zero, ih _ (by rw [List.length_drop]; omega)]
      conv => rhs; rw [hsp]
      rw [cut_app c _ _ hna]
theorem cut_len (c : UInt8) (s : List UInt8) : (cutAt c s).length = s.count c + 1 := by
  induction s with
  | nil => rfl
  | cons b l ih =>
    by_cases h : b = c
    · subst h
      rw [show b :: l = [] ++ b :: l from rfl, cut_app b [] l (by simp)]
      simp [ih]
    · have hb : (b == c) = false := by simpa using h
      rw [List.count_cons, hb]
      unfold cutAt
      rw [if_neg h, List.length_cons, List.length_tail, ih]
      simp
end Go.Proofs.YthjlbeinfkcemabGreatDoor.Txt
