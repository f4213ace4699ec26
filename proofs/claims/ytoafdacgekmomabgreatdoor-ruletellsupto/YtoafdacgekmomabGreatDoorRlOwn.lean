/-
  What is proved here: small words on a list of texts that a call gathers, and on its joining.
-/
import Derived.Test.YtoafdacgekmomabGreatDoorRuleF
import Derived.Test.YtoafdacgekmomabGreatDoorMem
import Derived.Test.YtoafdacgekmomabGreatDoorTxtOwn
import Derived.OwnWalk
import Derived.Lib.Join
namespace Go.Proofs.YtoafdacgekmomabGreatDoor
open Go.RowKit Cal Txt

theorem join_by (xs : List (List UInt8)) : Lib.join xs [44] = joinBy 44 xs := by
  induction xs with
  | nil => rfl
  | cons a r ih =>
    cases r with
    | nil => rw [Lib.join_one]; rfl
    | cons b r =>
      show _ = a ++ 44 :: joinBy 44 (b :: r)
      rw [← ih]
      simp [Lib.join, List.intercalate]
theorem join_len (c : UInt8) (k : Nat) : ∀ (xs : List (List UInt8)), (∀ x ∈ xs, x.length ≤ k) → (joinBy c xs).length ≤ xs.length * (k + 1)
  | [], _ => by simp [joinBy]
  | [a], h => by
    have := h a (by simp)
    show a.length ≤ 1 * (k + 1)
    omega
  | a :: b :: l, h => by
    have h1 := h a (by simp)
    have h2 := join_len c k (b :: l) (fun x hx => h x (by simp at hx ⊢; exact Or.inr hx))
    show (a ++ c :: joinBy c (b :: l)).length ≤ _
    rw [List.length_append, List.length_cons]
    have : (a :: b :: l).length * (k + 1) = (b :: l).length * (k + 1) + (k + 1) := by rw [List.length_cons, Nat.succ_mul]
    omega
/-- The first texts of a list. -/
def gat {α : Type} (tx : α → List UInt8) (l : List α) (k : Nat) : List ByteArray := (l.take k).map fun x => tb (tx x)
theorem gat_len {α : Type} (tx : α → List UInt8) (l : List α) (k : Nat) (h : k ≤ l.length) : (gat tx l k).length = k := by unfold gat; rw [List.length_map, List.length_take]; omega
theorem gat_next {α : Type} (tx : α → List UInt8) (l : List α) (k : Nat) (d : α) (h : k < l.length) : gat tx l (k + 1) = gat tx l k ++ [tb (tx (l.getD k d))] := by
  unfold gat
  rw [List.take_succ_eq_append_getElem h, List.map_append, List.getD_eq_getElem?_getD, List.getElem?_eq_getElem h]; rfl
theorem gat_all {α : Type} (tx : α → List UInt8) (l : List α) : (gat tx l l.length).map (·.data.toList) = l.map tx := by
  unfold gat
  rw [List.take_length, List.map_map]
  exact List.map_congr_left (fun x _ => tb_data _)
/-- strconv.Itoa of any number. -/
theorem itoa_nt (n : Int) (w : World) (hP : Pow w) (h0 : -9223372036854775808 ≤ n) (h1 : n ≤ 9223372036854775807) :
    Calls Tryz.prog 54 #[.int .i64 n] w fun e w' => e = .returned (.string (tb (nt n))) ∧ Below w.heap.size w w' := by
  refine (Tryz.strconv_Itoa n h0 h1 w hP).mono ?_
  rintro e w' ⟨rfl, k, os, rfl⟩
  refine ⟨?_, below_grew w k os⟩
  have : Lib.itoa n = nt n := by
    unfold Lib.itoa nt
    by_cases h : n < 0
    · rw [if_pos h, if_pos h]
    · rw [if_neg h, if_neg h, show n.toNat = n.natAbs by omega]
  rw [this]; rfl
theorem join_nil0 (a : Option Addr) (c : Nat) (w : World) : Calls Tryz.prog 74 #[.slice a 0 c, .string ⟨#[44]⟩] w fun e w' => e = .returned (.string ⟨#[]⟩) ∧ w' = w := Any.strings_Join_none Tryz.lays156 Tryz.Builder_Extra_156 a c _ w
theorem join_any {α : Type} (tx : α → List UInt8) (l : List α) (g n c : Nat) (w : World) (hl : l.length = n) (hb : n ≤ 100) (hs : ∀ x ∈ l, (tx x).length ≤ 30) (hcells : ∀ (j : Nat) x, (gat tx l n)[j]? = some x → w.cell? ⟨g, 0 + j, none⟩ = some (.string x)) (hg : g < w.heap.size) (hc : n ≤ c) :
    Calls Tryz.prog 74 #[.slice (some ⟨g, 0, none⟩) n c, .string ⟨#[44]⟩] w fun e w' => e = .returned (.string (tb (lt tx l))) ∧ Below w.heap.size w w' := by
  subst hl
  have e1 : Lib.join ((gat tx l l.length).map (·.data.toList)) [44] = lt tx l := by rw [gat_all, join_by]; rfl
  have e2 : (lt tx l).length ≤ 100 * 31 := by
    have := join_len 44 30 (l.map tx) (fun x hx => by obtain ⟨y, hy, rfl⟩ := List.mem_map.1 hx; exact hs y hy)
    rw [List.length_map] at this
    unfold lt
    have h2 : l.length * 31 ≤ 100 * 31 := Nat.mul_le_mul_right _ hb
    omega
  have h := Tryz.strings_Join g 0 c (gat tx l l.length) ⟨#[44]⟩ w hcells hg (by rw [gat_len _ _ _ (Nat.le_refl _)]; omega) (by rw [gat_len _ _ _ (Nat.le_refl _)]; exact hc) (by show (Lib.join _ [44]).length ≤ _; rw [e1]; omega)
  rw [gat_len _ _ _ (Nat.le_refl _)] at h
  refine h.mono ?_
  rintro e w' ⟨rfl, hb⟩
  exact ⟨by show Ending.returned (.string ⟨(Lib.join _ [44]).toArray⟩) = _; rw [e1]; rfl, hb⟩
end Go.Proofs.YtoafdacgekmomabGreatDoor
