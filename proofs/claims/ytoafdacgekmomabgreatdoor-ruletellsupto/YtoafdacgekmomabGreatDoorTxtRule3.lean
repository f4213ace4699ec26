/-
  What is proved here: that the document's way of reading a rule's words, two by two with rising kinds, is the same as part by part; no program is named.
-/
import Derived.Test.YtoafdacgekmomabGreatDoorQB
namespace Go.Proofs.YtoafdacgekmomabGreatDoor.Txt
open Go.Lib Cal

/-- Which part a word begins; -1: none. -/
def kk (l : List UInt8) : Int := if l = kw 0 then 0 else if l = kw 1 then 1 else if l = kw 2 then 2 else if l = kw 3 then 3 else if l = kw 4 then 4 else if l = kw 5 then 5 else if l = kw 6 then 6 else -1
theorem kk_kw {j : Nat} (h : j < 7) : kk (kw j) = j := by
  rcases seven h with rfl | rfl | rfl | rfl | rfl | rfl | rfl <;> decide
theorem kk_bd (l : List UInt8) : -1 ≤ kk l ∧ kk l ≤ 6 := by
  unfold kk
  repeat (split; (constructor <;> decide))
  constructor <;> decide
theorem kw_kk {l : List UInt8} (h : kk l ≠ -1) : kw (kk l).toNat = l ∧ (kk l).toNat < 7 ∧ ((kk l).toNat : Int) = kk l := by
  have b := kk_bd l
  refine ⟨?_, by omega, by omega⟩
  unfold kk at *
  repeat (split at h; (rename_i e; rw [if_pos e]; exact e.symm); rename_i e; rw [if_neg e])
  exact absurd rfl h
/-- The words are read two by two. -/
def rd2 (last : Int) (r : Rl) : List (List UInt8) → Option Rl
  | [] => some r
  | [_] => none
  | w :: v :: rest => if kk w ≤ last then none else match ap (kk w).toNat v r with
    | some r' => rd2 (kk w) r' rest
    | none => none
theorem rdF_rd2 : ∀ (m : Nat) (r : Rl) (ws : List (List UInt8)), m ≤ 7 → rdF m r ws = rd2 (6 - m) r ws
  | 0, r, [], _ => by simp [rdF, rd2]
  | 0, r, [_], _ => by simp [rdF, rd2]
  | 0, r, w :: v :: rest, _ => by
    have b := kk_bd w
    unfold rdF rd2
    rw [if_neg (by simp), if_pos (by simpa using b.2)]
  | m + 1, r, [], _ => by simp [rdF, rd2]
  | m + 1, r, [_], _ => by simp [rdF, rd2]
  | m + 1, r, w :: v :: rest, h => by
    by_cases e : w = kw (6 - m)
    · have k : kk w = 6 - m := by rw [e, kk_kw (by omega)]; omega
      conv => lhs; unfold rdF
      dsimp only
      rw [if_pos e]
      conv => rhs; unfold rd2
      rw [if_neg (by rw [k]; omega), show (kk w).toNat = 6 - m by omega]
      cases ap (6 - m) v r with
      | none => rfl
      | some r' => dsimp only; rw [k]; exact rdF_rd2 m _ rest (by omega)
    · have k : kk w ≠ 6 - m := fun q => e (by
        have := kw_kk (l := w) (by omega)
        rw [show (kk w).toNat = 6 - m by omega] at this
        exact this.1.symm)
      conv => lhs; unfold rdF
      dsimp only
      rw [if_neg e, rdF_rd2 m r (w :: v :: rest) (by omega)]
      unfold rd2
      by_cases q : kk w ≤ 6 - m
      · rw [if_pos q, if_pos (by omega)]
      · rw [if_neg q, if_neg (by omega)]
/-- Words of an odd number are no parts. -/
theorem rd2_odd : ∀ (last : Int) (r : Rl) (ws : List (List UInt8)), ws.length % 2 = 1 → rd2 last r ws = none
  | _, _, [], h => by simp at h
  | _, _, [_], _ => by simp [rd2]
  | last, r, w :: v :: rest, h => by
    unfold rd2
    split
    · rfl
    · split
      · exact rd2_odd _ _ rest (by simp at h; omega)
      · rfl
theorem rr_rd2 (s w : List UInt8) (ws : List (List UInt8)) (h : cutAt 32 s = w :: ws) : rr s = if fk w = 0 then none else rd2 (-1) (r0 (fk w)) ws := by
  unfold rr
  rw [h]
  dsimp only
  rw [rdF_rd2 7 _ _ (by omega)]
  rfl
/-- The words from a place on are read two by two. -/
theorem rd2_at {last : Int} {r : Rl} {ws : List (List UInt8)} {i : Nat} (h : i + 1 < ws.length) : rd2 last r (ws.drop i) = if kk ws[i] ≤ last then none else match ap (kk ws[i]).toNat ws[i + 1] r with
    | some r' => rd2 (kk ws[i]) r' (ws.drop (i + 2))
    | none => none := by
  rw [List.drop_eq_getElem_cons (by omega : i < ws.length), List.drop_eq_getElem_cons h]
  conv => lhs; unfold rd2
end Go.Proofs.YtoafdacgekmomabGreatDoor.Txt
