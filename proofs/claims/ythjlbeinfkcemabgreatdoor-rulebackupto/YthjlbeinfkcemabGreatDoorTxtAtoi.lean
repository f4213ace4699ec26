/-
  What is proved here: plain facts on reading a number: the library's way and ours; no program is named.
-/
import Derived.Test.YthjlbeinfkcemabGreatDoorTxtList
import Derived.Lib.AtoiAllCases
namespace Go.Proofs.YthjlbeinfkcemabGreatDoor.Txt
open Go.Lib

theorem parse_dg : ∀ (l : List UInt8) (acc k : Nat), (∀ c ∈ l, isDg c = true) → acc < 10 ^ k → l.length + k ≤ 10 → parseUint10 acc l = .ok (l.foldl (fun n c => n * 10 + (c.toNat - 48)) acc)
  | [], _, _, _, _, _ => rfl
  | c :: r, acc, k, hd, ha, hl => by
    have hc := isDg_iff.1 (hd c (by simp))
    rw [List.length_cons] at hl
    have h10 : 10 ^ k ≤ 10 ^ 9 := Nat.pow_le_pow_right (by decide) (by omega)
    have h9 : (10 : Nat) ^ 9 = 1000000000 := by decide
    unfold parseUint10
    rw [if_pos hc, if_neg (by omega), if_neg (by omega)]
    rw [parse_dg r (acc * 10 + (c.toNat - 48)) (k + 1) (fun x hx => hd x (by simp [hx])) (by rw [Nat.pow_succ]; omega) (by omega)]
    rfl
theorem mag_dec (u : Nat) (h : u < 10000) : parseMag (decDigits u) = .ok u := by
  unfold parseMag
  rw [if_neg (dec_ne u), parse_dg (decDigits u) 0 0 (dec_is u) (by decide) (by have := dec_len u 3 (by omega); omega)]
  congr 1
  exact dec_val u
theorem atoi_nt (n : Int) (h : n.natAbs < 10000) : atoiAll (nt n) = .ok n := by
  unfold nt
  by_cases hn : n < 0
  · rw [if_pos hn, atoiAll_minus, mag_dec _ h]
    unfold signed
    simp only []
    rw [if_neg (by omega)]
    congr 1
    omega
  · rw [if_neg hn]
    obtain ⟨c, hc, hd⟩ := dec_head_dg n.natAbs
    obtain ⟨r, hr⟩ : ∃ r, decDigits n.natAbs = c :: r := by
      cases e : decDigits n.natAbs with
      | nil => exact absurd e (dec_ne _)
      | cons a r => rw [e] at hc; simp at hc; exact ⟨r, by rw [hc]⟩
    have hc' := isDg_iff.1 hd
    rw [hr, atoiAll_plain c r (by omega) (by omega), ← hr, mag_dec _ h]
    unfold signless
    simp only []
    rw [if_neg (by omega)]
    congr 1
    omega
/-- A text is a number's just where it is how that number is written. -/
theorem nr_some {l : List UInt8} {n : Int} (h : nr 4 l = some n) : nt n = l ∧ n.natAbs < 10000 := by
  have := nt_nr h
  exact ⟨this.1, by have := this.2; omega⟩
theorem nr_none {l : List UInt8} (h : nr 4 l = none) {n : Int} (hn : n.natAbs < 10000) : nt n ≠ l := fun e => by
  have := nr_nt n 3 (by omega)
  rw [e, h] at this
  cases this
end Go.Proofs.YthjlbeinfkcemabGreatDoor.Txt
