/-
  What is proved here: plain words on what is read off a leaf, place by place, without the program.
-/
import Derived.Test.YtikpfeaidgeebaaDoorMoMon
import Derived.Test.YtikpfeaidgeebaaDoorMoCell
namespace Go.Proofs.YtikpfeaidgeebaaDoor.Mo
open Go.RowKit Cal Txt

theorem ln_at {F T : Int} {p : Int → Bool} (h : T < F + 50) (m : Int) {k : Nat} : ∀ j, k < j → ((ln F T p m j).drop (3 * k)).take 3 = pl F T p (m + (k : Int))
  | 0, hk => by omega
  | j + 1, hk => by
    show ((ln F T p m j ++ pl F T p (m + (j : Int))).drop (3 * k)).take 3 = _
    have LL := ln_len (p := p) h m j
    rw [List.drop_append_of_le_length (by omega)]
    rcases Nat.lt_or_ge k j with g | g
    · rw [List.take_append_of_le_length (by rw [List.length_drop]; omega)]
      exact ln_at h m j g
    · obtain rfl : k = j := by omega
      have LP := pl_len (n := m + (k : Int)) (p := p) h
      rw [List.drop_of_length_le (by omega), List.nil_append, List.take_of_length_le (by omega)]
theorem at3_eq (l : List UInt8) (c : Nat) : at3 (tb l) c = (l.drop (3 * c)).take 3 := by
  unfold at3
  rw [ByteArray.data_extract]
  simp [tb]
theorem nu_ne {d : Nat} (h1 : 1 ≤ d) : ¬ nu d = [32, 32] := by
  intro e
  have := nu_val d
  rw [e, show List.dropWhile (fun x => x == 32) ([32, 32] : List UInt8) = [] by decide] at this
  have z : val [] = 0 := rfl
  omega
theorem rd_pl {F T n : Int} {p : Int → Bool} (h : T < F + 31) : rdL (pl F T p n) = if n < F ∨ T < n then (0, 5) else (n - F + 1, 0) := by
  by_cases g : n < F ∨ T < n
  · rw [if_pos g, pl_none g]; exact rd_none rfl
  · rw [if_neg g]
    have d1 : 1 ≤ (n - F + 1).toNat := by omega
    have d2 : (n - F + 1).toNat ≤ 31 := by omega
    have e : (n - F + 1, (0 : Int)) = (((n - F + 1).toNat : Int), 0) := by rw [Int.toNat_of_nonneg (by omega)]
    rw [e]
    rcases hp : p n with _ | _
    · rw [pl_bare (by omega) (by omega) hp]
      exact rd_num (fun q => nu_ne d1 (by simpa using q)) (Or.inl rfl) (nv_hit d1 d2 rfl) d1
    · rw [pl_mark (by omega) (by omega) hp]
      exact rd_num (fun q => by simp at q) (Or.inr rfl) (nv_hit d1 d2 rfl) d1
/-- What stands at a place of a leaf. -/
theorem cel_leaf {y m : Int} {p : Int → Bool} (h : isM y m) {i k : Nat} (hi : i < (lfM y m p).length) (hk : k < 7) :
    cel (lfM y m p) (i : Int) (k : Int) = if mn (fst y m) + 7 * (i : Int) + (k : Int) < fst y m ∨ lst y m < mn (fst y m) + 7 * (i : Int) + (k : Int) then (0, 5) else (mn (fst y m) + 7 * (i : Int) + (k : Int) - fst y m + 1, 0) := by
  have b := ends_bd h
  rw [cel_in (by omega) (by rw [Int.toNat_natCast]; exact lfM_size p h hi), Int.toNat_natCast, Int.toNat_natCast, lfM_at p hi, at3_eq, ln_at (by omega) _ 7 hk, rd_pl (by omega)]
/-- How many days stand ahead of a place, and one more. -/
def nx (F Z n : Int) : Int := if n < F then 1 else if F + Z - 1 < n then Z + 1 else n - F + 1
theorem nx_a {F Z n : Int} (h : n < F) : nx F Z n = 1 := if_pos h
theorem nx_b {F Z n : Int} (h : F ≤ n) (h2 : F + Z - 1 < n) : nx F Z n = Z + 1 := by unfold nx; rw [if_neg (by omega), if_pos h2]
theorem nx_c {F Z n : Int} (h : F ≤ n) (h2 : n ≤ F + Z - 1) : nx F Z n = n - F + 1 := by unfold nx; rw [if_neg (by omega), if_neg (by omega)]
theorem lst_eq (y m : Int) : lst y m = fst y m + ml y m - 1 := rfl
theorem mn_wd (F : Int) : (mn F - 1) % 7 = 0 := by unfold mn; omega
theorem cnt_end (F T : Int) : T < mn F + 7 * (cnt F T : Int) := by unfold cnt; omega
end Go.Proofs.YtikpfeaidgeebaaDoor.Mo
