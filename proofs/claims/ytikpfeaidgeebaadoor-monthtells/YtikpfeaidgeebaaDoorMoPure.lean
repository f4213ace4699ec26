/-
  What is proved here: plain words on a leaf of the calendar (a place, a line, its lines), without the program.
-/
import Derived.Test.YtikpfeaidgeebaaDoorLow
import Derived.Test.YtikpfeaidgeebaaDoorTxt
import Derived.Test.YtikpfeaidgeebaaDoorTxtOwn
namespace Go.Proofs.YtikpfeaidgeebaaDoor.Mo
open Go.RowKit Cal Txt

/-- The Monday of a day's week. -/
def mn (n : Int) : Int := n - (n - 1) % 7
/-- A number of a day in two places. -/
def nu (n : Nat) : List UInt8 := if n < 10 then 32 :: Lib.decDigits n else Lib.decDigits n
theorem dec_one {n : Nat} (h : n < 10) : (Lib.decDigits n).length = 1 := by
  have a := dec_len n 0 (by omega)
  have b : 0 < (Lib.decDigits n).length := List.length_pos_iff.2 (dec_ne n)
  omega
theorem nu_len {n : Nat} (h : n < 100) : (nu n).length = 2 := by
  unfold nu
  split
  · next g => rw [List.length_cons, dec_one g]
  · next g => rw [d2_big g h]; rfl
/-- What stands at the place of a day. -/
def pl (F T : Int) (p : Int → Bool) (n : Int) : List UInt8 := if n < F ∨ T < n then [32, 32, 32] else (if p n = true then 42 else 32) :: nu (n - F + 1).toNat
theorem pl_none {F T n : Int} {p : Int → Bool} (h : n < F ∨ T < n) : pl F T p n = [32, 32, 32] := if_pos h
theorem pl_mark {F T n : Int} {p : Int → Bool} (h1 : F ≤ n) (h2 : n ≤ T) (hp : p n = true) : pl F T p n = [42] ++ nu (n - F + 1).toNat := by
  unfold pl; rw [if_neg (by omega), if_pos hp]; rfl
theorem pl_bare {F T n : Int} {p : Int → Bool} (h1 : F ≤ n) (h2 : n ≤ T) (hp : p n = false) : pl F T p n = [32] ++ nu (n - F + 1).toNat := by
  unfold pl; rw [if_neg (by omega), if_neg (by rw [hp]; decide)]; rfl
theorem pl_len {F T n : Int} {p : Int → Bool} (h : T < F + 50) : (pl F T p n).length = 3 := by
  unfold pl
  split
  · rfl
  · rw [List.length_cons, nu_len (by omega)]
/-- The first places of a line. -/
def ln (F T : Int) (p : Int → Bool) (m : Int) : Nat → List UInt8
  | 0 => []
  | k + 1 => ln F T p m k ++ pl F T p (m + (k : Int))
theorem ln_len {F T : Int} {p : Int → Bool} (h : T < F + 50) (m : Int) : ∀ k, (ln F T p m k).length = 3 * k
  | 0 => rfl
  | k + 1 => by show (ln F T p m k ++ _).length = _; rw [List.length_append, ln_len h m k, pl_len h]; omega
/-- The first lines of a leaf. -/
def rws (F T : Int) (p : Int → Bool) (k : Nat) : List ByteArray := (List.range k).map fun (i : Nat) => tb (ln F T p (mn F + 7 * (i : Int)) 7)
theorem rws_len (F T : Int) (p : Int → Bool) (k : Nat) : (rws F T p k).length = k := by simp [rws]
theorem rws_next (F T : Int) (p : Int → Bool) (k : Nat) : rws F T p (k + 1) = rws F T p k ++ [tb (ln F T p (mn F + 7 * (k : Int)) 7)] := by
  unfold rws; rw [List.range_succ, List.map_append]; rfl
theorem rws_at (F T : Int) (p : Int → Bool) {k i : Nat} (h : i < k) : (rws F T p k).getD i ByteArray.empty = tb (ln F T p (mn F + 7 * (i : Int)) 7) := by
  unfold rws
  rw [List.getD_eq_getElem?_getD, List.getElem?_map, List.getElem?_range h]; rfl
/-- How many lines a leaf has. -/
def cnt (F T : Int) : Nat := ((T - mn F) / 7 + 1).toNat
theorem mn_bd (n : Int) : n - 6 ≤ mn n ∧ mn n ≤ n := by unfold mn; omega
theorem mn_pos {n : Int} (h : 1 ≤ n) : 1 ≤ mn n := by unfold mn; omega
theorem cnt_lt {F T : Int} (k : Nat) : (mn F + 7 * (k : Int) ≤ T) ↔ k < cnt F T := by
  have b := mn_bd F
  unfold cnt; omega
theorem cnt_bd {F T : Int} (h1 : F + 27 ≤ T) (h2 : T ≤ F + 30) : 4 ≤ cnt F T ∧ cnt F T ≤ 6 := by
  have b := mn_bd F
  unfold cnt; omega
/-- A leaf. -/
def leaf (F T : Int) (p : Int → Bool) : List ByteArray := rws F T p (cnt F T)
theorem leaf_len (F T : Int) (p : Int → Bool) : (leaf F T p).length = cnt F T := rws_len _ _ _ _
theorem tb_app (a b : List UInt8) : tb a ++ tb b = tb (a ++ b) := ba_app a b
theorem tb_size (l : List UInt8) : (tb l).size = l.length := by show l.toArray.size = _; simp
end Go.Proofs.YtikpfeaidgeebaaDoor.Mo
