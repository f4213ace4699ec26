/-
  What is proved here: what package month's Cell answers of any list of lines (a contract over the translation).
-/
import Derived.Test.YtikpfeaidgeebaaDoorMoRead
import Derived.Test.YtikpfeaidgeebaaDoorLnTxs
namespace Go.Proofs.YtikpfeaidgeebaaDoor.Mo
open Go.RowKit Cal Txt

/-- The bytes of a place. -/
def at3 (s : ByteArray) (c : Nat) : List UInt8 := (s.extract (3 * c) (3 * c + 3)).data.toList
/-- What stands in a line at a place, and its fault. -/
def cel (l : List ByteArray) (r c : Int) : Int × Int :=
  if r < 0 ∨ (l.length : Int) ≤ r ∨ c < 0 ∨ 6 < c then (0, 1) else if ¬ (l.getD r.toNat ByteArray.empty).size = 21 then (0, 2) else rdL (at3 (l.getD r.toNat ByteArray.empty) c.toNat)
theorem cel_out {l : List ByteArray} {r c : Int} (h : r < 0 ∨ (l.length : Int) ≤ r ∨ c < 0 ∨ 6 < c) : cel l r c = (0, 1) := if_pos h
theorem cel_long {l : List ByteArray} {r c : Int} (h : ¬ (r < 0 ∨ (l.length : Int) ≤ r ∨ c < 0 ∨ 6 < c)) (hs : ¬ (l.getD r.toNat ByteArray.empty).size = 21) : cel l r c = (0, 2) := by
  unfold cel; rw [if_neg h, if_pos hs]
theorem cel_in {l : List ByteArray} {r c : Int} (h : ¬ (r < 0 ∨ (l.length : Int) ≤ r ∨ c < 0 ∨ 6 < c)) (hs : (l.getD r.toNat ByteArray.empty).size = 21) : cel l r c = rdL (at3 (l.getD r.toNat ByteArray.empty) c.toNat) := by
  unfold cel; rw [if_neg h, if_neg (fun q => q hs)]
theorem ex_size {s : ByteArray} {a b : Nat} (h : a + 3 = b) (hb : b ≤ s.size) : (s.extract a b).size = 3 := by
  rw [ByteArray.size_extract]; omega
theorem read_at (s : ByteArray) (c a b : Nat) (ha : a = 3 * c) (hb : b = 3 * c + 3) (hs : s.size = 21) (hc : c ≤ 6) (R : Int × Int) (hR : R = rdL (at3 s c)) (w : World) :
    Calls Tryd.prog 35 #[.string (s.extract a b)] w fun e w' => e = .returned (.tuple #[.int .i64 R.1, fault R.2]) ∧ Below w.heap.size w w' := by
  subst ha
  subst hb
  subst hR
  exact read_any _ w (ex_size rfl (by omega))
set_option maxRecDepth 100000 in
set_option maxHeartbeats 2000000 in
theorem cell_any (l : List ByteArray) (v : Value) (r c : Int) (w : World) (hv : Txs w v l) :
    Calls Tryd.prog 15 #[v, .int .i64 r, .int .i64 c] w fun e w' => e = .returned (.tuple #[.int .i64 (cel l r c).1, fault (cel l r c).2]) ∧ Below w.heap.size w w' := by
  obtain ⟨a, cap, rfl, hc⟩ := hv
  by_cases h : r < 0 ∨ (l.length : Int) ≤ r ∨ c < 0 ∨ 6 < c
  · have N := Lib.hid (cel_out h)
    generalize cel l r c = R at N ⊢
    clear hc
    rcases (by omega : r < 0 ∨ (0 ≤ r ∧ (l.length : Int) ≤ r) ∨ (0 ≤ r ∧ r < (l.length : Int) ∧ c < 0) ∨ (0 ≤ r ∧ r < (l.length : Int) ∧ 0 ≤ c ∧ 6 < c)) with g | ⟨g1, g⟩ | ⟨g1, g2, g⟩ | ⟨g1, g2, g3, g⟩
    all_goals
      clear h
      go_enter Tryd.func15, Tryd.ntmps15
      go_wp2
      go_ret2
      exact ⟨by rw [N.out]; rfl, Below.refl _ _⟩
  obtain ⟨r1, r2, c1, c2⟩ : 0 ≤ r ∧ r < (l.length : Int) ∧ 0 ≤ c ∧ c ≤ 6 := by omega
  obtain ⟨k, rfl⟩ := Int.eq_ofNat_of_zero_le r1
  have hk : k < l.length := by omega
  rcases hc with hc | ⟨b, off, rfl, hc⟩
  · rw [hc] at hk; simp at hk
  have k1 := hc k hk
  clear hc
  by_cases hs : (l.getD k ByteArray.empty).size = 21
  · have N := Lib.hid (cel_in h (by rw [Int.toNat_natCast]; exact hs))
    rw [Int.toNat_natCast] at N
    generalize cel l k c = R at N ⊢
    generalize l.getD k ByteArray.empty = s at k1 hs N
    clear h r1
    rcases (by omega : c = 0 ∨ c = 1 ∨ c = 2 ∨ c = 3 ∨ c = 4 ∨ c = 5 ∨ c = 6) with rfl | rfl | rfl | rfl | rfl | rfl | rfl
    all_goals
      go_enter Tryd.func15, Tryd.ntmps15
      go_wp2_with fail
      refine (read_at s _ _ _ (by rfl) (by rfl) hs (by decide) R N.out _).mono ?_
      rintro e w1 ⟨rfl, hb⟩
      have B1 := Lib.hid hb
      clear hb
      go_wp2
      go_ret2
      exact ⟨rfl, B1.out⟩
  · have N := Lib.hid (cel_long h (by rw [Int.toNat_natCast]; exact hs))
    generalize cel l k c = R at N ⊢
    generalize l.getD k ByteArray.empty = s at k1 hs
    clear h
    go_enter Tryd.func15, Tryd.ntmps15
    go_wp2
    go_ret2
    exact ⟨by rw [N.out]; rfl, Below.refl _ _⟩
end Go.Proofs.YtikpfeaidgeebaaDoor.Mo
