/-
  What is proved here: plain facts on zones: what is wrong with one, how many shifts have begun, how far it is ahead, and when it is so there.
-/
import Derived.Test.YtkmmncebekcegaaGreatDoorCal
namespace Go.Proofs.YtkmmncebekcegaaGreatDoor
namespace Zo

/-- The fault of a shift, behind those ahead of it. -/
def sf (l : List (Int × Int)) (i : Nat) : Int :=
  if ¬ (1 ≤ (l.getD i (0, 0)).1 ∧ (l.getD i (0, 0)).1 ≤ 157785119) ∨ ¬ (-900 ≤ (l.getD i (0, 0)).2 ∧ (l.getD i (0, 0)).2 ≤ 900) then 1
  else if 0 < i ∧ (l.getD i (0, 0)).1 - (l.getD (i - 1) (0, 0)).1 < 1440 then 7 else 0
/-- The first fault of so many shifts. -/
def sfl (l : List (Int × Int)) : Nat → Int
  | 0 => 0
  | n + 1 => if sfl l n = 0 then sf l n else sfl l n
/-- The fault of a zone. -/
def zf (a : Int) (l : List (Int × Int)) : Int :=
  if 20 < l.length then 4 else if ¬ (-900 ≤ a ∧ a ≤ 900) then 1 else sfl l l.length
/-- How many shifts have begun. -/
def beg (u : Int) : List (Int × Int) → Nat
  | [] => 0
  | x :: l => if x.1 ≤ u then beg u l + 1 else 0
/-- How far it is ahead while so many have begun. -/
def zah (a : Int) (l : List (Int × Int)) (k : Nat) : Int := if k = 0 then a else (l.getD (k - 1) (0, 0)).2
/-- Is a number a time? -/
def isT (t : Int) : Bool := decide (1 ≤ t ∧ t ≤ 157785119)
/-- Does it count while so many have begun? -/
def hit (a : Int) (l : List (Int × Int)) (t : Int) (k : Nat) : Bool := isT (t - zah a l k) && (beg (t - zah a l k) l == k)
/-- The times at which it is so there, while fewer than so many have begun. -/
def twc (a : Int) (l : List (Int × Int)) (t : Int) : Nat → List Int
  | 0 => []
  | k + 1 => if hit a l t k then twc a l t k ++ [t - zah a l k] else twc a l t k
def twi (a : Int) (l : List (Int × Int)) (t : Int) : List Int := twc a l t (l.length + 1)

theorem sfl_zero {l : List (Int × Int)} : ∀ {n : Nat}, sfl l n = 0 → ∀ j, j < n → sf l j = 0
  | 0, _, j, hj => absurd hj (Nat.not_lt_zero _)
  | n + 1, h, j, hj => by
    unfold sfl at h
    split at h
    · rename_i h0
      rcases Nat.lt_or_ge j n with g | g
      · exact sfl_zero h0 j g
      · rw [show j = n by omega]; exact h
    · rename_i h0; exact absurd h h0
theorem sfl_one {l : List (Int × Int)} {n : Nat} (h : sfl l n = 0) : sfl l (n + 1) = sf l n := by
  show (if sfl l n = 0 then sf l n else sfl l n) = _
  rw [if_pos h]
theorem sfl_more {l : List (Int × Int)} {n : Nat} (h : ¬ sfl l n = 0) : ∀ m, sfl l (n + m) = sfl l n
  | 0 => rfl
  | m + 1 => by
    show (if sfl l (n + m) = 0 then sf l (n + m) else sfl l (n + m)) = _
    rw [sfl_more h m, if_neg h]
theorem sfl_end {l : List (Int × Int)} {i n : Nat} (hi : i < n) (h : sfl l i = 0) (g : ¬ sf l i = 0) : sfl l n = sf l i := by
  have e := sfl_one h
  have := sfl_more (l := l) (n := i + 1) (by rw [e]; exact g) (n - (i + 1))
  rw [show i + 1 + (n - (i + 1)) = n by omega] at this
  rw [this, e]
theorem sf_one {l : List (Int × Int)} {i : Nat} (h : ¬ (1 ≤ (l.getD i (0, 0)).1 ∧ (l.getD i (0, 0)).1 ≤ 157785119) ∨ ¬ (-900 ≤ (l.getD i (0, 0)).2 ∧ (l.getD i (0, 0)).2 ≤ 900)) : sf l i = 1 := by unfold sf; rw [if_pos h]
theorem sf_seven {l : List (Int × Int)} {i : Nat} (h : (1 ≤ (l.getD i (0, 0)).1 ∧ (l.getD i (0, 0)).1 ≤ 157785119) ∧ (-900 ≤ (l.getD i (0, 0)).2 ∧ (l.getD i (0, 0)).2 ≤ 900)) (g : 0 < i ∧ (l.getD i (0, 0)).1 - (l.getD (i - 1) (0, 0)).1 < 1440) : sf l i = 7 := by
  unfold sf; rw [if_neg (by omega), if_pos g]
theorem sf_none {l : List (Int × Int)} {i : Nat} (h : (1 ≤ (l.getD i (0, 0)).1 ∧ (l.getD i (0, 0)).1 ≤ 157785119) ∧ (-900 ≤ (l.getD i (0, 0)).2 ∧ (l.getD i (0, 0)).2 ≤ 900)) (g : ¬ (0 < i ∧ (l.getD i (0, 0)).1 - (l.getD (i - 1) (0, 0)).1 < 1440)) : sf l i = 0 := by
  unfold sf; rw [if_neg (by omega), if_neg g]
theorem sf_open {l : List (Int × Int)} {i : Nat} (h : sf l i = 0) : (1 ≤ (l.getD i (0, 0)).1 ∧ (l.getD i (0, 0)).1 ≤ 157785119) ∧ (-900 ≤ (l.getD i (0, 0)).2 ∧ (l.getD i (0, 0)).2 ≤ 900) ∧ (0 < i → (l.getD (i - 1) (0, 0)).1 + 1440 ≤ (l.getD i (0, 0)).1) := by
  unfold sf at h
  split at h
  · cases h
  · split at h
    · cases h
    · rename_i a b
      refine ⟨by omega, by omega, fun q => by omega⟩
theorem zf_open {a : Int} {l : List (Int × Int)} (h : zf a l = 0) : l.length ≤ 20 ∧ (-900 ≤ a ∧ a ≤ 900) ∧ ∀ j, j < l.length → sf l j = 0 := by
  unfold zf at h
  split at h
  · cases h
  · split at h
    · cases h
    · rename_i b c
      exact ⟨by omega, by omega, sfl_zero h⟩
theorem zf_vals (a : Int) (l : List (Int × Int)) : zf a l = 0 ∨ zf a l = 1 ∨ zf a l = 4 ∨ zf a l = 7 := by
  have : ∀ n, sfl l n = 0 ∨ sfl l n = 1 ∨ sfl l n = 7 := by
    intro n
    induction n with
    | zero => exact Or.inl rfl
    | succ n ih =>
      unfold sfl
      split
      · unfold sf
        split
        · exact Or.inr (Or.inl rfl)
        · split
          · exact Or.inr (Or.inr rfl)
          · exact Or.inl rfl
      · exact ih
  unfold zf
  split
  · omega
  · split
    · omega
    · rcases this l.length with h | h | h <;> omega
theorem zah_in {a : Int} {l : List (Int × Int)} (h : zf a l = 0) {k : Nat} (hk : k ≤ l.length) : -900 ≤ zah a l k ∧ zah a l k ≤ 900 := by
  obtain ⟨_, h2, h3⟩ := zf_open h
  unfold zah
  split
  · exact h2
  · exact (sf_open (h3 (k - 1) (by omega))).2.1
theorem beg_le (u : Int) : ∀ l, beg u l ≤ l.length
  | [] => Nat.le_refl _
  | x :: l => by
    unfold beg
    split
    · have := beg_le u l; simp; omega
    · omega
theorem beg_all (u : Int) : ∀ l j, j < beg u l → ((l.getD j (0, 0)).1 : Int) ≤ u
  | [], j, h => absurd h (Nat.not_lt_zero _)
  | x :: l, j, h => by
    unfold beg at h
    split at h
    · rename_i hx
      match j, h with
      | 0, _ => exact hx
      | j + 1, h => exact beg_all u l j (by omega)
    · exact absurd h (Nat.not_lt_zero _)
theorem beg_end (u : Int) : ∀ l, beg u l < l.length → u < (l.getD (beg u l) (0, 0)).1
  | [], h => absurd h (Nat.not_lt_zero _)
  | x :: l, h => by
    by_cases hx : x.1 ≤ u
    · have e : beg u (x :: l) = beg u l + 1 := by show (if x.1 ≤ u then beg u l + 1 else 0) = _; rw [if_pos hx]
      rw [e] at h ⊢
      exact beg_end u l (by simpa using h)
    · have e : beg u (x :: l) = 0 := by show (if x.1 ≤ u then beg u l + 1 else 0) = _; rw [if_neg hx]
      rw [e]
      show u < x.1
      omega
theorem beg_of {u : Int} : ∀ {l : List (Int × Int)} {k : Nat}, k ≤ l.length → (∀ j, j < k → ((l.getD j (0, 0)).1 : Int) ≤ u) → (k < l.length → u < (l.getD k (0, 0)).1) → beg u l = k := by
  intro l k hk h1 h2
  have b1 := beg_le u l
  have b2 := beg_all u l
  have b3 := beg_end u l
  rcases Nat.lt_trichotomy (beg u l) k with g | g | g
  · have := h1 _ g; have := b3 (by omega); omega
  · exact g
  · have := b2 _ g; have := h2 (by omega); omega
theorem beg_mono {u v : Int} (h : u ≤ v) (l : List (Int × Int)) : beg u l ≤ beg v l := by
  rcases Nat.lt_or_ge (beg v l) (beg u l) with g | g
  · have h1 := beg_all u l _ g
    have h2 := beg_end v l (by have := beg_le u l; omega)
    omega
  · exact g
/-- What is one of those. -/
theorem twc_mem {a : Int} {l : List (Int × Int)} {t u : Int} : ∀ {n : Nat}, u ∈ twc a l t n ↔ beg u l < n ∧ isT u = true ∧ u = t - zah a l (beg u l)
  | 0 => by simp [twc]
  | n + 1 => by
    have ih := twc_mem (a := a) (l := l) (t := t) (u := u) (n := n)
    unfold twc
    split
    · rename_i hh
      unfold hit at hh
      rw [Bool.and_eq_true] at hh
      obtain ⟨h1, h2⟩ := hh
      have h2' : beg (t - zah a l n) l = n := by simpa using h2
      rw [List.mem_append, ih]
      constructor
      · rintro (⟨g1, g2, g3⟩ | g)
        · exact ⟨by omega, g2, g3⟩
        · obtain rfl : u = t - zah a l n := by simpa using g
          rw [h2']
          exact ⟨by omega, h1, rfl⟩
      · rintro ⟨g1, g2, g3⟩
        rcases Nat.lt_or_ge (beg u l) n with q | q
        · exact Or.inl ⟨q, g2, g3⟩
        · have e : beg u l = n := by omega
          rw [e] at g3
          exact Or.inr (by simp [g3])
    · rename_i hh
      rw [ih]
      constructor
      · rintro ⟨g1, g2, g3⟩; exact ⟨by omega, g2, g3⟩
      · rintro ⟨g1, g2, g3⟩
        rcases Nat.lt_or_ge (beg u l) n with q | q
        · exact ⟨q, g2, g3⟩
        · have e : beg u l = n := by omega
          exfalso
          apply hh
          rw [e] at g3
          unfold hit
          rw [← g3, g2, e]
          simp
theorem twi_mem {a : Int} {l : List (Int × Int)} {t u : Int} : u ∈ twi a l t ↔ isT u = true ∧ u = t - zah a l (beg u l) := by
  unfold twi
  rw [twc_mem]
  have := beg_le u l
  constructor
  · rintro ⟨_, h⟩; exact h
  · intro h; exact ⟨by omega, h⟩
theorem twc_len (a : Int) (l : List (Int × Int)) (t : Int) : ∀ n, (twc a l t n).length ≤ n
  | 0 => Nat.le_refl _
  | n + 1 => by
    have ih := twc_len a l t n
    unfold twc
    split
    · rw [List.length_append]; simp; omega
    · omega
theorem twc_rise (a : Int) (l : List (Int × Int)) (t : Int) : ∀ n, (twc a l t n).Pairwise (· < ·)
  | 0 => List.Pairwise.nil
  | n + 1 => by
    have ih := twc_rise a l t n
    unfold twc
    split
    · rename_i hh
      unfold hit at hh
      rw [Bool.and_eq_true] at hh
      have h2' : beg (t - zah a l n) l = n := by simpa using hh.2
      rw [List.pairwise_append]
      refine ⟨ih, by simp, fun x hx y hy => ?_⟩
      obtain rfl : y = t - zah a l n := by simpa using hy
      have hb := (twc_mem.1 hx).1
      rcases Int.lt_or_le x (t - zah a l n) with g | g
      · exact g
      · have := beg_mono g l
        omega
    · exact ih
theorem twi_rise (a : Int) (l : List (Int × Int)) (t : Int) : (twi a l t).Pairwise (· < ·) := twc_rise a l t _
theorem twi_len (a : Int) (l : List (Int × Int)) (t : Int) : (twi a l t).length ≤ l.length + 1 := twc_len a l t _
/-- Two lists that rise, and have the same in them, are the same. -/
theorem rise_ext : ∀ {x y : List Int}, x.Pairwise (· < ·) → y.Pairwise (· < ·) → (∀ u, u ∈ x ↔ u ∈ y) → x = y
  | [], [], _, _, _ => rfl
  | [], b :: y, _, _, h => absurd ((h b).2 (by simp)) (by simp)
  | a :: x, [], _, _, h => absurd ((h a).1 (by simp)) (by simp)
  | a :: x, b :: y, hx, hy, h => by
    rw [List.pairwise_cons] at hx hy
    have e : a = b := by
      have h1 := (h a).1 (by simp)
      have h2 := (h b).2 (by simp)
      rcases List.mem_cons.1 h1 with q | q
      · exact q
      · rcases List.mem_cons.1 h2 with p | p
        · exact p.symm
        · have := hx.1 _ p; have := hy.1 _ q; omega
    subst e
    have r : x = y := rise_ext hx.2 hy.2 fun u => by
      constructor
      · intro hu
        have := (h u).1 (List.mem_cons_of_mem _ hu)
        rcases List.mem_cons.1 this with q | q
        · have := hx.1 _ hu; omega
        · exact q
      · intro hu
        have := (h u).2 (List.mem_cons_of_mem _ hu)
        rcases List.mem_cons.1 this with q | q
        · have := hy.1 _ hu; omega
        · exact q
    rw [r]
end Zo
end Go.Proofs.YtkmmncebekcegaaGreatDoor
