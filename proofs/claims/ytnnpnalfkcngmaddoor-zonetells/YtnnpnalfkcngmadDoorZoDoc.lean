/-
  What is proved here: plain facts on the document's way to tell when it is so in a zone: it is the program's.
-/
import Derived.Test.YtnnpnalfkcngmadDoorZoPure
namespace Go.Proofs.YtnnpnalfkcngmadDoor
namespace Zo

/-- How far it is ahead by the last of the first shifts that has begun. -/
def lah (a : Int) (l : List (Int × Int)) (u : Int) : Nat → Int
  | 0 => a
  | i + 1 => if (l.getD i (0, 0)).1 ≤ u then (l.getD i (0, 0)).2 else lah a l u i
theorem lah_low {a : Int} {l : List (Int × Int)} {u : Int} : ∀ i, i ≤ beg u l → lah a l u i = zah a l i
  | 0, _ => rfl
  | i + 1, h => by
    unfold lah
    rw [if_pos (beg_all u l i (by omega))]
    rfl
theorem begun_not {l : List (Int × Int)} {u : Int} (h : ∀ j, j < l.length → sf l j = 0) : ∀ m, beg u l + m < l.length → u < (l.getD (beg u l + m) (0, 0)).1
  | 0, q => beg_end u l q
  | m + 1, q => by
    have ih := begun_not (u := u) h m (by omega)
    have := (sf_open (h (beg u l + (m + 1)) q)).2.2 (by omega)
    rw [show beg u l + (m + 1) - 1 = beg u l + m by omega] at this
    omega
theorem lah_high {a : Int} {l : List (Int × Int)} {u : Int} (h : ∀ j, j < l.length → sf l j = 0) : ∀ m, beg u l + m ≤ l.length → lah a l u (beg u l + m) = zah a l (beg u l)
  | 0, _ => lah_low _ (Nat.le_refl _)
  | m + 1, q => by
    show (if (l.getD (beg u l + m) (0, 0)).1 ≤ u then _ else lah a l u (beg u l + m)) = _
    have := begun_not (u := u) h m (by omega)
    rw [if_neg (by omega), lah_high h m (by omega)]
theorem lah_all {a : Int} {l : List (Int × Int)} {u : Int} (h : zf a l = 0) : lah a l u l.length = zah a l (beg u l) := by
  have b := beg_le u l
  have := lah_high (a := a) (u := u) (zf_open h).2.2 (l.length - beg u l) (by omega)
  rw [show beg u l + (l.length - beg u l) = l.length by omega] at this
  exact this
/-- How far it is ahead, each, of none and the first shifts. -/
def ahs (a : Int) (l : List (Int × Int)) (k : Nat) : List Int := a :: (l.take k).map (·.2)
theorem ahs_next (a : Int) (l : List (Int × Int)) (k : Nat) (h : k < l.length) : ahs a l (k + 1) = ahs a l k ++ [(l.getD k (0, 0)).2] := by
  unfold ahs
  rw [List.take_succ_eq_append_getElem h, List.map_append, List.getD_eq_getElem?_getD, List.getElem?_eq_getElem h]
  rfl
theorem ahs_len (a : Int) (l : List (Int × Int)) (k : Nat) (h : k ≤ l.length) : (ahs a l k).length = k + 1 := by
  unfold ahs
  rw [List.length_cons, List.length_map, List.length_take]
  omega
theorem zah_mem (a : Int) (l : List (Int × Int)) (k : Nat) (h : k ≤ l.length) : zah a l k ∈ ahs a l l.length := by
  unfold zah ahs
  split
  · simp
  · rw [List.take_length]
    refine List.mem_cons_of_mem _ ?_
    have hj : k - 1 < l.length := by omega
    rw [List.getD_eq_getElem?_getD, List.getElem?_eq_getElem hj]
    exact List.mem_map.2 ⟨_, List.getElem_mem hj, rfl⟩
/-- Is it so there, that much ahead? -/
def hitD (a : Int) (l : List (Int × Int)) (t n : Int) : Bool := (ahs a l l.length).contains n && (isT (t - n) && (zah a l (beg (t - n) l) == n))
def dtw (a : Int) (l : List (Int × Int)) (t : Int) : Nat → List Int
  | 0 => []
  | c + 1 => if hitD a l t (900 - (c : Int)) = true then dtw a l t c ++ [t - (900 - (c : Int))] else dtw a l t c
theorem dtw_mem {a : Int} {l : List (Int × Int)} {t u : Int} : ∀ {c : Nat}, u ∈ dtw a l t c ↔ (900 - (c : Int) < t - u ∧ t - u ≤ 900) ∧ hitD a l t (t - u) = true
  | 0 => by
    simp only [dtw, List.not_mem_nil, false_iff]
    intro h
    omega
  | c + 1 => by
    have ih := dtw_mem (a := a) (l := l) (t := t) (u := u) (c := c)
    unfold dtw
    split
    · rename_i hh
      rw [List.mem_append, ih]
      constructor
      · rintro (⟨g1, g2⟩ | g)
        · exact ⟨by omega, g2⟩
        · have e : u = t - (900 - (c : Int)) := by simpa using g
          rw [show t - u = 900 - (c : Int) by omega]
          exact ⟨by omega, hh⟩
      · rintro ⟨g1, g2⟩
        by_cases q : t - u = 900 - (c : Int)
        · exact Or.inr (by simp; omega)
        · exact Or.inl ⟨by omega, g2⟩
    · rename_i hh
      rw [ih]
      constructor
      · rintro ⟨g1, g2⟩; exact ⟨by omega, g2⟩
      · rintro ⟨g1, g2⟩
        by_cases q : t - u = 900 - (c : Int)
        · rw [q] at g2; exact absurd g2 hh
        · exact ⟨by omega, g2⟩
theorem dtw_rise (a : Int) (l : List (Int × Int)) (t : Int) : ∀ c, (dtw a l t c).Pairwise (· < ·)
  | 0 => List.Pairwise.nil
  | c + 1 => by
    have ih := dtw_rise a l t c
    unfold dtw
    split
    · rw [List.pairwise_append]
      refine ⟨ih, by simp, fun x hx y hy => ?_⟩
      have e : y = t - (900 - (c : Int)) := by simpa using hy
      have := (dtw_mem.1 hx).1
      omega
    · exact ih
theorem dtw_len (a : Int) (l : List (Int × Int)) (t : Int) : ∀ c, (dtw a l t c).length ≤ c
  | 0 => Nat.le_refl _
  | c + 1 => by
    have ih := dtw_len a l t c
    unfold dtw
    split
    · rw [List.length_append]; simp; omega
    · omega
theorem dtw_twi {a : Int} {l : List (Int × Int)} {t : Int} (h : zf a l = 0) : dtw a l t 1801 = twi a l t := by
  refine rise_ext (dtw_rise a l t _) (twi_rise a l t) fun u => ?_
  rw [dtw_mem, twi_mem]
  have hb := beg_le u l
  have z := zah_in h hb
  have hm := zah_mem a l _ hb
  unfold hitD
  rw [Bool.and_eq_true, Bool.and_eq_true, List.contains_eq_mem, decide_eq_true_iff, show t - (t - u) = u by omega, beq_iff_eq]
  constructor
  · rintro ⟨_, _, g1, g2⟩; exact ⟨g1, by omega⟩
  · rintro ⟨g1, g2⟩
    have e : t - u = zah a l (beg u l) := by omega
    rw [e]
    exact ⟨by omega, hm, g1, rfl⟩
end Zo
end Go.Proofs.YtnnpnalfkcngmadDoor
