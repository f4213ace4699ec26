/-
  What is proved here: plain facts on texts in lines: how one is escaped and read again, folded and unfolded (no program).
-/
namespace Go.Proofs.YtoafdacgekmomafDoor
namespace Ln

/-! Folding. -/
/-- What is left of a text, in pieces. -/
def fr (l : List UInt8) : List (List UInt8) := if _h : l = [] then [] else (32 :: l.take 39) :: fr (l.drop 39)
termination_by l.length
decreasing_by
  rw [List.length_drop]
  have := List.length_pos_iff.2 _h
  omega
theorem fr_nil : fr [] = [] := by rw [fr]; rfl
theorem fr_cons {l : List UInt8} (h : l ≠ []) : fr l = (32 :: l.take 39) :: fr (l.drop 39) := by rw [fr, dif_neg h]
/-- A text in pieces. -/
def fold (l : List UInt8) : List (List UInt8) := l.take 40 :: fr (l.drop 40)
theorem fr_len : ∀ (n : Nat) (l : List UInt8), l.length ≤ n → (fr l).length = (l.length + 38) / 39
  | n, [], _ => by rw [fr_nil]; rfl
  | 0, _ :: _, h => by simp at h
  | n + 1, b :: r, h => by
    rw [fr_cons (by simp), List.length_cons, fr_len n ((b :: r).drop 39) (by rw [List.length_drop]; simp at h ⊢; omega), List.length_drop]
    simp only [List.length_cons]
    omega
theorem fold_len (l : List UInt8) : (fold l).length = 1 + (l.length - 40 + 38) / 39 := by
  unfold fold
  rw [List.length_cons, fr_len _ _ (Nat.le_refl _), List.length_drop]
  omega
theorem fr_most : ∀ (n : Nat) (l : List UInt8), l.length ≤ n → ∀ p ∈ fr l, p.length ≤ 40
  | n, [], _, p, hp => by rw [fr_nil] at hp; cases hp
  | 0, _ :: _, h, _, _ => by simp at h
  | n + 1, b :: r, h, p, hp => by
    rw [fr_cons (by simp)] at hp
    rcases List.mem_cons.1 hp with rfl | hp
    · rw [List.length_cons, List.length_take]; omega
    · exact fr_most n _ (by rw [List.length_drop]; simp at h ⊢; omega) p hp
theorem fold_most (l : List UInt8) : ∀ p ∈ fold l, p.length ≤ 40 := by
  intro p hp
  rcases List.mem_cons.1 hp with rfl | hp
  · rw [List.length_take]; omega
  · exact fr_most _ _ (Nat.le_refl _) p hp
/-- A piece without the blank that it begins with. -/
def trim : List UInt8 → List UInt8
  | [] => []
  | b :: r => if b = 32 then r else b :: r
/-- The text of pieces. -/
def unf : List (List UInt8) → List UInt8
  | [] => []
  | p :: ps => p ++ ps.flatMap trim
theorem fr_back : ∀ (n : Nat) (l : List UInt8), l.length ≤ n → (fr l).flatMap trim = l
  | n, [], _ => by rw [fr_nil]; rfl
  | 0, _ :: _, h => by simp at h
  | n + 1, b :: r, h => by
    rw [fr_cons (by simp), List.flatMap_cons, fr_back n _ (by rw [List.length_drop]; simp at h ⊢; omega)]
    have e : trim (32 :: (b :: r).take 39) = (b :: r).take 39 := by simp [trim]
    rw [e, List.take_append_drop]
theorem unf_fold (l : List UInt8) : unf (fold l) = l := by
  show l.take 40 ++ (fr (l.drop 40)).flatMap trim = l
  rw [fr_back _ _ (Nat.le_refl _), List.take_append_drop]
/-- How far a text is folded. -/
def FK (s x : List UInt8) (xs : List (List UInt8)) : Prop := xs ++ fr x = fold s
theorem FK_start (s : List UInt8) : FK s (s.drop 40) [s.take 40] := rfl
theorem FK_next {s x : List UInt8} {xs : List (List UInt8)} (h : FK s x xs) (hx : x ≠ []) : FK s (x.drop 39) (xs ++ [32 :: x.take 39]) := by
  unfold FK at h ⊢
  rw [← h, fr_cons hx, List.append_assoc]
  rfl
theorem FK_end {s : List UInt8} {xs : List (List UInt8)} (h : FK s [] xs) : xs = fold s := by
  have := h
  unfold FK at this
  rwa [fr_nil, List.append_nil] at this
theorem FK_len {s x : List UInt8} {xs : List (List UInt8)} (h : FK s x xs) : xs.length * 39 ≤ s.length + 77 := by
  have e := congrArg List.length h
  rw [List.length_append, fold_len] at e
  omega

end Ln
end Go.Proofs.YtoafdacgekmomafDoor
