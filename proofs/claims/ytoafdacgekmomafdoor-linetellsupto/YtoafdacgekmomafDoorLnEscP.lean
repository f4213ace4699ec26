/-
  What is proved here: plain facts on escaped texts: what is escaped is read as it was, and what is read is escaped just so (no program).
-/
namespace Go.Proofs.YtoafdacgekmomafDoor
namespace Ln

/-- The letter of a byte that is marked. -/
def lof (b : UInt8) : Option UInt8 := if b = 92 then some 92 else if b = 59 then some 59 else if b = 44 then some 44 else if b = 10 then some 110 else none
/-- The byte of a letter. -/
def bof (c : UInt8) : Option UInt8 := if c = 92 then some 92 else if c = 59 then some 59 else if c = 44 then some 44 else if c = 110 then some 10 else none
theorem lof_bof {b c : UInt8} (h : lof b = some c) : bof c = some b := by
  unfold lof at h
  split at h
  · cases h; subst b; rfl
  split at h
  · cases h; subst b; rfl
  split at h
  · cases h; subst b; rfl
  split at h
  · cases h; subst b; rfl
  cases h
theorem bof_lof {b c : UInt8} (h : bof c = some b) : lof b = some c := by
  unfold bof at h
  split at h
  · cases h; subst c; rfl
  split at h
  · cases h; subst c; rfl
  split at h
  · cases h; subst c; rfl
  split at h
  · cases h; subst c; rfl
  cases h
/-- One byte, escaped. -/
def esc1 (b : UInt8) : List UInt8 := match lof b with
  | some c => [92, c]
  | none => [b]
/-- A text, escaped. -/
def esc (l : List UInt8) : List UInt8 := l.flatMap esc1
theorem esc1_some {b c : UInt8} (h : lof b = some c) : esc1 b = [92, c] := by unfold esc1; rw [h]
theorem esc1_none {b : UInt8} (h : lof b = none) : esc1 b = [b] := by unfold esc1; rw [h]
theorem esc_len (l : List UInt8) : (esc l).length ≤ 2 * l.length := by
  induction l with
  | nil => simp [esc]
  | cons b r ih =>
    show (esc1 b ++ esc r).length ≤ _
    rw [List.length_append, List.length_cons]
    have : (esc1 b).length ≤ 2 := by unfold esc1; split <;> simp
    omega
theorem esc_snoc (l : List UInt8) (b : UInt8) : esc (l ++ [b]) = esc l ++ esc1 b := by simp [esc]
/-- The first byte that an escaped text stands for, and how long it is written there; 0: none. -/
def fb : List UInt8 → UInt8 × Nat
  | [] => (0, 0)
  | b :: r => match lof b with
    | none => (b, 1)
    | some _ => if b = 92 then match r with
        | [] => (0, 0)
        | c :: _ => match bof c with
          | some p => (p, 2)
          | none => (0, 0)
      else (0, 0)
theorem fb_plain {b : UInt8} {r : List UInt8} (h : lof b = none) : fb (b :: r) = (b, 1) := by simp [fb, h]
theorem fb_other {b c : UInt8} {r : List UInt8} (h : lof b = some c) (hb : b ≠ 92) : fb (b :: r) = (0, 0) := by simp [fb, h, hb]
theorem lof_92 : lof 92 = some 92 := rfl
theorem fb_last : fb [92] = (0, 0) := by simp [fb, lof_92]
theorem fb_bad {d : UInt8} {r : List UInt8} (h : bof d = none) : fb (92 :: d :: r) = (0, 0) := by simp [fb, lof_92, h]
theorem fb_two {d p : UInt8} {r : List UInt8} (h : bof d = some p) : fb (92 :: d :: r) = (p, 2) := by simp [fb, lof_92, h]
theorem fb_le : ∀ (l : List UInt8), (fb l).2 ≤ l.length
  | [] => Nat.le_refl _
  | b :: r => by
    cases hl : lof b with
    | none => rw [fb_plain hl]; simp
    | some c =>
      by_cases hb : b = 92
      · subst hb
        cases r with
        | nil => rw [fb_last]; simp
        | cons d r =>
          cases hd : bof d with
          | none => rw [fb_bad hd]; simp
          | some p => rw [fb_two hd]; simp
      · rw [fb_other hl hb]; simp
/-- What is read of an escaped text. -/
def pln (l : List UInt8) : Option (List UInt8) :=
  if l = [] then some [] else if _h : (fb l).2 = 0 then none else (pln (l.drop (fb l).2)).map ((fb l).1 :: ·)
termination_by l.length
decreasing_by
  have := fb_le l
  rw [List.length_drop]
  omega
theorem pln_nil : pln [] = some [] := by rw [pln]; rfl
theorem pln_no {l : List UInt8} (h : l ≠ []) (h0 : (fb l).2 = 0) : pln l = none := by rw [pln, if_neg h, dif_pos h0]
theorem pln_yes {l : List UInt8} (h : l ≠ []) (h0 : ¬ (fb l).2 = 0) : pln l = (pln (l.drop (fb l).2)).map ((fb l).1 :: ·) := by rw [pln, if_neg h, dif_neg h0]
theorem fb_esc (b : UInt8) (r : List UInt8) : fb (esc1 b ++ r) = (b, (esc1 b).length) := by
  cases h : lof b with
  | none =>
    rw [esc1_none h]
    exact fb_plain h
  | some c =>
    rw [esc1_some h]
    show fb (92 :: c :: r) = _
    exact fb_two (lof_bof h)
theorem esc1_ne (b : UInt8) : (esc1 b).length ≠ 0 := by unfold esc1; split <;> simp
theorem pln_esc : ∀ (l : List UInt8), pln (esc l) = some l
  | [] => pln_nil
  | b :: r => by
    have e : esc (b :: r) = esc1 b ++ esc r := rfl
    have f := fb_esc b (esc r)
    have n1 : esc1 b ++ esc r ≠ [] := by
      intro k
      exact esc1_ne b (by rw [(List.append_eq_nil_iff.1 k).1]; rfl)
    rw [e, pln_yes n1 (by rw [f]; exact esc1_ne b), f]
    show (pln ((esc1 b ++ esc r).drop (esc1 b).length)).map _ = _
    rw [List.drop_left, pln_esc r]
    rfl
/-- What the first byte stands for is written just so. -/
theorem fb_back : ∀ {l : List UInt8}, (fb l).2 ≠ 0 → esc1 (fb l).1 ++ l.drop (fb l).2 = l
  | [], h => absurd rfl h
  | b :: r, h => by
    cases hl : lof b with
    | none => rw [fb_plain hl, esc1_none hl]; rfl
    | some c =>
      by_cases hb : b = 92
      · subst hb
        cases r with
        | nil => exact absurd (by rw [fb_last]) h
        | cons d r =>
          cases hd : bof d with
          | none => exact absurd (by rw [fb_bad hd]) h
          | some p => rw [fb_two hd, esc1_some (bof_lof hd)]; rfl
      · exact absurd (by rw [fb_other hl hb]) h
theorem pln_back : ∀ (n : Nat) {l c : List UInt8}, l.length ≤ n → pln l = some c → esc c = l
  | n, [], c, _, h => by rw [pln_nil] at h; cases h; rfl
  | 0, _ :: _, _, hn, _ => by simp at hn
  | n + 1, b :: r, c, hn, h => by
    by_cases h0 : (fb (b :: r)).2 = 0
    · rw [pln_no (by simp) h0] at h; cases h
    · rw [pln_yes (by simp) h0] at h
      cases hp : pln ((b :: r).drop (fb (b :: r)).2) with
      | none => rw [hp] at h; cases h
      | some d =>
        rw [hp] at h
        cases h
        have ih := pln_back n (by rw [List.length_drop]; simp at hn ⊢; omega) hp
        show esc1 _ ++ esc d = _
        rw [ih]
        exact fb_back h0
theorem pln_len : ∀ (n : Nat) {l c : List UInt8}, l.length ≤ n → pln l = some c → c.length ≤ l.length
  | n, [], c, _, h => by rw [pln_nil] at h; cases h; exact Nat.le_refl _
  | 0, _ :: _, _, hn, _ => by simp at hn
  | n + 1, b :: r, c, hn, h => by
    by_cases h0 : (fb (b :: r)).2 = 0
    · rw [pln_no (by simp) h0] at h; cases h
    · rw [pln_yes (by simp) h0] at h
      cases hp : pln ((b :: r).drop (fb (b :: r)).2) with
      | none => rw [hp] at h; cases h
      | some d =>
        rw [hp] at h
        cases h
        have ih := pln_len n (by rw [List.length_drop]; simp at hn ⊢; omega) hp
        rw [List.length_drop] at ih
        have := fb_le (b :: r)
        show d.length + 1 ≤ _
        omega
/-- How far an escaped text is read: what is read of the rest, behind what was read. -/
def PK (s x t : List UInt8) : Prop := pln s = (pln x).map (t ++ ·)
theorem PK_start (s : List UInt8) : PK s s [] := by
  unfold PK
  cases pln s <;> rfl
theorem PK_next {s x t : List UInt8} (h : PK s x t) (hx : x ≠ []) (h0 : ¬ (fb x).2 = 0) : PK s (x.drop (fb x).2) (t ++ [(fb x).1]) := by
  unfold PK at h ⊢
  rw [h, pln_yes hx h0]
  cases pln (x.drop (fb x).2) <;> simp
theorem PK_no {s x t : List UInt8} (h : PK s x t) (hx : x ≠ []) (h0 : (fb x).2 = 0) : pln s = none := by
  unfold PK at h
  rw [h, pln_no hx h0]; rfl
theorem PK_end {s t : List UInt8} (h : PK s [] t) : pln s = some t := by
  unfold PK at h
  rw [h, pln_nil]; simp

end Ln
end Go.Proofs.YtoafdacgekmomafDoor
