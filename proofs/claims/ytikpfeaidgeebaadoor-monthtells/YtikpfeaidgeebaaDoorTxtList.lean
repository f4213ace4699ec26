/-
  What is proved here: plain facts on texts that are cut at a byte and joined again, and on numbers with a sign that are written and read; no program is named.
-/
import Derived.Test.YtikpfeaidgeebaaDoorTxt
namespace Go.Proofs.YtikpfeaidgeebaaDoor.Txt
open Go.Lib

/-! Texts, cut at each byte c. -/
/-- A text is cut at each byte c. -/
def cutAt (c : UInt8) : List UInt8 → List (List UInt8)
  | [] => [[]]
  | b :: l => if b = c then [] :: cutAt c l else (b :: (cutAt c l).headD []) :: (cutAt c l).tail
/-- Texts, with a byte c between. -/
def joinBy (c : UInt8) : List (List UInt8) → List UInt8
  | [] => []
  | [a] => a
  | a :: b :: l => a ++ c :: joinBy c (b :: l)
theorem cutAt_ne (c : UInt8) (l : List UInt8) : cutAt c l ≠ [] := by
  cases l with
  | nil => simp [cutAt]
  | cons b l => unfold cutAt; split <;> simp
theorem joinBy_cons (c : UInt8) (a : List UInt8) {l : List (List UInt8)} (h : l ≠ []) : joinBy c (a :: l) = a ++ c :: joinBy c l := by
  cases l with
  | nil => exact absurd rfl h
  | cons b l => rfl
/-- What was cut is joined again. -/
theorem join_cut (c : UInt8) (l : List UInt8) : joinBy c (cutAt c l) = l := by
  induction l with
  | nil => rfl
  | cons b l ih =>
    unfold cutAt
    split
    · rename_i e
      rw [joinBy_cons c [] (cutAt_ne c l), ih, e]; rfl
    · cases h : cutAt c l with
      | nil => exact absurd h (cutAt_ne c l)
      | cons a r =>
        rw [h] at ih
        cases r with
        | nil => simpa [joinBy] using ih
        | cons a' r => simpa [joinBy] using ih
/-- No piece holds the byte. -/
theorem cut_not (c : UInt8) (l : List UInt8) : ∀ w ∈ cutAt c l, c ∉ w := by
  induction l with
  | nil => intro w hw; simp [cutAt] at hw; subst hw; simp
  | cons b l ih =>
    intro w hw
    unfold cutAt at hw
    split at hw
    · rcases List.mem_cons.1 hw with rfl | hw
      · simp
      · exact ih w hw
    · rename_i hb
      rcases List.mem_cons.1 hw with rfl | hw
      · have : c ∉ (cutAt c l).headD [] := by
          cases h : cutAt c l with
          | nil => simp
          | cons a r => simpa using ih a (by rw [h]; simp)
        intro hc
        rcases List.mem_cons.1 hc with e | hc
        · exact hb e.symm
        · exact this hc
      · exact ih w (List.mem_of_mem_tail hw)
theorem cut_plain (c : UInt8) (a : List UInt8) (h : c ∉ a) : cutAt c a = [a] := by
  induction a with
  | nil => rfl
  | cons b a ih =>
    have hb : ¬ b = c := fun e => h (by simp [e])
    have := ih (fun k => h (by simp [k]))
    unfold cutAt
    rw [if_neg hb, this]; rfl
theorem cut_app (c : UInt8) (a l : List UInt8) (h : c ∉ a) : cutAt c (a ++ c :: l) = a :: cutAt c l := by
  induction a with
  | nil => simp [cutAt]
  | cons b a ih =>
    have hb : ¬ b = c := fun e => h (by simp [e])
    have := ih (fun k => h (by simp [k]))
    show cutAt c (b :: (a ++ c :: l)) = _
    conv => lhs; unfold cutAt
    rw [if_neg hb, this]; rfl
/-- What was joined is cut again. -/
theorem cut_join (c : UInt8) (ws : List (List UInt8)) (hn : ws ≠ []) (h : ∀ w ∈ ws, c ∉ w) : cutAt c (joinBy c ws) = ws := by
  induction ws with
  | nil => exact absurd rfl hn
  | cons a l ih =>
    cases l with
    | nil => exact cut_plain c a (h a (by simp))
    | cons b l =>
      rw [joinBy_cons c a (by simp), cut_app c a _ (h a (by simp)), ih (by simp) (fun w hw => h w (by simp [hw]))]

/-! Numbers with a sign, of at most so many digits. -/
/-- A number as text. -/
def nt (n : Int) : List UInt8 := if n < 0 then 45 :: decDigits n.natAbs else decDigits n.natAbs
/-- Digits without a needless 0, at most so many; below 0 no 0 at all. -/
def okDg (less : Bool) (most : Nat) (l : List UInt8) : Bool := decide (l ≠ [] ∧ l.length ≤ most ∧ ¬ (l.head? = some 48 ∧ (1 < l.length ∨ less = true))) && l.all isDg
/-- The number of a text; none: it is none. -/
def nr (most : Nat) (l : List UInt8) : Option Int :=
  if 1 < l.length ∧ l.head? = some 45 then (if okDg true most l.tail then some (-(val l.tail : Int)) else none)
  else (if okDg false most l then some (val l : Int) else none)
theorem dec_zero : decDigits 0 = [48] := by rw [decDigits]; rfl
theorem dec_head_dg (u : Nat) : ∃ c, (decDigits u).head? = some c ∧ isDg c = true := by
  cases h : decDigits u with
  | nil => exact absurd h (dec_ne u)
  | cons c l => exact ⟨c, rfl, dec_is u c (by rw [h]; simp)⟩
theorem dec_ok (u most : Nat) (h : u < 10 ^ (most + 1)) (less : Bool) (hl : less = true → 1 ≤ u) : okDg less (most + 1) (decDigits u) = true := by
  unfold okDg
  rw [Bool.and_eq_true, decide_eq_true_eq, List.all_eq_true]
  refine ⟨⟨dec_ne u, dec_len u most h, ?_⟩, dec_is u⟩
  rintro ⟨h0, h1⟩
  rcases Nat.eq_zero_or_pos u with rfl | hu
  · rw [dec_zero] at h1
    rcases h1 with h1 | h1
    · simp at h1
    · have := hl h1; omega
  · exact dec_head u hu h0
theorem ok_dec {less : Bool} {most : Nat} {l : List UInt8} (h : okDg less most l = true) : decDigits (val l) = l ∧ (less = true → 1 ≤ val l) ∧ val l < 10 ^ most := by
  unfold okDg at h
  rw [Bool.and_eq_true, decide_eq_true_eq, List.all_eq_true] at h
  obtain ⟨⟨hn, hm, hz⟩, hd⟩ := h
  have hlt : val l < 10 ^ most := Nat.lt_of_lt_of_le (val_lt l hd) (Nat.pow_le_pow_right (by decide) hm)
  by_cases h0 : l.head? = some 48
  · cases l with
    | nil => exact absurd rfl hn
    | cons a l =>
      simp only [List.head?_cons, Option.some.injEq] at h0
      subst h0
      cases l with
      | nil =>
        refine ⟨by simp [val]; exact dec_zero, fun e => absurd ⟨rfl, Or.inr e⟩ hz, hlt⟩
      | cons b l => exact absurd ⟨rfl, Or.inl (by simp)⟩ hz
  · have := val_dec l hd hn h0
    exact ⟨this.2, fun _ => this.1, hlt⟩
/-- A number is read as it was written. -/
theorem nr_nt (n : Int) (most : Nat) (h : n.natAbs < 10 ^ (most + 1)) : nr (most + 1) (nt n) = some n := by
  unfold nt
  by_cases hn : n < 0
  · rw [if_pos hn]
    have hlen : 1 ≤ (decDigits n.natAbs).length := by
      cases hh : decDigits n.natAbs with
      | nil => exact absurd hh (dec_ne _)
      | cons a l => simp
    unfold nr
    rw [if_pos ⟨by simp; omega, rfl⟩, List.tail_cons, if_pos (dec_ok _ _ h true (fun _ => by omega)), dec_val]
    congr 1; omega
  · rw [if_neg hn]
    obtain ⟨c, hc, hd⟩ := dec_head_dg n.natAbs
    unfold nr
    rw [if_neg (by
      rintro ⟨_, e⟩
      rw [hc] at e
      have e := Option.some.inj e
      rw [e] at hd
      exact absurd hd (by decide)), if_pos (dec_ok _ _ h false (fun e => by cases e)), dec_val]
    congr 1; omega
/-- What is read as a number is its text. -/
theorem nt_nr {most : Nat} {l : List UInt8} {n : Int} (h : nr most l = some n) : nt n = l ∧ n.natAbs < 10 ^ most := by
  unfold nr at h
  split at h
  · rename_i hs
    split at h
    · rename_i hk
      obtain ⟨a, b, c⟩ := ok_dec hk
      have e : n = -(val l.tail : Int) := (Option.some.inj h).symm
      have b1 := b rfl
      have en : n.natAbs = val l.tail := by omega
      refine ⟨?_, by rw [en]; exact c⟩
      unfold nt
      rw [if_pos (by omega), en, a]
      cases l with
      | nil => simp at hs
      | cons x l =>
        have := hs.2
        simp only [List.head?_cons, Option.some.injEq] at this
        rw [this]; rfl
    · cases h
  · split at h
    · rename_i hk
      obtain ⟨a, _, c⟩ := ok_dec hk
      have e : n = (val l : Int) := (Option.some.inj h).symm
      have en : n.natAbs = val l := by omega
      refine ⟨?_, by rw [en]; exact c⟩
      unfold nt
      rw [if_neg (by omega), en, a]
    · cases h
end Go.Proofs.YtikpfeaidgeebaaDoor.Txt
