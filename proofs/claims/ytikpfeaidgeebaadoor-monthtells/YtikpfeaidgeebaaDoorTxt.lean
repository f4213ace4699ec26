/-
  What is proved here: plain facts on digits, on the text of a time and of a span, and on what such a text tells (that each is read as it was written); no program is named.
-/
import Derived.Lib.ItoaNum
namespace Go.Proofs.YtikpfeaidgeebaaDoor.Txt
open Go.Lib

theorem snoc_ind {P : List UInt8 → Prop} (h0 : P []) (h1 : ∀ l c, P l → P (l ++ [c])) (l : List UInt8) : P l := by
  have key : ∀ r : List UInt8, P r.reverse := by
    intro r
    induction r with
    | nil => exact h0
    | cons c r ih => rw [List.reverse_cons]; exact h1 _ _ ih
  have := key l.reverse
  rwa [List.reverse_reverse] at this
/-- Is a byte a digit? -/
def isDg (c : UInt8) : Bool := decide (48 ≤ c.toNat ∧ c.toNat ≤ 57)
theorem isDg_iff {c : UInt8} : isDg c = true ↔ 48 ≤ c.toNat ∧ c.toNat ≤ 57 := by simp [isDg]
/-- The number that digits tell. -/
def val (l : List UInt8) : Nat := l.foldl (fun n c => n * 10 + (c.toNat - 48)) 0
theorem val_snoc (l : List UInt8) (c : UInt8) : val (l ++ [c]) = val l * 10 + (c.toNat - 48) := by simp [val]
theorem val_lt (l : List UInt8) (h : ∀ c ∈ l, isDg c = true) : val l < 10 ^ l.length := by
  induction l using snoc_ind with
  | h0 => simp [val]
  | h1 l c ih =>
    have h1 := ih (fun x hx => h x (by simp [hx]))
    have h2 := isDg_iff.1 (h c (by simp))
    rw [val_snoc, List.length_append, List.length_singleton, Nat.pow_succ]
    omega
theorem val_le9 (l : List UInt8) (h : ∀ c ∈ l, isDg c = true) (hl : l.length ≤ 9) : val l ≤ 999999999 := by
  have h1 := val_lt l h
  have h2 : 10 ^ l.length ≤ 10 ^ 9 := Nat.pow_le_pow_right (by decide) hl
  omega
theorem val_le10 (l : List UInt8) (h : ∀ c ∈ l, isDg c = true) (hl : l.length ≤ 10) : val l ≤ 9999999999 := by
  have h1 := val_lt l h
  have h2 : 10 ^ l.length ≤ 10 ^ 10 := Nat.pow_le_pow_right (by decide) hl
  omega

/-! Digits of a number, and back. -/
theorem dg_toNat {i : Nat} (h : i < 10) : (UInt8.ofNat (48 + i)).toNat = 48 + i := by
  rw [UInt8.toNat_ofNat']; omega
theorem dg_is {i : Nat} (h : i < 10) : isDg (UInt8.ofNat (48 + i)) = true := isDg_iff.2 (by rw [dg_toNat h]; omega)
theorem dec_is (u : Nat) : ∀ c ∈ decDigits u, isDg c = true := by
  induction u using Nat.strongRecOn with
  | _ u ih =>
    intro c hc
    rw [decDigits] at hc
    split at hc
    · rename_i k
      rw [List.mem_singleton.1 hc]; exact dg_is k
    · rcases List.mem_append.1 hc with hc | hc
      · exact ih (u / 10) (by omega) c hc
      · rw [List.mem_singleton.1 hc]; exact dg_is (by omega)
theorem dec_val (u : Nat) : val (decDigits u) = u := by
  induction u using Nat.strongRecOn with
  | _ u ih =>
    rw [decDigits]
    split
    · rename_i h
      show 0 * 10 + ((UInt8.ofNat (48 + u)).toNat - 48) = u
      rw [dg_toNat h]; omega
    · rename_i h; rw [val_snoc, ih (u / 10) (by omega), dg_toNat (by omega)]; omega
theorem dec_ne (u : Nat) : decDigits u ≠ [] := by
  rw [decDigits]; split <;> simp
theorem head_app {l r : List UInt8} (h : l ≠ []) : (l ++ r).head? = l.head? := by
  cases l with
  | nil => exact absurd rfl h
  | cons a l => rfl
theorem dec_head (u : Nat) (h : 1 ≤ u) : (decDigits u).head? ≠ some 48 := by
  induction u using Nat.strongRecOn with
  | _ u ih =>
    rw [decDigits]
    split
    · rename_i k
      intro e
      have e1 : UInt8.ofNat (48 + u) = 48 := Option.some.inj e
      have e2 := congrArg UInt8.toNat e1
      rw [dg_toNat k] at e2
      have : (48 : UInt8).toNat = 48 := by decide
      omega
    · have := ih (u / 10) (by omega) (by omega)
      rwa [head_app (dec_ne _)]
theorem dec_len (u k : Nat) (h : u < 10 ^ (k + 1)) : (decDigits u).length ≤ k + 1 := by
  induction k generalizing u with
  | zero => rw [decDigits_one (by simpa using h)]; simp
  | succ k ih =>
    rw [decDigits]
    split
    · simp
    · have := ih (u / 10) (by rw [Nat.pow_succ] at h; omega)
      simp; omega
/-- Digits that open with none that is needless are those of their number. -/
theorem val_dec (l : List UInt8) (h : ∀ c ∈ l, isDg c = true) (hn : l ≠ []) (h0 : l.head? ≠ some 48) : 1 ≤ val l ∧ decDigits (val l) = l := by
  induction l using snoc_ind with
  | h0 => exact absurd rfl hn
  | h1 l c ih =>
    have hc := isDg_iff.1 (h c (by simp))
    have ec : UInt8.ofNat (48 + (c.toNat - 48)) = c := by
      rw [show 48 + (c.toNat - 48) = c.toNat by omega]; simp
    rw [val_snoc]
    by_cases hl : l = []
    · subst hl
      have h1 : 1 ≤ c.toNat - 48 := by
        rcases Nat.eq_zero_or_pos (c.toNat - 48) with q | q
        · exfalso; apply h0
          rw [q] at ec
          simp; rw [← ec]; rfl
        · exact q
      refine ⟨by simp [val]; omega, ?_⟩
      rw [decDigits_one (by simp [val]; omega)]
      simp [val]; simpa using ec
    · obtain ⟨h1, h2⟩ := ih (fun x hx => h x (by simp [hx])) hl (by rwa [head_app hl] at h0)
      refine ⟨by omega, ?_⟩
      rw [decDigits, dif_neg (by omega), show (val l * 10 + (c.toNat - 48)) / 10 = val l by omega, show (val l * 10 + (c.toNat - 48)) % 10 = c.toNat - 48 by omega, h2, ec]

/-! Two digits. -/
def d2 (n : Nat) : List UInt8 := [UInt8.ofNat (48 + n / 10 % 10), UInt8.ofNat (48 + n % 10)]
theorem d2_small {n : Nat} (h : n < 10) : [48] ++ decDigits n = d2 n := by
  rw [decDigits_one h, d2, show 48 + n / 10 % 10 = 48 by omega, show 48 + n % 10 = 48 + n by omega]; rfl
theorem d2_big {n : Nat} (h1 : ¬ n < 10) (h2 : n < 100) : decDigits n = d2 n := by
  rw [decDigits_two h1 h2, d2, show n / 10 % 10 = n / 10 by omega]
theorem d2_year {n : Nat} (h1 : 1000 ≤ n) (h2 : n < 10000) : decDigits n = d2 (n / 100) ++ d2 n := by
  rw [decDigits, dif_neg (by omega), decDigits, dif_neg (by omega), decDigits_two (by omega) (by omega)]
  rw [d2, d2, show n / 10 / 10 / 10 = n / 100 / 10 % 10 by omega, show n / 10 / 10 % 10 = n / 100 % 10 by omega]; rfl
theorem d2_val (n : Nat) : val (d2 n) = n % 100 := by
  show (0 * 10 + ((UInt8.ofNat (48 + n / 10 % 10)).toNat - 48)) * 10 + ((UInt8.ofNat (48 + n % 10)).toNat - 48) = n % 100
  rw [dg_toNat (by omega), dg_toNat (by omega)]; omega
theorem d2_is (n : Nat) : ∀ c ∈ d2 n, isDg c = true := by
  intro c hc
  rcases List.mem_cons.1 hc with rfl | hc
  · exact dg_is (by omega)
  · rw [List.mem_singleton.1 hc]; exact dg_is (by omega)
theorem d2_of {a b : UInt8} (ha : isDg a = true) (hb : isDg b = true) : d2 (val [a, b]) = [a, b] := by
  have h1 := isDg_iff.1 ha
  have h2 := isDg_iff.1 hb
  have e : val [a, b] = (a.toNat - 48) * 10 + (b.toNat - 48) := by simp [val]
  rw [e, d2, show 48 + ((a.toNat - 48) * 10 + (b.toNat - 48)) / 10 % 10 = a.toNat by omega, show 48 + ((a.toNat - 48) * 10 + (b.toNat - 48)) % 10 = b.toNat by omega]
  simp
end Go.Proofs.YtikpfeaidgeebaaDoor.Txt
