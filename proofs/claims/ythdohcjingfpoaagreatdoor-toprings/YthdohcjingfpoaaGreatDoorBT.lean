/-
  What is proved here: plain facts on digits, on the text of a time and of a span, and on what such a text tells (that each is read as it was written); no program is named.
  What is proved here: plain facts on texts that are cut at a byte and joined again, and on numbers with a sign that are written and read; no program is named.
  What is proved here: plain facts on the text of a time: which time a text tells, and that what is written is read as it was; no program is named.
  What is proved here: plain facts on the text of a rule: what a rule's words are, which rule words tell, and that each is read as it was written; no program is named.
  What is proved here: plain facts on the words of a rule: that a rule is read as it was written, and a text that is read is written so; no program is named.
-/
import Derived.Lib.ItoaNum
import Derived.Test.YthdohcjingfpoaaGreatDoorPU
namespace Go.Proofs.YthdohcjingfpoaaGreatDoor.Txt
open Go.Lib

theorem snoc_ind {P : List UInt8 → Prop} (h0 : P []) (h1 : ∀ l c, P l → P (l ++ [c])) (l : List UInt8) : P l := by
  have key : ∀ r : List UInt8, P r.reverse := by
    intro r
    induction r with
    | nil => exact h0
    | cons c r ih => rw [List.reverse_cons]; exact h1 _ _ ih
  have := key l.reverse
  rwa [List.reverse_reverse] at this
/-- Is a byte a digit? -/
def isDg (c : UInt8) : Bool := decide (48 ≤ c.toNat ∧ c.toNat ≤ 57)
theorem isDg_iff {c : UInt8} : isDg c = true ↔ 48 ≤ c.toNat ∧ c.toNat ≤ 57 := by simp [isDg]
/-- The number that digits tell. -/
def val (l : List UInt8) : Nat := l.foldl (fun n c => n * 10 + (c.toNat - 48)) 0
theorem val_snoc (l : List UInt8) (c : UInt8) : val (l ++ [c]) = val l * 10 + (c.toNat - 48) := by simp [val]
theorem val_lt (l : List UInt8) (h : ∀ c ∈ l, isDg c = true) : val l < 10 ^ l.length := by
  induction l using snoc_ind with
  | h0 => simp [val]
  | h1 l c ih =>
    have h1 := ih (fun x hx => h x (by simp [hx]))
    have h2 := isDg_iff.1 (h c (by simp))
    rw [val_snoc, List.length_append, List.length_singleton, Nat.pow_succ]
    omega
theorem val_le9 (l : List UInt8) (h : ∀ c ∈ l, isDg c = true) (hl : l.length ≤ 9) : val l ≤ 999999999 := by
  have h1 := val_lt l h
  have h2 : 10 ^ l.length ≤ 10 ^ 9 := Nat.pow_le_pow_right (by decide) hl
  omega
theorem val_le10 (l : List UInt8) (h : ∀ c ∈ l, isDg c = true) (hl : l.length ≤ 10) : val l ≤ 9999999999 := by
  have h1 := val_lt l h
  have h2 : 10 ^ l.length ≤ 10 ^ 10 := Nat.pow_le_pow_right (by decide) hl
  omega

/-! Digits of a number, and back. -/
theorem dg_toNat {i : Nat} (h : i < 10) : (UInt8.ofNat (48 + i)).toNat = 48 + i := by
  rw [UInt8.toNat_ofNat']; omega
theorem dg_is {i : Nat} (h : i < 10) : isDg (UInt8.ofNat (48 + i)) = true := isDg_iff.2 (by rw [dg_toNat h]; omega)
theorem dec_is (u : Nat) : ∀ c ∈ decDigits u, isDg c = true := by
  induction u using Nat.strongRecOn with
  | _ u ih =>
    intro c hc
    rw [decDigits] at hc
    split at hc
    · rename_i k
      rw [List.mem_singleton.1 hc]; exact dg_is k
    · rcases List.mem_append.1 hc with hc | hc
      · exact ih (u / 10) (by omega) c hc
      · rw [List.mem_singleton.1 hc]; exact dg_is (by omega)
theorem dec_val (u : Nat) : val (decDigits u) = u := by
  induction u using Nat.strongRecOn with
  | _ u ih =>
    rw [decDigits]
    split
    · rename_i h
      show 0 * 10 + ((UInt8.ofNat (48 + u)).toNat - 48) = u
      rw [dg_toNat h]; omega
    · rename_i h; rw [val_snoc, ih (u / 10) (by omega), dg_toNat (by omega)]; omega
theorem dec_ne (u : Nat) : decDigits u ≠ [] := by
  rw [decDigits]; split <;> simp
theorem head_app {l r : List UInt8} (h : l ≠ []) : (l ++ r).head? = l.head? := by
  cases l with
  | nil => exact absurd rfl h
  | cons a l => rfl
theorem dec_head (u : Nat) (h : 1 ≤ u) : (decDigits u).head? ≠ some 48 := by
  induction u using Nat.strongRecOn with
  | _ u ih =>
    rw [decDigits]
    split
    · rename_i k
      intro e
      have e1 : UInt8.ofNat (48 + u) = 48 := Option.some.inj e
      have e2 := congrArg UInt8.toNat e1
      rw [dg_toNat k] at e2
      have : (48 : UInt8).toNat = 48 := by decide
      omega
    · have := ih (u / 10) (by omega) (by omega)
      rwa [head_app (dec_ne _)]
theorem dec_len (u k : Nat) (h : u < 10 ^ (k + 1)) : (decDigits u).length ≤ k + 1 := by
  induction k generalizing u with
  | zero => rw [decDigits_one (by simpa using h)]; simp
  | succ k ih =>
    rw [decDigits]
    split
    · simp
    · have := ih (u / 10) (by rw [Nat.pow_succ] at h; omega)
      simp; omega
/-- Digits that open with none that is needless are those of their number. -/
theorem val_dec (l : List UInt8) (h : ∀ c ∈ l, isDg c = true) (hn : l ≠ []) (h0 : l.head? ≠ some 48) : 1 ≤ val l ∧ decDigits (val l) = l := by
  induction l using snoc_ind with
  | h0 => exact absurd rfl hn
  | h1 l c ih =>
    have hc := isDg_iff.1 (h c (by simp))
    have ec : UInt8.ofNat (48 + (c.toNat - 48)) = c := by
      rw [show 48 + (c.toNat - 48) = c.toNat by omega]; simp
    rw [val_snoc]
    by_cases hl : l = []
    · subst hl
      have h1 : 1 ≤ c.toNat - 48 := by
        rcases Nat.eq_zero_or_pos (c.toNat - 48) with q | q
        · exfalso; apply h0
          rw [q] at ec
          simp; rw [← ec]; rfl
        · exact q
      refine ⟨by simp [val]; omega, ?_⟩
      rw [decDigits_one (by simp [val]; omega)]
      simp [val]; simpa using ec
    · obtain ⟨h1, h2⟩ := ih (fun x hx => h x (by simp [hx])) hl (by rwa [head_app hl] at h0)
      refine ⟨by omega, ?_⟩
      rw [decDigits, dif_neg (by omega), show (val l * 10 + (c.toNat - 48)) / 10 = val l by omega, show (val l * 10 + (c.toNat - 48)) % 10 = c.toNat - 48 by omega, h2, ec]

/-! Two digits. -/
def d2 (n : Nat) : List UInt8 := [UInt8.ofNat (48 + n / 10 % 10), UInt8.ofNat (48 + n % 10)]
theorem d2_small {n : Nat} (h : n < 10) : [48] ++ decDigits n = d2 n := by
  rw [decDigits_one h, d2, show 48 + n / 10 % 10 = 48 by omega, show 48 + n % 10 = 48 + n by omega]; rfl
theorem d2_big {n : Nat} (h1 : ¬ n < 10) (h2 : n < 100) : decDigits n = d2 n := by
  rw [decDigits_two h1 h2, d2, show n / 10 % 10 = n / 10 by omega]
theorem d2_year {n : Nat} (h1 : 1000 ≤ n) (h2 : n < 10000) : decDigits n = d2 (n / 100) ++ d2 n := by
  rw [decDigits, dif_neg (by omega), decDigits, dif_neg (by omega), decDigits_two (by omega) (by omega)]
  rw [d2, d2, show n / 10 / 10 / 10 = n / 100 / 10 % 10 by omega, show n / 10 / 10 % 10 = n / 100 % 10 by omega]; rfl
theorem d2_val (n : Nat) : val (d2 n) = n % 100 := by
  show (0 * 10 + ((UInt8.ofNat (48 + n / 10 % 10)).toNat - 48)) * 10 + ((UInt8.ofNat (48 + n % 10)).toNat - 48) = n % 100
  rw [dg_toNat (by omega), dg_toNat (by omega)]; omega
theorem d2_is (n : Nat) : ∀ c ∈ d2 n, isDg c = true := by
  intro c hc
  rcases List.mem_cons.1 hc with rfl | hc
  · exact dg_is (by omega)
  · rw [List.mem_singleton.1 hc]; exact dg_is (by omega)
theorem d2_of {a b : UInt8} (ha : isDg a = true) (hb : isDg b = true) : d2 (val [a, b]) = [a, b] := by
  have h1 := isDg_iff.1 ha
  have h2 := isDg_iff.1 hb
  have e : val [a, b] = (a.toNat - 48) * 10 + (b.toNat - 48) := by simp [val]
  rw [e, d2, show 48 + ((a.toNat - 48) * 10 + (b.toNat - 48)) / 10 % 10 = a.toNat by omega, show 48 + ((a.toNat - 48) * 10 + (b.toNat - 48)) % 10 = b.toNat by omega]
  simp
end Go.Proofs.YthdohcjingfpoaaGreatDoor.Txt
namespace Go.Proofs.YthdohcjingfpoaaGreatDoor.Txt
open Go.Lib

/-! Texts, cut at each byte c. -/
/-- A text is cut at each byte c. -/
def cutAt (c : UInt8) : List UInt8 → List (List UInt8)
  | [] => [[]]
  | b :: l => if b = c then [] :: cutAt c l else (b :: (cutAt c l).headD []) :: (cutAt c l).tail
/-- Texts, with a byte c between. -/
def joinBy (c : UInt8) : List (List UInt8) → List UInt8
  | [] => []
  | [a] => a
  | a :: b :: l => a ++ c :: joinBy c (b :: l)
theorem cutAt_ne (c : UInt8) (l : List UInt8) : cutAt c l ≠ [] := by
  cases l with
  | nil => simp [cutAt]
  | cons b l => unfold cutAt; split <;> simp
theorem joinBy_cons (c : UInt8) (a : List UInt8) {l : List (List UInt8)} (h : l ≠ []) : joinBy c (a :: l) = a ++ c :: joinBy c l := by
  cases l with
  | nil => exact absurd rfl h
  | cons b l => rfl
/-- What was cut is joined again. -/
theorem join_cut (c : UInt8) (l : List UInt8) : joinBy c (cutAt c l) = l := by
  induction l with
  | nil => rfl
  | cons b l ih =>
    unfold cutAt
    split
    · rename_i e
      rw [joinBy_cons c [] (cutAt_ne c l), ih, e]; rfl
    · cases h : cutAt c l with
      | nil => exact absurd h (cutAt_ne c l)
      | cons a r =>
        rw [h] at ih
        cases r with
        | nil => simpa [joinBy] using ih
        | cons a' r => simpa [joinBy] using ih
/-- No piece holds the byte. -/
theorem cut_not (c : UInt8) (l : List UInt8) : ∀ w ∈ cutAt c l, c ∉ w := by
  induction l with
  | nil => intro w hw; simp [cutAt] at hw; subst hw; simp
  | cons b l ih =>
    intro w hw
    unfold cutAt at hw
    split at hw
    · rcases List.mem_cons.1 hw with rfl | hw
      · simp
      · exact ih w hw
    · rename_i hb
      rcases List.mem_cons.1 hw with rfl | hw
      · have : c ∉ (cutAt c l).headD [] := by
          cases h : cutAt c l with
          | nil => simp
          | cons a r => simpa using ih a (by rw [h]; simp)
        intro hc
        rcases List.mem_cons.1 hc with e | hc
        · exact hb e.symm
        · exact this hc
      · exact ih w (List.mem_of_mem_tail hw)
theorem cut_plain (c : UInt8) (a : List UInt8) (h : c ∉ a) : cutAt c a = [a] := by
  induction a with
  | nil => rfl
  | cons b a ih =>
    have hb : ¬ b = c := fun e => h (by simp [e])
    have := ih (fun k => h (by simp [k]))
    unfold cutAt
    rw [if_neg hb, this]; rfl
theorem cut_app (c : UInt8) (a l : List UInt8) (h : c ∉ a) : cutAt c (a ++ c :: l) = a :: cutAt c l := by
  induction a with
  | nil => simp [cutAt]
  | cons b a ih =>
    have hb : ¬ b = c := fun e => h (by simp [e])
    have := ih (fun k => h (by simp [k]))
    show cutAt c (b :: (a ++ c :: l)) = _
    conv => lhs; unfold cutAt
    rw [if_neg hb, this]; rfl
/-- What was joined is cut again. -/
theorem cut_join (c : UInt8) (ws : List (List UInt8)) (hn : ws ≠ []) (h : ∀ w ∈ ws, c ∉ w) : cutAt c (joinBy c ws) = ws := by
  induction ws with
  | nil => exact absurd rfl hn
  | cons a l ih =>
    cases l with
    | nil => exact cut_plain c a (h a (by simp))
    | cons b l =>
      rw [joinBy_cons c a (by simp), cut_app c a _ (h a (by simp)), ih (by simp) (fun w hw => h w (by simp [hw]))]

/-! Numbers with a sign, of at most so many digits. -/
/-- A number as text. -/
def nt (n : Int) : List UInt8 := if n < 0 then 45 :: decDigits n.natAbs else decDigits n.natAbs
/-- Digits without a needless 0, at most so many; below 0 no 0 at all. -/
def okDg (less : Bool) (most : Nat) (l : List UInt8) : Bool := decide (l ≠ [] ∧ l.length ≤ most ∧ ¬ (l.head? = some 48 ∧ (1 < l.length ∨ less = true))) && l.all isDg
/-- The number of a text; none: it is none. -/
def nr (most : Nat) (l : List UInt8) : Option Int :=
  if 1 < l.length ∧ l.head? = some 45 then (if okDg true most l.tail then some (-(val l.tail : Int)) else none)
  else (if okDg false most l then some (val l : Int) else none)
theorem dec_zero : decDigits 0 = [48] := by rw [decDigits]; rfl
theorem dec_head_dg (u : Nat) : ∃ c, (decDigits u).head? = some c ∧ isDg c = true := by
  cases h : decDigits u with
  | nil => exact absurd h (dec_ne u)
  | cons c l => exact ⟨c, rfl, dec_is u c (by rw [h]; simp)⟩
theorem dec_ok (u most : Nat) (h : u < 10 ^ (most + 1)) (less : Bool) (hl : less = true → 1 ≤ u) : okDg less (most + 1) (decDigits u) = true := by
  unfold okDg
  rw [Bool.and_eq_true, decide_eq_true_eq, List.all_eq_true]
  refine ⟨⟨dec_ne u, dec_len u most h, ?_⟩, dec_is u⟩
  rintro ⟨h0, h1⟩
  rcases Nat.eq_zero_or_pos u with rfl | hu
  · rw [dec_zero] at h1
    rcases h1 with h1 | h1
    · simp at h1
    · have := hl h1; omega
  · exact dec_head u hu h0
theorem ok_dec {less : Bool} {most : Nat} {l : List UInt8} (h : okDg less most l = true) : decDigits (val l) = l ∧ (less = true → 1 ≤ val l) ∧ val l < 10 ^ most := by
  unfold okDg at h
  rw [Bool.and_eq_true, decide_eq_true_eq, List.all_eq_true] at h
  obtain ⟨⟨hn, hm, hz⟩, hd⟩ := h
  have hlt : val l < 10 ^ most := Nat.lt_of_lt_of_le (val_lt l hd) (Nat.pow_le_pow_right (by decide) hm)
  by_cases h0 : l.head? = some 48
  · cases l with
    | nil => exact absurd rfl hn
    | cons a l =>
      simp only [List.head?_cons, Option.some.injEq] at h0
      subst h0
      cases l with
      | nil =>
        refine ⟨by simp [val]; exact dec_zero, fun e => absurd ⟨rfl, Or.inr e⟩ hz, hlt⟩
      | cons b l => exact absurd ⟨rfl, Or.inl (by simp)⟩ hz
  · have := val_dec l hd hn h0
    exact ⟨this.2, fun _ => this.1, hlt⟩
/-- A number is read as it was written. -/
theorem nr_nt (n : Int) (most : Nat) (h : n.natAbs < 10 ^ (most + 1)) : nr (most + 1) (nt n) = some n := by
  unfold nt
  by_cases hn : n < 0
  · rw [if_pos hn]
    have hlen : 1 ≤ (decDigits n.natAbs).length := by
      cases hh : decDigits n.natAbs with
      | nil => exact absurd hh (dec_ne _)
      | cons a l => simp
    unfold nr
    rw [if_pos ⟨by simp; omega, rfl⟩, List.tail_cons, if_pos (dec_ok _ _ h true (fun _ => by omega)), dec_val]
    congr 1; omega
  · rw [if_neg hn]
    obtain ⟨c, hc, hd⟩ := dec_head_dg n.natAbs
    unfold nr
    rw [if_neg (by
      rintro ⟨_, e⟩
      rw [hc] at e
      have e := Option.some.inj e
      rw [e] at hd
      exact absurd hd (by decide)), if_pos (dec_ok _ _ h false (fun e => by cases e)), dec_val]
    congr 1; omega
/-- What is read as a number is its text. -/
theorem nt_nr {most : Nat} {l : List UInt8} {n : Int} (h : nr most l = some n) : nt n = l ∧ n.natAbs < 10 ^ most := by
  unfold nr at h
  split at h
  · rename_i hs
    split at h
    · rename_i hk
      obtain ⟨a, b, c⟩ := ok_dec hk
      have e : n = -(val l.tail : Int) := (Option.some.inj h).symm
      have b1 := b rfl
      have en : n.natAbs = val l.tail := by omega
      refine ⟨?_, by rw [en]; exact c⟩
      unfold nt
      rw [if_pos (by omega), en, a]
      cases l with
      | nil => simp at hs
      | cons x l =>
        have := hs.2
        simp only [List.head?_cons, Option.some.injEq] at this
        rw [this]; rfl
    · cases h
  · split at h
    · rename_i hk
      obtain ⟨a, _, c⟩ := ok_dec hk
      have e : n = (val l : Int) := (Option.some.inj h).symm
      have en : n.natAbs = val l := by omega
      refine ⟨?_, by rw [en]; exact c⟩
      unfold nt
      rw [if_neg (by omega), en, a]
    · cases h
end Go.Proofs.YthdohcjingfpoaaGreatDoor.Txt
namespace Go.Proofs.YthdohcjingfpoaaGreatDoor.Txt
open Go.Lib Cal

/-- The form of a time: each 48 stands for a digit. -/
def fm : List UInt8 := [48, 48, 48, 48, 45, 48, 48, 45, 48, 48, 32, 48, 48, 58, 48, 48]
def fit (f c : UInt8) : Bool := if f = 48 then isDg c else c == f
/-- Has a text the form of a time? -/
def frm (l : List UInt8) : Bool := (l.length == 16) && (List.range 16).all fun i => fit (fm.getD i 0) (l.getD i 0)
theorem frm_iff {l : List UInt8} : frm l = true ↔ l.length = 16 ∧ ∀ i, i < 16 → fit (fm.getD i 0) (l.getD i 0) = true := by
  unfold frm
  rw [Bool.and_eq_true, beq_iff_eq, List.all_eq_true]
  constructor
  · rintro ⟨h1, h2⟩; exact ⟨h1, fun i hi => h2 i (List.mem_range.2 hi)⟩
  · rintro ⟨h1, h2⟩; exact ⟨h1, fun i hi => h2 i (List.mem_range.1 hi)⟩
/-- The number between two places. -/
def nm (l : List UInt8) (a b : Nat) : Nat := val ((l.drop a).take (b - a))
/-- The text of a time of these parts. -/
def tmt (y m d h i : Nat) : List UInt8 := d2 (y / 100) ++ d2 y ++ [45] ++ d2 m ++ [45] ++ d2 d ++ [32] ++ d2 h ++ [58] ++ d2 i

theorem frm_len {l : List UInt8} (h : frm l = true) : l.length = 16 := (frm_iff.1 h).1
theorem frm_at {l : List UInt8} (h : frm l = true) (i : Nat) (hi : i < 16) : fit (fm.getD i 0) (l.getD i 0) = true := (frm_iff.1 h).2 i hi
theorem frm_mk {l : List UInt8} (h1 : l.length = 16) (h2 : ∀ i, i < 16 → fit (fm.getD i 0) (l.getD i 0) = true) : frm l = true := frm_iff.2 ⟨h1, h2⟩
theorem frm_short {l : List UInt8} (h1 : ¬ l.length = 16) : frm l = false := by
  rcases h : frm l with _ | _
  · rfl
  · exact absurd (frm_len h) h1
theorem frm_not {l : List UInt8} (i : Nat) (hi : i < 16) (h2 : fit (fm.getD i 0) (l.getD i 0) = false) : frm l = false := by
  rcases h : frm l with _ | _
  · rfl
  · have := frm_at h i hi; rw [h2] at this; cases this
/-- The sixteen bytes of a text of this length. -/
theorem sixteen {l : List UInt8} (h : l.length = 16) : ∃ a b c d e f g i j k m n o p q r, l = [a, b, c, d, e, f, g, i, j, k, m, n, o, p, q, r] := by
  match l, h with
  | [a, b, c, d, e, f, g, i, j, k, m, n, o, p, q, r], _ => exact ⟨a, b, c, d, e, f, g, i, j, k, m, n, o, p, q, r, rfl⟩
theorem fit_dg {c : UInt8} (h : fit 48 c = true) : isDg c = true := h
theorem fit_is {f c : UInt8} (hf : f ≠ 48) (h : fit f c = true) : c = f := by
  unfold fit at h; rw [if_neg hf] at h; exact eq_of_beq h
theorem frm_parts {l : List UInt8} (h : frm l = true) : ∃ a b c d f g j k n o q r : UInt8, l = [a, b, c, d, 45, f, g, 45, j, k, 32, n, o, 58, q, r] ∧
    (isDg a = true ∧ isDg b = true ∧ isDg c = true ∧ isDg d = true) ∧ (isDg f = true ∧ isDg g = true) ∧ (isDg j = true ∧ isDg k = true) ∧ (isDg n = true ∧ isDg o = true) ∧ (isDg q = true ∧ isDg r = true) := by
  obtain ⟨a, b, c, d, e, f, g, i, j, k, m, n, o, p, q, r, rfl⟩ := sixteen (frm_len h)
  have e4 : e = 45 := fit_is (by decide) (frm_at h 4 (by decide))
  have e7 : i = 45 := fit_is (by decide) (frm_at h 7 (by decide))
  have e10 : m = 32 := fit_is (by decide) (frm_at h 10 (by decide))
  have e13 : p = 58 := fit_is (by decide) (frm_at h 13 (by decide))
  subst e4 e7 e10 e13
  exact ⟨a, b, c, d, f, g, j, k, n, o, q, r, rfl,
    ⟨frm_at h 0 (by decide), frm_at h 1 (by decide), frm_at h 2 (by decide), frm_at h 3 (by decide)⟩, ⟨frm_at h 5 (by decide), frm_at h 6 (by decide)⟩,
    ⟨frm_at h 8 (by decide), frm_at h 9 (by decide)⟩, ⟨frm_at h 11 (by decide), frm_at h 12 (by decide)⟩, ⟨frm_at h 14 (by decide), frm_at h 15 (by decide)⟩⟩
theorem val_two (a b : UInt8) : val [a, b] = (a.toNat - 48) * 10 + (b.toNat - 48) := by simp [val]
theorem val_four (a b c d : UInt8) : val [a, b, c, d] = val [a, b] * 100 + val [c, d] := by simp [val]; omega
theorem val_two_lt {a b : UInt8} (ha : isDg a = true) (hb : isDg b = true) : val [a, b] < 100 := by
  have h1 := isDg_iff.1 ha
  have h2 := isDg_iff.1 hb
  rw [val_two]; omega
theorem d2_mod (x y : Nat) : d2 (x * 100 + y) = d2 y := by
  unfold d2
  rw [show (x * 100 + y) / 10 % 10 = y / 10 % 10 by omega, show (x * 100 + y) % 10 = y % 10 by omega]
/-- A text of the form is that of its numbers. -/
theorem frm_back {l : List UInt8} (h : frm l = true) : tmt (nm l 0 4) (nm l 5 7) (nm l 8 10) (nm l 11 13) (nm l 14 16) = l := by
  obtain ⟨a, b, c, d, f, g, j, k, n, o, q, r, rfl, ⟨ha, hb, hc, hd⟩, ⟨hf, hg⟩, ⟨hj, hk⟩, ⟨hn, ho⟩, ⟨hq, hr⟩⟩ := frm_parts h
  show tmt (val [a, b, c, d]) (val [f, g]) (val [j, k]) (val [n, o]) (val [q, r]) = _
  have l1 := val_two_lt hc hd
  unfold tmt
  rw [val_four, d2_mod, show (val [a, b] * 100 + val [c, d]) / 100 = val [a, b] by omega, d2_of ha hb, d2_of hc hd, d2_of hf hg, d2_of hj hk, d2_of hn ho, d2_of hq hr]
  rfl
theorem fit_dg' {c : UInt8} (h : isDg c = true) : fit 48 c = true := by unfold fit; rw [if_pos rfl]; exact h
theorem d2_two (n : Nat) : ∃ p q, d2 n = [p, q] ∧ isDg p = true ∧ isDg q = true := ⟨_, _, rfl, dg_is (by omega), dg_is (by omega)⟩
/-- The text of numbers is of the form, and tells them. -/
theorem tmt_frm (y m d h i : Nat) : frm (tmt y m d h i) = true := by
  unfold tmt
  obtain ⟨a, b, e1, ha, hb⟩ := d2_two (y / 100)
  obtain ⟨c, d', e2, hc, hd⟩ := d2_two y
  obtain ⟨f, g, e3, hf, hg⟩ := d2_two m
  obtain ⟨j, k, e4, hj, hk⟩ := d2_two d
  obtain ⟨n, o, e5, hn, ho⟩ := d2_two h
  obtain ⟨q, r, e6, hq, hr⟩ := d2_two i
  rw [e1, e2, e3, e4, e5, e6]
  clear e1 e2 e3 e4 e5 e6
  show frm [a, b, c, d', 45, f, g, 45, j, k, 32, n, o, 58, q, r] = true
  refine frm_mk rfl fun x hx => ?_
  have hcs : x = 0 ∨ x = 1 ∨ x = 2 ∨ x = 3 ∨ x = 4 ∨ x = 5 ∨ x = 6 ∨ x = 7 ∨ x = 8 ∨ x = 9 ∨ x = 10 ∨ x = 11 ∨ x = 12 ∨ x = 13 ∨ x = 14 ∨ x = 15 := by omega
  rcases hcs with rfl | rfl | rfl | rfl | rfl | rfl | rfl | rfl | rfl | rfl | rfl | rfl | rfl | rfl | rfl | rfl
  · exact fit_dg' ha
  · exact fit_dg' hb
  · exact fit_dg' hc
  · exact fit_dg' hd
  · exact (show fit 45 45 = true by decide)
  · exact fit_dg' hf
  · exact fit_dg' hg
  · exact (show fit 45 45 = true by decide)
  · exact fit_dg' hj
  · exact fit_dg' hk
  · exact (show fit 32 32 = true by decide)
  · exact fit_dg' hn
  · exact fit_dg' ho
  · exact (show fit 58 58 = true by decide)
  · exact fit_dg' hq
  · exact fit_dg' hr
theorem tmt_nm (y m d h i : Nat) (hy : y < 10000) (hm : m < 100) (hd : d < 100) (hh : h < 100) (hi : i < 100) :
    nm (tmt y m d h i) 0 4 = y ∧ nm (tmt y m d h i) 5 7 = m ∧ nm (tmt y m d h i) 8 10 = d ∧ nm (tmt y m d h i) 11 13 = h ∧ nm (tmt y m d h i) 14 16 = i := by
  refine ⟨?_, ?_, ?_, ?_, ?_⟩
  · show val [_, _, _, _] = y
    rw [val_four]
    have e1 := d2_val (y / 100)
    have e2 := d2_val y
    unfold d2 at e1 e2
    rw [e1, e2]; omega
  · show val (d2 m) = m
    rw [d2_val]; omega
  · show val (d2 d) = d
    rw [d2_val]; omega
  · show val (d2 h) = h
    rw [d2_val]; omega
  · show val (d2 i) = i
    rw [d2_val]; omega
theorem nm_lt {l : List UInt8} (h : frm l = true) : nm l 0 4 ≤ 9999 ∧ nm l 5 7 ≤ 99 ∧ nm l 8 10 ≤ 99 ∧ nm l 11 13 ≤ 99 ∧ nm l 14 16 ≤ 99 := by
  obtain ⟨a, b, c, d, f, g, j, k, n, o, q, r, rfl, ⟨ha, hb, hc, hd⟩, ⟨hf, hg⟩, ⟨hj, hk⟩, ⟨hn, ho⟩, ⟨hq, hr⟩⟩ := frm_parts h
  have l1 := val_two_lt ha hb
  have l2 := val_two_lt hc hd
  have l3 := val_two_lt hf hg
  have l4 := val_two_lt hj hk
  have l5 := val_two_lt hn ho
  have l6 := val_two_lt hq hr
  refine ⟨?_, ?_, ?_, ?_, ?_⟩
  · show val [a, b, c, d] ≤ 9999
    rw [val_four]; omega
  · show val [f, g] ≤ 99
    omega
  · show val [j, k] ≤ 99
    omega
  · show val [n, o] ≤ 99
    omega
  · show val [q, r] ≤ 99
    omega

/-- The last minute of the last day, and one more. -/
abbrev last : Int := 157785120
/-- The text of a time. -/
def txt (t : Int) : List UInt8 := tmt (yr (t / 1440 + 1)).toNat (mo (t / 1440 + 1)).toNat (da (t / 1440 + 1)).toNat (t % 1440 / 60).toNat (t % 60).toNat
/-- The time that a text of the form tells, were its numbers right. -/
def raw (l : List UInt8) : Int := (num (nm l 0 4) (nm l 5 7) (nm l 8 10) - 1) * 1440 + nm l 11 13 * 60 + nm l 14 16
/-- Are its numbers right? -/
def good (l : List UInt8) : Prop := okD (nm l 0 4) (nm l 5 7) (nm l 8 10) ∧ nm l 11 13 ≤ 23 ∧ nm l 14 16 ≤ 59 ∧ 1 ≤ raw l
theorem ml_31 (y m : Int) : ml y m ≤ 31 := (ml_bd y m).2
theorem txt_read {t : Int} (h1 : 1 ≤ t) (h2 : t < last) : frm (txt t) = true ∧ good (txt t) ∧ raw (txt t) = t := by
  have a1 : 1 ≤ t / 1440 + 1 := by omega
  have a2 : t / 1440 + 1 ≤ 109573 := by unfold last at h2; omega
  have ok := date_ok a1 a2
  have nn : num (yr (t / 1440 + 1)) (mo (t / 1440 + 1)) (da (t / 1440 + 1)) = t / 1440 + 1 := date_num
  have m31 := ml_31 (yr (t / 1440 + 1)) (mo (t / 1440 + 1))
  have ok' := ok
  obtain ⟨o1, o2, o3, o4, o5, o6⟩ := ok'
  have e := tmt_nm (yr (t / 1440 + 1)).toNat (mo (t / 1440 + 1)).toNat (da (t / 1440 + 1)).toNat (t % 1440 / 60).toNat (t % 60).toNat (by omega) (by omega) (by omega) (by omega) (by omega)
  change nm (txt t) 0 4 = _ ∧ nm (txt t) 5 7 = _ ∧ nm (txt t) 8 10 = _ ∧ nm (txt t) 11 13 = _ ∧ nm (txt t) 14 16 = _ at e
  obtain ⟨e1, e2, e3, e4, e5⟩ := e
  have r : raw (txt t) = t := by
    unfold raw
    rw [e1, e2, e3, e4, e5, show ((yr (t / 1440 + 1)).toNat : Int) = yr (t / 1440 + 1) by omega, show ((mo (t / 1440 + 1)).toNat : Int) = mo (t / 1440 + 1) by omega, show ((da (t / 1440 + 1)).toNat : Int) = da (t / 1440 + 1) by omega, nn]
    omega
  refine ⟨tmt_frm _ _ _ _ _, ⟨?_, by omega, by omega, by omega⟩, r⟩
  rw [e1, e2, e3, show ((yr (t / 1440 + 1)).toNat : Int) = yr (t / 1440 + 1) by omega, show ((mo (t / 1440 + 1)).toNat : Int) = mo (t / 1440 + 1) by omega, show ((da (t / 1440 + 1)).toNat : Int) = da (t / 1440 + 1) by omega]
  exact ok
theorem raw_lt {l : List UInt8} (h : good l) : raw l < last := by
  obtain ⟨o, a, b, c⟩ := h
  have := num_bd o
  unfold raw last; omega
theorem txt_back {l : List UInt8} (hf : frm l = true) (h : good l) : txt (raw l) = l := by
  have hl := raw_lt h
  obtain ⟨o, a, b, c⟩ := h
  have nb := num_bd o
  have d1 : raw l / 1440 + 1 = num (nm l 0 4) (nm l 5 7) (nm l 8 10) := by unfold raw; omega
  have d2' : raw l % 1440 / 60 = nm l 11 13 := by unfold raw; omega
  have d3 : raw l % 60 = nm l 14 16 := by unfold raw; omega
  obtain ⟨D1, D2, D3⟩ := date_of o rfl
  unfold txt
  rw [d1, d2', d3, D1, D2, D3]
  exact frm_back hf
theorem frm_dg {l : List UInt8} (h : frm l = true) : (∀ c ∈ (l.drop 0).take (4 - 0), isDg c = true) ∧ (∀ c ∈ (l.drop 5).take (7 - 5), isDg c = true) ∧ (∀ c ∈ (l.drop 8).take (10 - 8), isDg c = true) ∧ (∀ c ∈ (l.drop 11).take (13 - 11), isDg c = true) ∧ (∀ c ∈ (l.drop 14).take (16 - 14), isDg c = true) := by
  obtain ⟨a, b, c, d, f, g, j, k, n, o, q, r, rfl, ⟨ha, hb, hc, hd⟩, ⟨hf, hg⟩, ⟨hj, hk⟩, ⟨hn, ho⟩, ⟨hq, hr⟩⟩ := frm_parts h
  refine ⟨?_, ?_, ?_, ?_, ?_⟩ <;> simp [*]
end Go.Proofs.YthdohcjingfpoaaGreatDoor.Txt
namespace Go.Proofs.YthdohcjingfpoaaGreatDoor.Txt
open Go.Lib Cal

/-! The text of a date. -/
def dt3 (y m d : Nat) : List UInt8 := d2 (y / 100) ++ d2 y ++ [45] ++ d2 m ++ [45] ++ d2 d
/-- A day's date as text. -/
def dt (n : Int) : List UInt8 := dt3 (yr n).toNat (mo n).toNat (da n).toNat
/-- Midnight behind a date makes it the text of a time. -/
def mid : List UInt8 := [32, 48, 48, 58, 48, 48]
/-- Is a text of a date's form? -/
def dfB (l : List UInt8) : Bool := frm (l ++ mid)
def okB (y m d : Int) : Bool := decide (1900 ≤ y ∧ y ≤ 2199 ∧ 1 ≤ m ∧ m ≤ 12 ∧ 1 ≤ d ∧ d ≤ ml y m)
theorem okB_iff {y m d : Int} : okB y m d = true ↔ okD y m d := by unfold okB okD; rw [decide_eq_true_eq]
/-- The day of a text; none: it is no text of a date. -/
def dr (l : List UInt8) : Option Int := if (dfB l && okB (nm l 0 4) (nm l 5 7) (nm l 8 10)) = true then some (num (nm l 0 4) (nm l 5 7) (nm l 8 10)) else none
theorem tmt_dt (y m d : Nat) : tmt y m d 0 0 = dt3 y m d ++ mid := by
  unfold tmt dt3 mid
  simp [d2]
theorem nm_app (l r : List UInt8) (a b : Nat) (h : b ≤ l.length) : nm (l ++ r) a b = nm l a b := by
  unfold nm
  rcases Nat.lt_or_ge b a with q | q
  · rw [show b - a = 0 by omega]; simp
  · rw [List.drop_append_of_le_length (by omega), List.take_append_of_le_length (by rw [List.length_drop]; omega)]
theorem dfB_len {l : List UInt8} (h : dfB l = true) : l.length = 10 := by
  have := frm_len h
  simp [mid] at this
  omega
theorem dt3_len (y m d : Nat) : (dt3 y m d).length = 10 := rfl
theorem dr_dt {n : Int} (h1 : 1 ≤ n) (h2 : n ≤ 109573) : dr (dt n) = some n := by
  have ok := date_ok h1 h2
  obtain ⟨y1, y2, m1, m2, d1, d2⟩ := id ok
  have lb := ml_bd (yr n) (mo n)
  have F : dfB (dt n) = true := by unfold dfB dt; rw [← tmt_dt]; exact tmt_frm _ _ _ _ _
  obtain ⟨a, b, c, _, _⟩ := tmt_nm (yr n).toNat (mo n).toNat (da n).toNat 0 0 (by omega) (by omega) (by omega) (by omega) (by omega)
  rw [tmt_dt, nm_app _ _ _ _ (by rw [dt3_len]; omega)] at a b c
  have a' : ((nm (dt n) 0 4 : Nat) : Int) = yr n := by unfold dt; rw [a]; omega
  have b' : ((nm (dt n) 5 7 : Nat) : Int) = mo n := by unfold dt; rw [b]; omega
  have c' : ((nm (dt n) 8 10 : Nat) : Int) = da n := by unfold dt; rw [c]; omega
  unfold dr
  rw [a', b', c', F, okB_iff.2 ok, if_pos (show (true && true) = true from rfl), date_num]
theorem dt_dr {l : List UInt8} {n : Int} (h : dr l = some n) : dt n = l ∧ 1 ≤ n ∧ n ≤ 109573 := by
  unfold dr at h
  split at h
  · rename_i hk
    rw [Bool.and_eq_true] at hk
    obtain ⟨F, O⟩ := hk
    have O := okB_iff.1 O
    have e := Option.some.inj h
    have nb := num_bd O
    obtain ⟨e1, e2, e3⟩ := date_of O e
    have L := dfB_len F
    have B := frm_back F
    rw [nm_app _ _ _ _ (by omega), nm_app _ _ _ _ (by omega), nm_app _ _ _ _ (by omega)] at B
    have z1 : nm (l ++ mid) 11 13 = 0 := by
      unfold nm
      rw [List.drop_append, List.drop_eq_nil_of_le (by omega), L]; rfl
    have z2 : nm (l ++ mid) 14 16 = 0 := by
      unfold nm
      rw [List.drop_append, List.drop_eq_nil_of_le (by omega), L]; rfl
    rw [z1, z2, tmt_dt] at B
    refine ⟨?_, by omega, by omega⟩
    unfold dt
    rw [e1, e2, e3]
    exact List.append_cancel_right B
  · cases h

/-! Weekdays, with a number ahead or without. -/
/-- The names of the days, from 1 on. -/
def dn (k : Int) : List UInt8 := if k = 1 then [109, 111] else if k = 2 then [116, 117] else if k = 3 then [119, 101] else if k = 4 then [116, 104] else if k = 5 then [102, 114] else if k = 6 then [115, 97] else if k = 7 then [115, 117] else []
/-- Which day a name is; 0: none. -/
def dk (l : List UInt8) : Int := if l = [109, 111] then 1 else if l = [116, 117] then 2 else if l = [119, 101] then 3 else if l = [116, 104] then 4 else if l = [102, 114] then 5 else if l = [115, 97] then 6 else if l = [115, 117] then 7 else 0
theorem dn_len {k : Int} (h1 : 1 ≤ k) (h7 : k ≤ 7) : (dn k).length = 2 := by
  rcases (by omega : k = 1 ∨ k = 2 ∨ k = 3 ∨ k = 4 ∨ k = 5 ∨ k = 6 ∨ k = 7) with rfl | rfl | rfl | rfl | rfl | rfl | rfl <;> rfl
theorem dk_dn {k : Int} (h1 : 1 ≤ k) (h7 : k ≤ 7) : dk (dn k) = k := by
  rcases (by omega : k = 1 ∨ k = 2 ∨ k = 3 ∨ k = 4 ∨ k = 5 ∨ k = 6 ∨ k = 7) with rfl | rfl | rfl | rfl | rfl | rfl | rfl <;> decide
theorem dn_dk {l : List UInt8} (h : dk l ≠ 0) : dn (dk l) = l ∧ 1 ≤ dk l ∧ dk l ≤ 7 := by
  unfold dk at *
  repeat (split at h; (rename_i e; rw [if_pos e] ; subst e; decide); rename_i e; rw [if_neg e])
  exact absurd rfl h
/-- A weekday as text: its number, if it is not 0, and its name. -/
def wt (x : Int × Int) : List UInt8 := (if x.1 = 0 then [] else nt x.1) ++ dn x.2
/-- The weekday of a text; none: it is none. -/
def wr (l : List UInt8) : Option (Int × Int) :=
  if l.length < 2 then none else if dk (l.drop (l.length - 2)) = 0 then none else
  if l.length = 2 then some (0, dk (l.drop (l.length - 2))) else
  match nr 4 (l.take (l.length - 2)) with
  | some n => if n = 0 then none else some (n, dk (l.drop (l.length - 2)))
  | none => none
theorem nt_ne (n : Int) : nt n ≠ [] := by
  unfold nt; split
  · simp
  · exact dec_ne _
theorem wr_wt {N k : Int} (h1 : 1 ≤ k) (h7 : k ≤ 7) (hN : N.natAbs < 10000) : wr (wt (N, k)) = some (N, k) := by
  have L := dn_len h1 h7
  have K := dk_dn h1 h7
  unfold wr wt
  by_cases hz : N = 0
  · subst hz
    simp only [if_true, List.nil_append, L, Nat.sub_self, List.drop_zero, K]
    rw [if_neg (by omega), if_neg (by omega)]
  · have hl : 1 ≤ (nt N).length := by
      cases hh : nt N with
      | nil => exact absurd hh (nt_ne N)
      | cons a l => simp
    have e1 : ((nt N ++ dn k).length - 2) = (nt N).length := by rw [List.length_append, L]; omega
    simp only [if_neg hz, e1, List.drop_left, List.take_left, K, nr_nt N 3 hN]
    rw [if_neg (by rw [List.length_append, L]; omega), if_neg (by omega), if_neg (by rw [List.length_append, L]; omega)]
theorem wt_wr {l : List UInt8} {N k : Int} (h : wr l = some (N, k)) : wt (N, k) = l ∧ 1 ≤ k ∧ k ≤ 7 ∧ N.natAbs < 10000 := by
  unfold wr at h
  split at h
  · cases h
  split at h
  · cases h
  rename_i hl hd
  obtain ⟨D, D1, D7⟩ := dn_dk hd
  split at h
  · rename_i h2
    have e := Option.some.inj h
    have e1 : (0 : Int) = N := congrArg Prod.fst e
    have e2 : dk (l.drop (l.length - 2)) = k := congrArg Prod.snd e
    subst e1 e2
    refine ⟨?_, D1, D7, by decide⟩
    unfold wt
    rw [D, h2]; simp
  · cases hn : nr 4 (l.take (l.length - 2)) with
    | none => rw [hn] at h; cases h
    | some n =>
      rw [hn] at h
      dsimp only at h
      split at h
      · cases h
      · rename_i hz
        have e := Option.some.inj h
        have e1 : n = N := congrArg Prod.fst e
        have e2 : dk (l.drop (l.length - 2)) = k := congrArg Prod.snd e
        subst e1 e2
        obtain ⟨a, b⟩ := nt_nr hn
        refine ⟨?_, D1, D7, b⟩
        unfold wt
        dsimp only
        rw [if_neg hz, D, a]
        exact List.take_append_drop _ _

/-! Lists, with commas between. -/
def mapO {α : Type} (rd : List UInt8 → Option α) : List (List UInt8) → Option (List α)
  | [] => some []
  | w :: ws => match rd w with
    | some x => (mapO rd ws).map (x :: ·)
    | none => none
/-- The list of a text; none: it is none. -/
def lr {α : Type} (rd : List UInt8 → Option α) (l : List UInt8) : Option (List α) := mapO rd (cutAt 44 l)
/-- A list as text. -/
def lt {α : Type} (tx : α → List UInt8) (xs : List α) : List UInt8 := joinBy 44 (xs.map tx)
theorem mapO_map {α : Type} (rd : List UInt8 → Option α) (tx : α → List UInt8) (xs : List α) (h : ∀ x ∈ xs, rd (tx x) = some x) : mapO rd (xs.map tx) = some xs := by
  induction xs with
  | nil => rfl
  | cons x xs ih =>
    rw [List.map_cons]
    unfold mapO
    rw [h x (by simp), ih (fun y hy => h y (by simp [hy]))]
    rfl
theorem map_mapO {α : Type} (rd : List UInt8 → Option α) (tx : α → List UInt8) (hb : ∀ w x, rd w = some x → tx x = w) : ∀ (ws : List (List UInt8)) (xs : List α), mapO rd ws = some xs → xs.map tx = ws ∧ ∀ x ∈ xs, rd (tx x) = some x := by
  intro ws
  induction ws with
  | nil => intro xs h; simp [mapO] at h; subst h; simp
  | cons w ws ih =>
    intro xs h
    unfold mapO at h
    cases hw : rd w with
    | none => rw [hw] at h; cases h
    | some x =>
      rw [hw] at h
      obtain ⟨ys, hy, rfl⟩ := Option.map_eq_some_iff.1 h
      obtain ⟨a, b⟩ := ih ys hy
      refine ⟨by rw [List.map_cons, a, hb w x hw], fun z hz => ?_⟩
      rcases List.mem_cons.1 hz with rfl | hz
      · rw [hb w z hw]; exact hw
      · exact b z hz
theorem lr_lt {α : Type} (rd : List UInt8 → Option α) (tx : α → List UInt8) (xs : List α) (hn : xs ≠ []) (h : ∀ x ∈ xs, rd (tx x) = some x ∧ (44 : UInt8) ∉ tx x) : lr rd (lt tx xs) = some xs := by
  unfold lr lt
  rw [cut_join 44 (xs.map tx) (by simpa using hn) (fun w hw => by
    obtain ⟨x, hx, rfl⟩ := List.mem_map.1 hw
    exact (h x hx).2)]
  exact mapO_map rd tx xs (fun x hx => (h x hx).1)
theorem lt_lr {α : Type} (rd : List UInt8 → Option α) (tx : α → List UInt8) (hb : ∀ w x, rd w = some x → tx x = w) {l : List UInt8} {xs : List α} (h : lr rd l = some xs) : lt tx xs = l ∧ xs ≠ [] ∧ ∀ x ∈ xs, rd (tx x) = some x := by
  unfold lr at h
  obtain ⟨a, b⟩ := map_mapO rd tx hb _ _ h
  refine ⟨by unfold lt; rw [a]; exact join_cut 44 l, fun e => ?_, b⟩
  subst e
  exact cutAt_ne 44 l a.symm

theorem join_snoc (c : UInt8) (ws : List (List UInt8)) (w : List UInt8) (h : ws ≠ []) : joinBy c (ws ++ [w]) = joinBy c ws ++ c :: w := by
  induction ws with
  | nil => exact absurd rfl h
  | cons a l ih =>
    cases l with
    | nil => rfl
    | cons b l =>
      rw [List.cons_append, joinBy_cons c a (by simp), ih (by simp), joinBy_cons c a (by simp)]
      simp
theorem lt_snoc {α : Type} (tx : α → List UInt8) (xs : List α) (x : α) (h : xs ≠ []) : lt tx (xs ++ [x]) = lt tx xs ++ 44 :: tx x := by
  unfold lt
  rw [List.map_append, List.map_singleton, join_snoc 44 _ _ (by simpa using h)]
theorem lt_one {α : Type} (tx : α → List UInt8) (x : α) : lt tx [x] = tx x := rfl
theorem nt_len (n : Int) (h0 : -999999999 ≤ n) (h1 : n ≤ 999999999) : (nt n).length ≤ 10 := by
  have := dec_len n.natAbs 8 (by omega)
  unfold nt
  split <;> simp <;> omega

/-! What bytes a number, a date, a weekday have. -/
/-- Digits, '-', letters: neither ',' nor a blank. -/
def word (c : UInt8) : Bool := decide (c ≠ 44 ∧ c ≠ 32)
theorem word_dg {c : UInt8} (h : isDg c = true) : word c = true := by
  have := isDg_iff.1 h
  unfold word
  rw [decide_eq_true_eq]
  refine ⟨fun e => ?_, fun e => ?_⟩ <;> subst e <;> exact absurd h (by decide)
theorem nt_word (n : Int) : ∀ c ∈ nt n, word c = true := by
  intro c hc
  unfold nt at hc
  split at hc
  · rcases List.mem_cons.1 hc with rfl | hc
    · decide
    · exact word_dg (dec_is _ c hc)
  · exact word_dg (dec_is _ c hc)
theorem d2_word (n : Nat) : ∀ c ∈ d2 n, word c = true := fun c hc => word_dg (d2_is n c hc)
theorem dt_word (n : Int) : ∀ c ∈ dt n, word c = true := by
  intro c hc
  unfold dt dt3 at hc
  simp only [List.mem_append, List.mem_singleton] at hc
  rcases hc with ((((hc | hc) | rfl) | hc) | rfl) | hc
  · exact d2_word _ c hc
  · exact d2_word _ c hc
  · decide
  · exact d2_word _ c hc
  · decide
  · exact d2_word _ c hc
theorem dn_word (k : Int) : ∀ c ∈ dn k, word c = true := by
  unfold dn
  repeat (split; (intro c hc; simp only [List.mem_cons, List.not_mem_nil, or_false] at hc; rcases hc with rfl | rfl <;> decide))
  intro c hc; simp at hc
theorem wt_word (x : Int × Int) : ∀ c ∈ wt x, word c = true := by
  intro c hc
  unfold wt at hc
  rcases List.mem_append.1 hc with hc | hc
  · split at hc
    · simp at hc
    · exact nt_word _ c hc
  · exact dn_word _ c hc
theorem no_comma {l : List UInt8} (h : ∀ c ∈ l, word c = true) : (44 : UInt8) ∉ l := fun k => absurd (h 44 k) (by decide)
theorem no_blank {l : List UInt8} (h : ∀ c ∈ l, word c = true) : (32 : UInt8) ∉ l := fun k => absurd (h 32 k) (by decide)
theorem lt_blank {α : Type} (tx : α → List UInt8) (xs : List α) (h : ∀ x, ∀ c ∈ tx x, word c = true) : (32 : UInt8) ∉ lt tx xs := by
  unfold lt
  induction xs with
  | nil => simp [joinBy]
  | cons x xs ih =>
    cases xs with
    | nil => simpa [joinBy] using no_blank (h x)
    | cons y ys =>
      rw [List.map_cons, joinBy_cons 44 (tx x) (by simp)]
      intro hc
      rcases List.mem_append.1 hc with hc | hc
      · exact no_blank (h x) hc
      · rcases List.mem_cons.1 hc with hc | hc
        · exact absurd hc (by decide)
        · exact ih hc
end Go.Proofs.YthdohcjingfpoaaGreatDoor.Txt
namespace Go.Proofs.YthdohcjingfpoaaGreatDoor.Txt
open Go.Lib Cal

/-- A rule. -/
structure Rl where
  freq : Int
  every : Int
  count : Int
  till : Int
  months : List Int
  days : List Int
  weeks : List (Int × Int)
  pick : List Int
/-- The words by which parts of a rule begin. -/
def kw (k : Nat) : List UInt8 := if k = 0 then [101, 118, 101, 114, 121] else if k = 1 then [99, 111, 117, 110, 116] else if k = 2 then [117, 110, 116, 105, 108] else if k = 3 then [109, 111, 110, 116, 104, 115] else if k = 4 then [100, 97, 121, 115] else if k = 5 then [111, 110] else [112, 105, 99, 107]
/-- How often. -/
def fq (k : Int) : List UInt8 := if k = 1 then [100, 97, 105, 108, 121] else if k = 2 then [119, 101, 101, 107, 108, 121] else if k = 3 then [109, 111, 110, 116, 104, 108, 121] else if k = 4 then [121, 101, 97, 114, 108, 121] else []
def fk (l : List UInt8) : Int := if l = [100, 97, 105, 108, 121] then 1 else if l = [119, 101, 101, 107, 108, 121] then 2 else if l = [109, 111, 110, 116, 104, 108, 121] then 3 else if l = [121, 101, 97, 114, 108, 121] then 4 else 0
/-- The words of a part: none, or its word and its text. -/
def part (k : Nat) (r : Rl) : List (List UInt8) :=
  if k = 0 then (if r.every = 1 then [] else [kw 0, nt r.every])
  else if k = 1 then (if r.count = 0 then [] else [kw 1, nt r.count])
  else if k = 2 then (if r.till = 0 then [] else [kw 2, dt r.till])
  else if k = 3 then (if r.months = [] then [] else [kw 3, lt nt r.months])
  else if k = 4 then (if r.days = [] then [] else [kw 4, lt nt r.days])
  else if k = 5 then (if r.weeks = [] then [] else [kw 5, lt wt r.weeks])
  else (if r.pick = [] then [] else [kw 6, lt nt r.pick])
/-- The last so many parts. -/
def parts : Nat → Rl → List (List UInt8)
  | 0, _ => []
  | m + 1, r => part (6 - m) r ++ parts m r
/-- A rule as text. -/
def rt (r : Rl) : List UInt8 := joinBy 32 (fq r.freq :: parts 7 r)
/-- A part's text is read into a rule. -/
def ap (k : Nat) (v : List UInt8) (r : Rl) : Option Rl :=
  if k = 0 then (match nr 4 v with | some n => if n = 1 then none else some { r with every := n } | none => none)
  else if k = 1 then (match nr 4 v with | some n => if n = 0 then none else some { r with count := n } | none => none)
  else if k = 2 then (match dr v with | some n => some { r with till := n } | none => none)
  else if k = 3 then (match lr (nr 4) v with | some l => some { r with months := l } | none => none)
  else if k = 4 then (match lr (nr 4) v with | some l => some { r with days := l } | none => none)
  else if k = 5 then (match lr wr v with | some l => some { r with weeks := l } | none => none)
  else (match lr (nr 4) v with | some l => some { r with pick := l } | none => none)
/-- The last so many parts are read. -/
def rdF : Nat → Rl → List (List UInt8) → Option Rl
  | 0, r, ws => if ws = [] then some r else none
  | m + 1, r, ws => match ws with
    | [] => some r
    | [_] => none
    | w :: v :: rest => if w = kw (6 - m) then (match ap (6 - m) v r with | some r' => rdF m r' rest | none => none) else rdF m r ws
/-- A rule of words, ahead of its parts. -/
def r0 (f : Int) : Rl := { freq := f, every := 1, count := 0, till := 0, months := [], days := [], weeks := [], pick := [] }
/-- The rule of a text, as far as its form goes; none: it is no such text. -/
def rr (s : List UInt8) : Option Rl := match cutAt 32 s with
  | [] => none
  | w :: ws => if fk w = 0 then none else rdF 7 (r0 (fk w)) ws
/-- Rules that can be written. -/
def Syn (r : Rl) : Prop := (1 ≤ r.freq ∧ r.freq ≤ 4) ∧ r.every.natAbs < 10000 ∧ r.count.natAbs < 10000 ∧ (r.till = 0 ∨ (1 ≤ r.till ∧ r.till ≤ 109573)) ∧
  (∀ n ∈ r.months, n.natAbs < 10000) ∧ (∀ n ∈ r.days, n.natAbs < 10000) ∧ (∀ x ∈ r.weeks, x.1.natAbs < 10000 ∧ 1 ≤ x.2 ∧ x.2 ≤ 7) ∧ (∀ n ∈ r.pick, n.natAbs < 10000)
/-- A rule without its last so many parts. -/
def base (m : Nat) (r : Rl) : Rl where
  freq := r.freq
  every := if 7 ≤ m then 1 else r.every
  count := if 6 ≤ m then 0 else r.count
  till := if 5 ≤ m then 0 else r.till
  months := if 4 ≤ m then [] else r.months
  days := if 3 ≤ m then [] else r.days
  weeks := if 2 ≤ m then [] else r.weeks
  pick := if 1 ≤ m then [] else r.pick
theorem fk_fq {k : Int} (h1 : 1 ≤ k) (h4 : k ≤ 4) : fk (fq k) = k := by
  rcases (by omega : k = 1 ∨ k = 2 ∨ k = 3 ∨ k = 4) with rfl | rfl | rfl | rfl <;> decide
theorem fq_fk {l : List UInt8} (h : fk l ≠ 0) : fq (fk l) = l ∧ 1 ≤ fk l ∧ fk l ≤ 4 := by
  unfold fk at *
  repeat (split at h; (rename_i e; rw [if_pos e]; subst e; decide); rename_i e; rw [if_neg e])
  exact absurd rfl h
theorem seven {m : Nat} (h : m < 7) : m = 0 ∨ m = 1 ∨ m = 2 ∨ m = 3 ∨ m = 4 ∨ m = 5 ∨ m = 6 := by omega
theorem kw_ne {i j : Nat} (hi : i < 7) (hj : j < 7) (h : i ≠ j) : kw i ≠ kw j := by
  rcases seven hi with rfl | rfl | rfl | rfl | rfl | rfl | rfl <;> rcases seven hj with rfl | rfl | rfl | rfl | rfl | rfl | rfl <;> first | (exact absurd rfl h) | decide
/-- A part is none, or begins by its word. -/
theorem part_two (k : Nat) (hk : k < 7) (r : Rl) : part k r = [] ∨ ∃ v, part k r = [kw k, v] := by
  rcases seven hk with rfl | rfl | rfl | rfl | rfl | rfl | rfl <;> simp only [part] <;> simp <;> split <;> simp_all
theorem parts_head (m : Nat) (hm : m ≤ 7) (r : Rl) : parts m r = [] ∨ ∃ k v rest, 7 - m ≤ k ∧ k < 7 ∧ parts m r = kw k :: v :: rest := by
  induction m with
  | zero => exact Or.inl rfl
  | succ m ih =>
    unfold parts
    rcases part_two (6 - m) (by omega) r with e | ⟨v, e⟩
    · rw [e, List.nil_append]
      rcases ih (by omega) with e | ⟨k, v, rest, a, b, c⟩
      · exact Or.inl e
      · exact Or.inr ⟨k, v, rest, by omega, b, c⟩
    · rw [e]
      exact Or.inr ⟨6 - m, v, parts m r, by omega, by omega, rfl⟩
/-- What is not there is passed by. -/
theorem rdF_pass (m : Nat) (hm : m < 7) (q r : Rl) : rdF (m + 1) q (parts m r) = rdF m q (parts m r) := by
  rcases parts_head m (by omega) r with e | ⟨k, v, rest, a, b, c⟩
  · rw [e]
    cases m <;> simp [rdF]
  · rw [c]
    conv => lhs; unfold rdF
    dsimp only
    rw [if_neg (kw_ne (j := 6 - m) b (by omega) (by omega))]
theorem rdF_hit (m : Nat) {q q' : Rl} {v : List UInt8} (h : ap (6 - m) v q = some q') (rest : List (List UInt8)) : rdF (m + 1) q (kw (6 - m) :: v :: rest) = rdF m q' rest := by
  conv => lhs; unfold rdF
  dsimp only
  rw [if_pos rfl, h]
theorem nrs {n : Int} (h : n.natAbs < 10000) : nr 4 (nt n) = some n := nr_nt n 3 h
theorem lrs {l : List Int} (hn : l ≠ []) (h : ∀ n ∈ l, n.natAbs < 10000) : lr (nr 4) (lt nt l) = some l :=
  lr_lt (nr 4) nt l hn (fun n hm => ⟨nrs (h n hm), no_comma (nt_word n)⟩)
theorem lws {l : List (Int × Int)} (hn : l ≠ []) (h : ∀ x ∈ l, x.1.natAbs < 10000 ∧ 1 ≤ x.2 ∧ x.2 ≤ 7) : lr wr (lt wt l) = some l :=
  lr_lt wr wt l hn (fun x hm => ⟨wr_wt (h x hm).2.1 (h x hm).2.2 (h x hm).1, no_comma (wt_word x)⟩)
/-- One part: where it is none nothing is missing, else its text is read into what was there. -/
theorem part_read (m : Nat) (hm : m < 7) (r : Rl) (h : Syn r) : (part (6 - m) r = [] ∧ base (m + 1) r = base m r) ∨ ∃ v, part (6 - m) r = [kw (6 - m), v] ∧ ap (6 - m) v (base (m + 1) r) = some (base m r) := by
  obtain ⟨_, h1, h2, h3, h4, h5, h6, h7⟩ := h
  rcases seven hm with rfl | rfl | rfl | rfl | rfl | rfl | rfl
  · by_cases e : r.pick = []
    · exact Or.inl ⟨by simp [part, e], by simp [base, e]⟩
    · exact Or.inr ⟨lt nt r.pick, by simp [part, e], by simp [ap, lrs e h7, base]⟩
  · by_cases e : r.weeks = []
    · exact Or.inl ⟨by simp [part, e], by simp [base, e]⟩
    · exact Or.inr ⟨lt wt r.weeks, by simp [part, e], by simp [ap, lws e h6, base]⟩
  · by_cases e : r.days = []
    · exact Or.inl ⟨by simp [part, e], by simp [base, e]⟩
    · exact Or.inr ⟨lt nt r.days, by simp [part, e], by simp [ap, lrs e h5, base]⟩
  · by_cases e : r.months = []
    · exact Or.inl ⟨by simp [part, e], by simp [base, e]⟩
    · exact Or.inr ⟨lt nt r.months, by simp [part, e], by simp [ap, lrs e h4, base]⟩
  · by_cases e : r.till = 0
    · exact Or.inl ⟨by simp [part, e], by simp [base, e]⟩
    · have k := h3.resolve_left e
      exact Or.inr ⟨dt r.till, by simp [part, e], by simp [ap, dr_dt k.1 k.2, base]⟩
  · by_cases e : r.count = 0
    · exact Or.inl ⟨by simp [part, e], by simp [base, e]⟩
    · exact Or.inr ⟨nt r.count, by simp [part, e], by simp [ap, nrs h2, base, e]⟩
  · by_cases e : r.every = 1
    · exact Or.inl ⟨by simp [part, e], by simp [base, e]⟩
    · exact Or.inr ⟨nt r.every, by simp [part, e], by simp [ap, nrs h1, base, e]⟩
theorem parts_read (m : Nat) (hm : m ≤ 7) (r : Rl) (h : Syn r) : rdF m (base m r) (parts m r) = some r := by
  induction m with
  | zero => simp [rdF, parts, base]
  | succ m ih =>
    have k := ih (by omega)
    rcases part_read m (by omega) r h with ⟨e, b⟩ | ⟨v, e, b⟩
    · show rdF (m + 1) (base (m + 1) r) (part (6 - m) r ++ parts m r) = some r
      rw [e, List.nil_append, rdF_pass m (by omega), b, k]
    · show rdF (m + 1) (base (m + 1) r) (part (6 - m) r ++ parts m r) = some r
      rw [e]
      exact (rdF_hit m b _).trans k
theorem kw_blank (k : Nat) : (32 : UInt8) ∉ kw k := by
  unfold kw
  repeat (split; decide)
  decide
theorem fq_blank (k : Int) : (32 : UInt8) ∉ fq k := by
  unfold fq
  repeat (split; decide)
  decide
theorem part_blank (k : Nat) (r : Rl) : ∀ w ∈ part k r, (32 : UInt8) ∉ w := by
  intro w hw
  unfold part at hw
  repeat (split at hw; (split at hw; (simp at hw); (simp only [List.mem_cons, List.not_mem_nil, or_false] at hw; rcases hw with rfl | rfl; (exact kw_blank _); first | exact no_blank (nt_word _) | exact no_blank (dt_word _) | exact lt_blank _ _ nt_word | exact lt_blank _ _ wt_word)))
  split at hw
  · simp at hw
  · simp only [List.mem_cons, List.not_mem_nil, or_false] at hw
    rcases hw with rfl | rfl
    · exact kw_blank _
    · exact lt_blank _ _ nt_word
theorem parts_blank (m : Nat) (r : Rl) : ∀ w ∈ parts m r, (32 : UInt8) ∉ w := by
  induction m with
  | zero => intro w hw; simp [parts] at hw
  | succ m ih =>
    intro w hw
    rcases List.mem_append.1 hw with hw | hw
    · exact part_blank _ r w hw
    · exact ih w hw
/-- A rule is read as it was written. -/
theorem rr_rt (r : Rl) (h : Syn r) : rr (rt r) = some r := by
  unfold rr rt
  rw [cut_join 32 _ (by simp) (fun w hw => by
    rcases List.mem_cons.1 hw with rfl | hw
    · exact fq_blank _
    · exact parts_blank 7 r w hw)]
  dsimp only
  rw [fk_fq h.1.1 h.1.2, if_neg (by have := h.1.1; omega)]
  exact parts_read 7 (by omega) r h

/-! And back. -/
theorem Rl.eq {a b : Rl} (h1 : a.freq = b.freq) (h2 : a.every = b.every) (h3 : a.count = b.count) (h4 : a.till = b.till) (h5 : a.months = b.months) (h6 : a.days = b.days) (h7 : a.weeks = b.weeks) (h8 : a.pick = b.pick) : a = b := by
  cases a; cases b; simp at *; exact ⟨h1, h2, h3, h4, h5, h6, h7, h8⟩
theorem part_base (m : Nat) (hm : m < 7) (r : Rl) : part (6 - m) (base m r) = part (6 - m) r := by
  rcases seven hm with rfl | rfl | rfl | rfl | rfl | rfl | rfl <;> simp [part, base]
theorem part_none (m : Nat) (hm : m < 7) (r : Rl) : part (6 - m) (base (m + 1) r) = [] := by
  rcases seven hm with rfl | rfl | rfl | rfl | rfl | rfl | rfl <;> simp [part, base]
theorem base_base (m : Nat) (hm : m < 7) (r : Rl) : base (m + 1) (base m r) = base (m + 1) r := by
  rcases seven hm with rfl | rfl | rfl | rfl | rfl | rfl | rfl <;> simp [base]
theorem base_le (m : Nat) (hm : m < 7) (r : Rl) : base m (base (m + 1) r) = base (m + 1) r := by
  rcases seven hm with rfl | rfl | rfl | rfl | rfl | rfl | rfl <;> simp [base]
theorem parts_none (m : Nat) (hm : m ≤ 7) (r : Rl) : parts m (base m r) = [] := by
  induction m generalizing r with
  | zero => rfl
  | succ m ih =>
    show part (6 - m) (base (m + 1) r) ++ parts m (base (m + 1) r) = []
    rw [part_none m (by omega), ← base_le m (by omega), ih (by omega)]
    rfl
theorem nr4 {v : List UInt8} {n : Int} (h : nr 4 v = some n) : nt n = v ∧ n.natAbs < 10000 := nt_nr h
theorem lr4 {v : List UInt8} {l : List Int} (h : lr (nr 4) v = some l) : lt nt l = v ∧ l ≠ [] ∧ ∀ n ∈ l, n.natAbs < 10000 := by
  obtain ⟨a, b, c⟩ := lt_lr (nr 4) nt (fun w x hx => (nt_nr hx).1) h
  exact ⟨a, b, fun n hn => (nt_nr (c n hn)).2⟩
theorem lrw {v : List UInt8} {l : List (Int × Int)} (h : lr wr v = some l) : lt wt l = v ∧ l ≠ [] ∧ ∀ x ∈ l, x.1.natAbs < 10000 ∧ 1 ≤ x.2 ∧ x.2 ≤ 7 := by
  obtain ⟨a, b, c⟩ := lt_lr wr wt (fun w x hx => (wt_wr (N := x.1) (k := x.2) hx).1) h
  exact ⟨a, b, fun x hx => by
    have := wt_wr (N := x.1) (k := x.2) (c x hx)
    exact ⟨this.2.2.2, this.2.1, this.2.2.1⟩⟩
/-- What a part's text is read into is that, with the part. -/
theorem ap_part (m : Nat) (hm : m < 7) {v : List UInt8} {q q' : Rl} (hq : base (m + 1) q = q) (hS : Syn q) (h : ap (6 - m) v q = some q') : part (6 - m) q' = [kw (6 - m), v] ∧ base (m + 1) q' = q ∧ base m q' = q' ∧ Syn q' := by
  obtain ⟨g0, g1, g2, g3, g4, g5, g6, g7⟩ := hS
  rcases seven hm with rfl | rfl | rfl | rfl | rfl | rfl | rfl
  · cases e : lr (nr 4) v with
    | none => simp [ap, e] at h
    | some l =>
      simp [ap, e] at h
      subst h
      obtain ⟨a, b, c⟩ := lr4 e
      rw [← hq]
      exact ⟨by simp [part, a, b], by simp [base], by simp [base], g0, g1, g2, g3, g4, g5, g6, c⟩
  · cases e : lr wr v with
    | none => simp [ap, e] at h
    | some l =>
      simp [ap, e] at h
      subst h
      obtain ⟨a, b, c⟩ := lrw e
      rw [← hq]
      exact ⟨by simp [part, a, b], by simp [base], by simp [base], g0, g1, g2, g3, g4, g5, c, by simp [base]⟩
  · cases e : lr (nr 4) v with
    | none => simp [ap, e] at h
    | some l =>
      simp [ap, e] at h
      subst h
      obtain ⟨a, b, c⟩ := lr4 e
      rw [← hq]
      exact ⟨by simp [part, a, b], by simp [base], by simp [base], g0, g1, g2, g3, g4, c, by simp [base], by simp [base]⟩
  · cases e : lr (nr 4) v with
    | none => simp [ap, e] at h
    | some l =>
      simp [ap, e] at h
      subst h
      obtain ⟨a, b, c⟩ := lr4 e
      rw [← hq]
      exact ⟨by simp [part, a, b], by simp [base], by simp [base], g0, g1, g2, g3, c, by simp [base], by simp [base], by simp [base]⟩
  · cases e : dr v with
    | none => simp [ap, e] at h
    | some n =>
      simp [ap, e] at h
      subst h
      obtain ⟨a, b, c⟩ := dt_dr e
      rw [← hq]
      exact ⟨by simp [part, a]; omega, by simp [base], by simp [base], g0, g1, g2, Or.inr ⟨b, c⟩, by simp [base], by simp [base], by simp [base], by simp [base]⟩
  · cases e : nr 4 v with
    | none => simp [ap, e] at h
    | some n =>
      simp [ap, e] at h
      obtain ⟨hn, h⟩ := h
      subst h
      obtain ⟨a, b⟩ := nr4 e
      rw [← hq]
      exact ⟨by simp [part, a, hn], by simp [base], by simp [base], g0, g1, b, by simp [base], by simp [base], by simp [base], by simp [base], by simp [base]⟩
  · cases e : nr 4 v with
    | none => simp [ap, e] at h
    | some n =>
      simp [ap, e] at h
      obtain ⟨hn, h⟩ := h
      subst h
      obtain ⟨a, b⟩ := nr4 e
      rw [← hq]
      exact ⟨by simp [part, a, hn], by simp [base], by simp [base], g0, b, by simp [base], by simp [base], by simp [base], by simp [base], by simp [base], by simp [base]⟩
theorem rdF_back (m : Nat) (hm : m ≤ 7) : ∀ (q r : Rl) (ws : List (List UInt8)), base m q = q → Syn q → rdF m q ws = some r → ws = parts m r ∧ base m r = q ∧ Syn r := by
  induction m with
  | zero =>
    intro q r ws hq hS h
    unfold rdF at h
    split at h
    · rename_i e
      obtain rfl := Option.some.inj h
      exact ⟨e, hq, hS⟩
    · cases h
  | succ m ih =>
    intro q r ws hq hS h
    have hq' : base m q = q := by rw [← hq]; exact base_le m (by omega) q
    match ws, h with
    | [], h =>
      unfold rdF at h
      obtain rfl := Option.some.inj h
      exact ⟨by rw [← hq, parts_none (m + 1) hm], hq, hS⟩
    | [_], h => unfold rdF at h; cases h
    | w :: v :: rest, h =>
      unfold rdF at h
      dsimp only at h
      split at h
      · rename_i hw
        cases ha : ap (6 - m) v q with
        | none => rw [ha] at h; cases h
        | some q' =>
          rw [ha] at h
          obtain ⟨p1, p2, p3, p4⟩ := ap_part m (by omega) hq hS ha
          obtain ⟨b1, b2, b3⟩ := ih (by omega) q' r rest p3 p4 h
          refine ⟨?_, ?_, b3⟩
          · show w :: v :: rest = part (6 - m) r ++ parts m r
            rw [← part_base m (by omega) r, b2, p1, ← b1, hw]; rfl
          · rw [← base_base m (by omega), b2, p2]
      · obtain ⟨b1, b2, b3⟩ := ih (by omega) q r (w :: v :: rest) hq' hS h
        refine ⟨?_, ?_, b3⟩
        · show w :: v :: rest = part (6 - m) r ++ parts m r
          rw [← part_base m (by omega) r, b2, ← hq, part_none m (by omega), b1]; rfl
        · rw [← base_base m (by omega), b2, hq]
theorem syn_r0 {f : Int} (h1 : 1 ≤ f) (h4 : f ≤ 4) : Syn (r0 f) := ⟨⟨h1, h4⟩, by simp [r0], by simp [r0], Or.inl rfl, by simp [r0], by simp [r0], by simp [r0], by simp [r0]⟩
/-- What is read as a rule is its text. -/
theorem rt_rr {s : List UInt8} {r : Rl} (h : rr s = some r) : rt r = s ∧ Syn r := by
  unfold rr at h
  cases hc : cutAt 32 s with
  | nil => exact absurd hc (cutAt_ne 32 s)
  | cons w ws =>
    rw [hc] at h
    dsimp only at h
    split at h
    · cases h
    · rename_i hf
      obtain ⟨a, b, c⟩ := fq_fk hf
      obtain ⟨p1, p2, p3⟩ := rdF_back 7 (by omega) (r0 (fk w)) r ws rfl (syn_r0 b c) h
      refine ⟨?_, p3⟩
      have ef : r.freq = fk w := congrArg Rl.freq p2
      unfold rt
      rw [ef, a, ← p1, ← hc, join_cut]
end Go.Proofs.YthdohcjingfpoaaGreatDoor.Txt
