/-
  What is proved here: plain facts on where a ring lies on a wheel: its level and its slot, which slots are gone over on the way to a later time, and which of two rings comes first; no function of the program is walked.
-/
import Derived.Test.YtpnbnnndpbjgmaaDoorQuPut
namespace Go.Proofs.YtpnbnnndpbjgmaaDoor.Qu
open Go.RowKit

/-- A time's level and slot on a wheel that is at another time. -/
structure Sp (now a l s : Nat) : Prop where
  eq : a / 64 ^ (l + 1) = now / 64 ^ (l + 1)
  ne : ∀ i, i < l → a / 64 ^ (i + 1) ≠ now / 64 ^ (i + 1)
  sl : s = a / 64 ^ l % 64
theorem div_up {a b i j : Nat} (h : a / 64 ^ i = b / 64 ^ i) (hij : i ≤ j) : a / 64 ^ j = b / 64 ^ j := by
  obtain ⟨k, rfl⟩ := Nat.le.dest hij
  rw [Nat.pow_add, ← Nat.div_div_eq_div_mul, ← Nat.div_div_eq_div_mul, h]
theorem div_one (a l : Nat) : a / 64 ^ l / 64 = a / 64 ^ (l + 1) := by rw [Nat.pow_succ, Nat.div_div_eq_div_mul]
theorem Sp.uniq {now a l s l' s' : Nat} (h : Sp now a l s) (k : Sp now a l' s') : l = l' ∧ s = s' := by
  rcases Nat.lt_trichotomy l l' with q | q | q
  · exact absurd h.eq (k.ne l q)
  · subst q; exact ⟨rfl, h.sl.trans k.sl.symm⟩
  · exact absurd k.eq (h.ne l' q)
theorem Sp.lt {now a l s : Nat} (h : Sp now a l s) (hn : now < 1073741824) (ha : a < 1073741824) : l < 5 ∧ s < 64 := by
  refine ⟨?_, by rw [h.sl]; exact Nat.mod_lt _ (by decide)⟩
  rcases Nat.lt_or_ge l 5 with q | q
  · exact q
  · refine absurd ?_ (h.ne 4 (by omega))
    have e : (64 : Nat) ^ (4 + 1) = 1073741824 := by decide
    rw [e, Nat.div_eq_of_lt ha, Nat.div_eq_of_lt hn]
/-- Where it is, as one number. -/
theorem sp_ex (now a : Nat) (hn : now < 1073741824) (ha : a < 1073741824) : ∃ l s, Sp now a l s := by
  have e : (64 : Nat) ^ (4 + 1) = 1073741824 := by decide
  have h4 : a / 64 ^ (4 + 1) = now / 64 ^ (4 + 1) := by rw [e, Nat.div_eq_of_lt ha, Nat.div_eq_of_lt hn]
  by_cases h0 : a / 64 ^ (0 + 1) = now / 64 ^ (0 + 1)
  · exact ⟨0, _, h0, fun i hi => by omega, rfl⟩
  by_cases h1 : a / 64 ^ (1 + 1) = now / 64 ^ (1 + 1)
  · exact ⟨1, _, h1, fun i hi => by rcases (by omega : i = 0) with rfl; exact h0, rfl⟩
  by_cases h2 : a / 64 ^ (2 + 1) = now / 64 ^ (2 + 1)
  · exact ⟨2, _, h2, fun i hi => by rcases (by omega : i = 0 ∨ i = 1) with rfl | rfl <;> assumption, rfl⟩
  by_cases h3 : a / 64 ^ (3 + 1) = now / 64 ^ (3 + 1)
  · exact ⟨3, _, h3, fun i hi => by rcases (by omega : i = 0 ∨ i = 1 ∨ i = 2) with rfl | rfl | rfl <;> assumption, rfl⟩
  · exact ⟨4, _, h4, fun i hi => by rcases (by omega : i = 0 ∨ i = 1 ∨ i = 2 ∨ i = 3) with rfl | rfl | rfl | rfl <;> assumption, rfl⟩
/-- What is due is in a slot that is gone over. -/
theorem sp_due {now tt z top last l s : Nat} (ht : Sp now tt top last) (hz : Sp now z l s) (h1 : now < z) (h2 : z ≤ tt) : l < top ∨ (l = top ∧ s ≤ last) := by
  have a1 : now / 64 ^ (top + 1) ≤ z / 64 ^ (top + 1) := Nat.div_le_div_right (by omega)
  have a2 : z / 64 ^ (top + 1) ≤ tt / 64 ^ (top + 1) := Nat.div_le_div_right h2
  have a3 := ht.eq
  have e : z / 64 ^ (top + 1) = now / 64 ^ (top + 1) := by omega
  rcases Nat.lt_trichotomy l top with q | q | q
  · exact Or.inl q
  · subst q
    refine Or.inr ⟨rfl, ?_⟩
    rw [hz.sl, ht.sl]
    have b1 : z / 64 ^ l ≤ tt / 64 ^ l := Nat.div_le_div_right h2
    have b2 : z / 64 ^ l / 64 = tt / 64 ^ l / 64 := by rw [div_one, div_one, e, a3]
    omega
  · exact absurd e (hz.ne top q)
/-- What is in no slot that is gone over stays where it is. -/
theorem sp_kept {now tt z top last l s : Nat} (ht : Sp now tt top last) (hz : Sp now z l s) (h : ¬ (l < top ∨ (l = top ∧ s ≤ last))) : Sp tt z l s := by
  rcases Nat.lt_trichotomy l top with q | q | q
  · exact absurd (Or.inl q) h
  · subst q
    refine ⟨hz.eq.trans ht.eq.symm, fun i hi e => ?_, hz.sl⟩
    have e2 : z / 64 ^ l = tt / 64 ^ l := div_up e (by omega)
    exact h (Or.inr ⟨rfl, by rw [hz.sl, ht.sl, e2]; exact Nat.le_refl _⟩)
  · refine ⟨hz.eq.trans (div_up ht.eq (by omega)).symm, fun i hi e => ?_, hz.sl⟩
    rcases Nat.lt_or_ge i top with r | r
    · exact hz.ne top q ((div_up e (by omega)).trans ht.eq)
    · exact hz.ne i hi (e.trans (div_up ht.eq (by omega)))
/-- Of two rings the one on the lower slot is first. -/
theorem sp_first {now z y lz sz ly sy : Nat} (hz : Sp now z lz sz) (hy : Sp now y ly sy) (h : now < y) (hl : lz < ly ∨ (lz = ly ∧ sz < sy)) : z < y := by
  rcases hl with q | ⟨rfl, q⟩
  · have e1 : z / 64 ^ ly = now / 64 ^ ly := div_up hz.eq (by omega)
    have e2 : y / 64 ^ ly ≠ now / 64 ^ ly := by
      have := hy.ne (ly - 1) (by omega)
      rwa [show ly - 1 + 1 = ly by omega] at this
    have a1 : now / 64 ^ ly ≤ y / 64 ^ ly := Nat.div_le_div_right (by omega)
    rcases Nat.lt_or_ge z y with r | r
    · exact r
    · have a2 : y / 64 ^ ly ≤ z / 64 ^ ly := Nat.div_le_div_right r
      omega
  · have e1 : z / 64 ^ lz / 64 = y / 64 ^ lz / 64 := by rw [div_one, div_one, hz.eq, hy.eq]
    have h1 := hz.sl
    have h2 := hy.sl
    rcases Nat.lt_or_ge z y with r | r
    · exact r
    · have a2 : y / 64 ^ lz ≤ z / 64 ^ lz := Nat.div_le_div_right r
      omega
end Go.Proofs.YtpnbnnndpbjgmaaDoor.Qu
