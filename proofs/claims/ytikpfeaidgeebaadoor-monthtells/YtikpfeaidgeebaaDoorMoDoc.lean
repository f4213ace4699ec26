/-
  What is proved here: plain words: a number of a day in two places, as the document reads it, is the one that the program finds.
-/
import Derived.Test.YtikpfeaidgeebaaDoorMoRead
import Derived.Test.YtikpfeaidgeebaaDoorTxtList
namespace Go.Proofs.YtikpfeaidgeebaaDoor.Mo
open Go.RowKit Cal Txt

/-- The number's bytes, without a blank ahead. -/
def bar (q r : UInt8) : List UInt8 := if q = 32 then [r] else [q, r]
theorem nr_dec {k : Nat} (h : k < 100) : nr 2 (Lib.decDigits k) = some (k : Int) := by
  have ok := dec_ok k 1 (by omega) false (fun q => by cases q)
  have nl : ¬ (1 < (Lib.decDigits k).length ∧ (Lib.decDigits k).head? = some 45) := by
    rintro ⟨_, q⟩
    obtain ⟨c, hc, hd⟩ := dec_head_dg k
    rw [hc] at q
    have := isDg_iff.1 hd
    rw [Option.some.inj q] at this
    revert this; decide
  unfold nr
  rw [if_neg nl, if_pos ok, dec_val]
theorem nu_nr {k : Nat} (h2 : k ≤ 31) {q r : UInt8} (h : nu k = [q, r]) : nr 2 (bar q r) = some (k : Int) := by
  by_cases h9 : k < 10
  · unfold nu at h
    rw [if_pos h9] at h
    obtain ⟨rfl, e⟩ : 32 = q ∧ Lib.decDigits k = [r] := by simpa using h
    unfold bar
    rw [if_pos rfl, ← e]
    exact nr_dec (by omega)
  · unfold nu at h
    rw [if_neg h9] at h
    have d := isDg_iff.1 (dec_is k q (by rw [h]; simp))
    have : ¬ q = 32 := fun e => by rw [e] at d; revert d; decide
    unfold bar
    rw [if_neg this, ← h]
    exact nr_dec (by omega)
theorem nr_nu {n : Int} {q r : UInt8} (h : nr 2 (bar q r) = some n) (h1 : 1 ≤ n) : nu n.toNat = [q, r] := by
  unfold nr at h
  split at h
  · split at h
    · have := Option.some.inj h; omega
    · cases h
  · split at h
    · next ok =>
      have e := Option.some.inj h
      have d := (ok_dec ok).1
      have b := (ok_dec ok).2.2
      have en : n.toNat = val (bar q r) := by omega
      rw [en]
      unfold bar at d b ⊢
      by_cases z : q = 32
      · rw [if_pos z] at d b ⊢
        have : val [r] < 10 := by
          rcases Nat.lt_or_ge (val [r]) 10 with g | g
          · exact g
          · have l2 := congrArg List.length d
            by_cases c : val [r] < 100
            · rw [d2_big (by omega) c] at l2; simp [d2] at l2
            · omega
        unfold nu
        rw [if_pos this, d, z]
      · rw [if_neg z] at d ⊢
        have : ¬ val [q, r] < 10 := fun g => by
          have l2 := congrArg List.length d
          rw [dec_one g] at l2
          simp at l2
        unfold nu
        rw [if_neg this, d]
    · cases h
/-- What is read off three bytes, as the document has it. -/
theorem rd_doc_none {p q r : UInt8} (h : ¬ [p, q, r] = [32, 32, 32]) (hn : ∀ n : Int, nr 2 (bar q r) = some n → ¬ (1 ≤ n ∧ n ≤ 31)) : rdL [p, q, r] = (0, 2) :=
  rd_bad h (nv_none (fun k k1 k2 e => hn k (nu_nr k2 e) ⟨by omega, by omega⟩))
theorem rd_doc_some {p q r : UInt8} {n : Int} (h : ¬ [p, q, r] = [32, 32, 32]) (hp : p = 32 ∨ p = 42) (hn : nr 2 (bar q r) = some n) (h1 : 1 ≤ n) (h2 : n ≤ 31) : rdL [p, q, r] = (n, 0) := by
  have e := nr_nu hn h1
  have := rd_num (l := [p, q, r]) (n := n.toNat) h (by rcases hp with rfl | rfl; exact Or.inl rfl; exact Or.inr rfl) (nv_hit (by omega) (by omega) e) (by omega)
  rw [this, Int.toNat_of_nonneg (by omega)]
theorem rd_doc_sign {p q r : UInt8} (h : ¬ [p, q, r] = [32, 32, 32]) (h1 : ¬ p = 32) (h2 : ¬ p = 42) : rdL [p, q, r] = (0, 2) :=
  rd_sign h (fun e => h1 (by simpa using e)) (fun e => h2 (by simpa using e))
end Go.Proofs.YtikpfeaidgeebaaDoor.Mo
