/-
  What is proved here: what package seq's First, Count, Between, Next and Has answer, each in one row, over the days of the rule in all.
-/
import Derived.Test.YtnnpnalfkcngmacGreatDoorSqNext
import Derived.Test.YtnnpnalfkcngmacGreatDoorBK
namespace Go.Proofs.YtnnpnalfkcngmacGreatDoor
open Go.RowKit Cal Txt

theorem find_same {p q : Int → Bool} : ∀ {l : List Int}, (∀ x ∈ l, p x = q x) → l.find? p = l.find? q
  | [], _ => rfl
  | x :: l, h => by
    rw [List.find?_cons, List.find?_cons, h x (by simp), find_same (fun y hy => h y (List.mem_cons_of_mem _ hy))]
/-- What is next behind a number. -/
def nxt (r : Rl) (s a : Int) : Option Int := (DAYS r s).find? (fun n => decide (a < n))
def nxX (r : Rl) (s a : Int) : Int := if sf r s = 0 then (nxt r s a).getD 0 else 0
def nxG (r : Rl) (s a : Int) : Int := if sf r s = 0 then (if (nxt r s a).isSome = true then 0 else 5) else sf r s
/-- The first ones. -/
def fsL (r : Rl) (s n : Int) : List Int := if ff r s n = 0 then (DAYS r s).take n.toNat else []
/-- How many. -/
def ctN (r : Rl) (s : Int) : Int := if sf r s = 0 then ((min 201 (DAYS r s).length : Nat) : Int) else 0
/-- Those between. -/
def bwA (r : Rl) (s fr t : Int) : List Int := (DAYS r s).filter (fun x => decide (fr ≤ x ∧ x ≤ t))
def bwL (r : Rl) (s fr t : Int) : List Int := if sf r s = 0 ∧ (bwA r s fr t).length ≤ 200 then bwA r s fr t else []
def bwF (r : Rl) (s fr t : Int) : Int := if sf r s = 0 then (if 200 < (bwA r s fr t).length then 4 else 0) else sf r s
/-- Is it one? -/
def hsB (r : Rl) (s n : Int) : Bool := decide (sf r s = 0 ∧ bwA r s n n ≠ [])
theorem fault_not {k : Int} (h : k ≠ 0) : fault k = .iface 61 (.int .i64 k) := if_neg h
theorem first_uni (r : Rl) (v : Value) (s n : Int) (w : World) (hv : RuleIn w v r) (hT : Tab w) :
    Calls Tryz.prog 7 #[v, .int .i64 s, .int .i64 n] w fun e w' => ∃ v2, e = .returned (.tuple #[v2, fault (ff r s n)]) ∧ Ints w' v2 (fsL r s n) ∧ Below w.heap.size w w' := by
  refine (first_any r v s n w hv hT).mono ?_
  rintro e w' ⟨hb, ⟨h, rfl⟩ | ⟨h, v2, rfl, hx⟩⟩
  · exact ⟨_, rfl, by unfold fsL; rw [if_neg h]; exact ⟨none, 0, rfl, Or.inl rfl⟩, hb⟩
  · refine ⟨v2, by rw [h]; rfl, ?_, hb⟩
    unfold fsL
    rw [if_pos h]
    have h0 : sf r s = 0 := by
      unfold ff at h
      split at h
      · assumption
      · rename_i g; exact absurd h g
    rw [btL_all h0] at hx
    exact hx
theorem count_uni (r : Rl) (v : Value) (s : Int) (w : World) (hv : RuleIn w v r) (hT : Tab w) :
    Calls Tryz.prog 10 #[v, .int .i64 s] w fun e w' => e = .returned (.tuple #[.int .i64 (ctN r s), fault (sf r s)]) ∧ Below w.heap.size w w' := by
  refine (count_any r v s w hv hT).mono ?_
  rintro e w' ⟨hb, ⟨h, rfl⟩ | ⟨h, rfl⟩⟩
  · exact ⟨by unfold ctN; rw [if_neg h], hb⟩
  · exact ⟨by unfold ctN; rw [if_pos h, h, btL_all h]; rfl, hb⟩
theorem betw_uni (r : Rl) (v : Value) (s fr t : Int) (w : World) (hv : RuleIn w v r) (hT : Tab w) (hfr : fr ≤ 9223372036854775807) :
    Calls Tryz.prog 11 #[v, .int .i64 s, .int .i64 fr, .int .i64 t] w fun e w' => ∃ v2, e = .returned (.tuple #[v2, fault (bwF r s fr t)]) ∧ Ints w' v2 (bwL r s fr t) ∧ Below w.heap.size w w' := by
  have e0 : bf r s fr t = bwF r s fr t := by
    unfold bf bwF
    by_cases h : sf r s = 0
    · rw [if_pos h, if_pos h, btL_eq h]; rfl
    · rw [if_neg h, if_neg h]
  refine (betw_any r v s fr t w hv hT (Or.inr hfr)).mono ?_
  rw [e0]
  rintro e w' ⟨hb, ⟨h, rfl⟩ | ⟨h, v2, rfl, hx⟩⟩
  · refine ⟨_, rfl, ?_, hb⟩
    have : bwL r s fr t = [] := by
      unfold bwL
      rw [if_neg]
      intro q
      apply h
      unfold bwF
      rw [if_pos q.1, if_neg (by omega)]
    rw [this]
    exact ⟨none, 0, rfl, Or.inl rfl⟩
  · refine ⟨v2, by rw [h]; rfl, ?_, hb⟩
    have h0 : sf r s = 0 ∧ (bwA r s fr t).length ≤ 200 := by
      unfold bwF at h
      split at h
      · split at h
        · cases h
        · rename_i g1 g2; exact ⟨g1, by omega⟩
      · rename_i g; exact absurd h g
    unfold bwL
    rw [if_pos h0]
    rw [btL_eq h0.1] at hx
    exact hx
theorem next_uni (r : Rl) (v : Value) (s a : Int) (w : World) (hv : RuleIn w v r) (hT : Tab w) (hfr : a ≤ 9223372036854775807) :
    Calls Tryz.prog 12 #[v, .int .i64 s, .int .i64 a] w fun e w' => e = .returned (.tuple #[.int .i64 (nxX r s a), fault (nxG r s a)]) ∧ Below w.heap.size w w' := by
  refine (next_any r v s a w hv hT (Or.inr hfr)).mono ?_
  rintro e w' ⟨hb, ⟨h, rfl⟩ | ⟨h, rfl⟩⟩
  · exact ⟨by unfold nxX nxG; rw [if_neg h, if_neg h], hb⟩
  · refine ⟨?_, hb⟩
    have e1 : (btL r s a 109573).find? (fun n => decide (a < n)) = nxt r s a := by
      unfold nxt
      rw [btL_eq h, List.find?_filter]
      refine find_same fun x hx => ?_
      have := DAYS_in h hx
      rw [Bool.eq_iff_iff]
      simp
      omega
    rw [e1]
    unfold nxX nxG
    rw [if_pos h, if_pos h]
    cases nxt r s a with
    | none => rfl
    | some n => rfl
theorem has_uni (r : Rl) (v : Value) (s n : Int) (w : World) (hv : RuleIn w v r) (hT : Tab w) (hfr : n ≤ 9223372036854775807) :
    Calls Tryz.prog 14 #[v, .int .i64 s, .int .i64 n] w fun e w' => e = .returned (.tuple #[.bool (hsB r s n), fault (sf r s)]) ∧ Below w.heap.size w w' := by
  refine (has_any r v s n w hv hT (Or.inr hfr)).mono ?_
  rintro e w' ⟨hb, ⟨h, rfl⟩ | ⟨h, rfl⟩⟩
  · exact ⟨by unfold hsB; rw [decide_eq_false (fun q => h q.1)], hb⟩
  · refine ⟨?_, hb⟩
    have e1 : hsB r s n = decide (btL r s n n ≠ []) := by
      unfold hsB
      rw [btL_eq h, Bool.eq_iff_iff]
      simp only [decide_eq_true_iff]
      exact ⟨fun q => q.2, fun q => ⟨h, q⟩⟩
    rw [e1, h]
    rfl
/-! The document's lists. -/
theorem DAYS_len {r : Rl} {s : Int} (h : sf r s = 0) : (DAYS r s).length ≤ 109573 := by
  obtain ⟨_, s1, s2⟩ := sf_ok h
  have := rise_len (DAYS r s) s 109573 (DAYS_rise r s) (fun x hx => ⟨(DAYS_in h hx).1, (DAYS_in h hx).2.1⟩)
  omega
theorem dsq_all {r : Rl} {s : Int} (h : sf r s = 0) (m : Int) : dsq r s 109573 m = (DAYS r s).take m.toNat := by
  rw [dsq_eq h (Int.le_refl _), List.filter_eq_self.2 (fun x hx => by have := DAYS_in h hx; simp; omega)]
theorem dsq_much {r : Rl} {s t : Int} (h : sf r s = 0) (ht : t ≤ 109573) : dsq r s t 200000 = (DAYS r s).filter (fun x => decide (x ≤ t)) := by
  rw [dsq_eq h ht, List.take_of_length_le]
  have h1 := List.length_filter_le (fun x => decide (x ≤ t)) (DAYS r s)
  have h2 := DAYS_len h
  omega
theorem dsq_from {r : Rl} {s fr to t : Int} (h : sf r s = 0) (e : t = to ∨ (t = 109573 ∧ 109573 < to)) : ((DAYS r s).filter (fun x => decide (x ≤ t))).filter (fun x => decide (fr ≤ x)) = bwA r s fr to := by
  unfold bwA
  rw [List.filter_filter]
  refine List.filter_congr fun x hx => ?_
  have := DAYS_in h hx
  rw [Bool.eq_iff_iff]
  simp
  omega
theorem nxt_low {r : Rl} {s a t : Int} {x : Int} (h : ((DAYS r s).filter (fun x => decide (x ≤ t))).find? (fun n => decide (a < n)) = some x) : nxt r s a = some x := by
  rw [List.find?_filter] at h
  unfold nxt
  have hr := DAYS_rise r s
  generalize DAYS r s = D at h hr
  induction D with
  | nil => cases h
  | cons d D ih =>
    rw [List.pairwise_cons] at hr
    by_cases h1 : a < d
    · rw [List.find?_cons_of_pos (by simpa using h1)]
      by_cases h2 : d ≤ t
      · rw [List.find?_cons_of_pos (by simp; omega)] at h
        exact h
      · rw [List.find?_cons_of_neg (by simp; omega)] at h
        have hm := List.mem_of_find?_eq_some h
        have hp := List.find?_some h
        have := hr.1 _ hm
        simp at hp
        omega
    · rw [List.find?_cons_of_neg (by simpa using h1)]
      rw [List.find?_cons_of_neg (by simp; omega)] at h
      exact ih h hr.2
theorem nxt_last {r : Rl} {s a : Int} (hs : sf r s = 0) (h : ((DAYS r s).filter (fun x => decide (x ≤ 109573))).find? (fun n => decide (a < n)) = none) : nxt r s a = none := by
  rwa [List.filter_eq_self.2 (fun x hx => by have := DAYS_in hs hx; simp; omega)] at h
theorem nxt_far {r : Rl} {s a : Int} (hs : sf r s = 0) (h : 109573 ≤ a) : nxt r s a = none := by
  unfold nxt
  rw [List.find?_eq_none]
  intro x hx
  have := DAYS_in hs hx
  simp
  omega
theorem has_in {r : Rl} {s n : Int} (hs : sf r s = 0) : ((DAYS r s).filter (fun x => decide (x ≤ n))).contains n = hsB r s n := by
  unfold hsB bwA
  rw [List.contains_eq_mem, Bool.eq_iff_iff]
  simp only [decide_eq_true_iff]
  rw [List.mem_filter]
  constructor
  · rintro ⟨h1, _⟩
    refine ⟨hs, fun q => ?_⟩
    have : n ∈ ([] : List Int) := by rw [← q, List.mem_filter]; exact ⟨h1, by simp⟩
    cases this
  · rintro ⟨_, h2⟩
    obtain ⟨x, hx⟩ := List.exists_mem_of_ne_nil _ h2
    rw [List.mem_filter] at hx
    have hq := hx.2
    simp at hq
    obtain rfl : x = n := by omega
    exact ⟨hx.1, by simp⟩
theorem has_out {r : Rl} {s n : Int} (h : ¬ (1 ≤ n ∧ n ≤ 109573)) : hsB r s n = false := by
  unfold hsB
  refine decide_eq_false fun q => ?_
  obtain ⟨x, hx⟩ := List.exists_mem_of_ne_nil _ q.2
  unfold bwA at hx
  rw [List.mem_filter] at hx
  have hq := hx.2
  simp at hq
  have hd := DAYS_in q.1 hx.1
  obtain ⟨_, s1, s2⟩ := sf_ok q.1
  omega
end Go.Proofs.YtnnpnalfkcngmacGreatDoor
