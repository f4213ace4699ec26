/-
  What is proved here: what between hands out is just what of all days of a rule lies between (plain lists; no program is named).
-/
import Derived.Test.YtcillnphabddaacDoorSqPure
namespace Go.Proofs.YtcillnphabddaacDoor
open Go.RowKit Cal Txt

theorem rise_len : ∀ (l : List Int) (a b : Int), l.Pairwise (· < ·) → (∀ x ∈ l, a ≤ x ∧ x ≤ b) → (l.length : Int) ≤ max 0 (b - a + 1)
  | [], a, b, _, _ => by simp; omega
  | x :: l, a, b, h, hm => by
    obtain ⟨h1, h2⟩ := List.pairwise_cons.1 h
    have := rise_len l (x + 1) b h2 (fun y hy => ⟨by have := h1 y hy; omega, (hm y (by simp [hy])).2⟩)
    have := hm x (by simp)
    simp
    omega
theorem rise_tw (t : Int) : ∀ (l : List Int), l.Pairwise (· < ·) → l.takeWhile (fun x => decide (x ≤ t)) = l.filter (fun x => decide (x ≤ t))
  | [], _ => rfl
  | x :: l, h => by
    obtain ⟨h1, h2⟩ := List.pairwise_cons.1 h
    by_cases k : x ≤ t
    · rw [List.takeWhile_cons_of_pos (by simpa using k), List.filter_cons_of_pos (by simpa using k), rise_tw t l h2]
    · rw [List.takeWhile_cons_of_neg (by simpa using k), List.filter_cons_of_neg (by simpa using k), List.filter_eq_nil_iff.2 (fun y hy => by have := h1 y hy; simp; omega)]
theorem rise_take (t : Int) : ∀ (l : List Int) (c : Nat), l.Pairwise (· < ·) → (l.filter (fun x => decide (x ≤ t))).take c = (l.take c).filter (fun x => decide (x ≤ t))
  | [], c, _ => by simp
  | x :: l, 0, _ => by simp
  | x :: l, c + 1, h => by
    obtain ⟨h1, h2⟩ := List.pairwise_cons.1 h
    by_cases k : x ≤ t
    · rw [List.filter_cons_of_pos (by simpa using k), List.take_succ_cons, List.take_succ_cons, List.filter_cons_of_pos (by simpa using k), rise_take t l c h2]
    · rw [List.filter_cons_of_neg (by simpa using k), List.take_succ_cons, List.filter_cons_of_neg (by simpa using k), List.filter_eq_nil_iff.2 (fun y hy => by have := h1 y hy; simp; omega), List.filter_eq_nil_iff.2 (fun y hy => by have := h1 y (List.mem_of_mem_take hy); simp; omega)]
      simp
/-- All days of a rule from a start on. -/
def dys (r : Rl) (s : Int) : List Int := s :: beh s (flat r s 109573 0)
/-- THE DAYS: up to Until, at most Count. -/
def DAYS (r : Rl) (s : Int) : List Int := cutC r.count 0 ((dys r s).filter (fun x => decide (x ≤ tl r 109573)))
theorem sf_ok {r : Rl} {s : Int} (h : sf r s = 0) : rf r = 0 ∧ 1 ≤ s ∧ s ≤ 109573 := by
  unfold sf at h
  split at h
  · rename_i q
    split at h
    · rename_i z; exact ⟨q, z⟩
    · cases h
  · rename_i q; exact absurd h q
theorem rf_more {r : Rl} (h : rf r = 0) : (0 ≤ r.count ∧ r.count ≤ 200) ∧ (0 ≤ r.till ∧ r.till ≤ 109573) := by
  unfold rf at h
  split at h
  · cases h
  · rename_i o
    have o' : ok1 r = true := by simpa using o
    exact (of_decide_eq_true o').2.2
theorem beh_cut (s t : Int) (l : List Int) : (beh s l).filter (fun x => decide (x ≤ t)) = beh s (l.filter (fun x => decide (x ≤ t))) := by
  unfold beh
  rw [List.filter_filter, List.filter_filter]
  congr 1
  funext x
  exact Bool.and_comm _ _
theorem beh_from (s fr : Int) (l : List Int) : (beh s l).filter (fun x => decide (fr ≤ x)) = beh s (l.filter (fun x => decide (fr ≤ x))) := by
  unfold beh
  rw [List.filter_filter, List.filter_filter]
  congr 1
  funext x
  exact Bool.and_comm _ _
theorem all_rise (r : Rl) (s t k : Int) : (s :: beh s (flat r s t k)).Pairwise (· < ·) := by
  refine List.pairwise_cons.2 ⟨fun y hy => ?_, (flat_rise r s t k).filter _⟩
  have := (List.mem_filter.1 hy).2
  simpa using this
theorem all_in {r : Rl} {s t k x : Int} (s1 : 1 ≤ s) (s2 : s ≤ 109573) (h : x ∈ s :: beh s (flat r s t k)) : s ≤ x ∧ x ≤ 109573 := by
  rcases List.mem_cons.1 h with rfl | h
  · omega
  · obtain ⟨h1, h2⟩ := List.mem_filter.1 h
    have := flat_last h1
    have : s < x := by simpa using h2
    omega
/-- What is handed out from fr to t is what of THE DAYS is between. -/
theorem btL_eq {r : Rl} {s : Int} (h : sf r s = 0) (fr t : Int) : btL r s fr t = (DAYS r s).filter (fun x => decide (fr ≤ x ∧ x ≤ t)) := by
  obtain ⟨hr, s1, s2⟩ := sf_ok h
  obtain ⟨c1, c2⟩ := rf_more hr
  have he := (rf_nums hr).2
  have lb := lng_bd r.freq
  have m1 : 1 ≤ r.every * lng r.freq := by
    have a := Int.mul_le_mul he.1 lb.1 (by omega) (by omega)
    omega
  obtain ⟨T, hT⟩ : ∃ T, T = tl r t := ⟨_, rfl⟩
  obtain ⟨U, hU⟩ : ∃ U, U = tl r 109573 := ⟨_, rfl⟩
  have TU : ∀ x : Int, x ≤ 109573 → (x ≤ T ↔ (x ≤ U ∧ x ≤ t)) := fun x hx => by
    rw [hT, hU]
    unfold tl
    split <;> omega
  unfold btL
  rw [← hT]
  have len := rise_len _ s 109573 (all_rise r s T (psd r s fr)) (fun x hx => all_in s1 s2 hx)
  rw [btw_eq fr T r.count _ 0 (Int.le_refl _) (by omega) (by omega), rise_tw T _ (all_rise r s T (psd r s fr))]
  have e1 : (s :: beh s (flat r s T (psd r s fr))).filter (fun x => decide (x ≤ T)) = (s :: beh s (flat r s 109573 (psd r s fr))).filter (fun x => decide (x ≤ T)) := by
    rw [List.filter_cons, List.filter_cons, beh_cut, beh_cut, flat_cut]
  rw [e1]
  have hD : DAYS r s = cutC r.count 0 ((dys r s).filter (fun x => decide (x ≤ U))) := by unfold DAYS; rw [← hU]
  have hin : ∀ x ∈ dys r s, s ≤ x ∧ x ≤ 109573 := fun x hx => all_in s1 s2 hx
  have e2 : (dys r s).filter (fun x => decide (x ≤ T)) = ((dys r s).filter (fun x => decide (x ≤ U))).filter (fun x => decide (x ≤ t)) := by
    rw [List.filter_filter]
    refine List.filter_congr (fun x hx => ?_)
    have q := TU x (hin x hx).2
    by_cases z : x ≤ T
    · have := q.1 z; simp [z, this.1, this.2]
    · by_cases z1 : x ≤ U
      · have : ¬ x ≤ t := fun z2 => z (q.2 ⟨z1, z2⟩)
        simp [z, this]
      · simp [z, z1]
  have fin : ∀ l : List Int, (l.filter (fun x => decide (x ≤ t))).filter (fun x => decide (fr ≤ x)) = l.filter (fun x => decide (fr ≤ x ∧ x ≤ t)) := fun l => by
    rw [List.filter_filter]
    refine List.filter_congr (fun x _ => ?_)
    simp
  by_cases c0 : r.count = 0
  · rw [hD]
    unfold cutC
    rw [if_pos c0, if_pos c0]
    by_cases hp : fr ≤ s
    · rw [show psd r s fr = 0 from if_pos (Or.inr hp)]
      show ((dys r s).filter (fun x => decide (x ≤ T))).filter (fun x => decide (fr ≤ x)) = _
      rw [e2, fin]
    · have ep : psd r s fr = (fr - s) / (r.every * lng r.freq) := if_neg (by omega)
      have p0 : 0 ≤ psd r s fr := by rw [ep]; exact Int.ediv_nonneg (by omega) (by omega)
      have sk := flat_skip (r := r) (s := s) (fr := fr) (by omega) m1 (psd r s fr).toNat 0 (by omega) (by omega)
      rw [show (0 : Int) + ((psd r s fr).toNat : Int) = psd r s fr by omega] at sk
      have sw : ∀ l : List Int, (l.filter (fun x => decide (x ≤ T))).filter (fun x => decide (fr ≤ x)) = (l.filter (fun x => decide (fr ≤ x))).filter (fun x => decide (x ≤ T)) := fun l => by
        rw [List.filter_filter, List.filter_filter]
        congr 1
        funext x
        exact Bool.and_comm _ _
      rw [sw, List.filter_cons_of_neg (by simp; omega), beh_from, ← sk, ← beh_from]
      have e3 : (beh s (flat r s 109573 0)).filter (fun x => decide (fr ≤ x)) = (dys r s).filter (fun x => decide (fr ≤ x)) := by
        unfold dys
        rw [List.filter_cons_of_neg (by simp; omega)]
      rw [e3, ← sw, e2, fin]
  · rw [show psd r s fr = 0 from if_pos (Or.inl c0)]
    show (cutC r.count 0 ((dys r s).filter (fun x => decide (x ≤ T)))).filter (fun x => decide (fr ≤ x)) = _
    rw [hD, e2]
    unfold cutC
    rw [if_neg c0, if_neg c0, rise_take t ((dys r s).filter (fun x => decide (x ≤ U))) _ ((all_rise r s 109573 0).filter _), fin]
theorem DAYS_rise (r : Rl) (s : Int) : (DAYS r s).Pairwise (· < ·) := by
  unfold DAYS cutC
  split
  · exact (all_rise r s 109573 0).filter _
  · exact ((all_rise r s 109573 0).filter _).sublist (List.take_sublist _ _)
theorem DAYS_in {r : Rl} {s x : Int} (h : sf r s = 0) (hx : x ∈ DAYS r s) : s ≤ x ∧ x ≤ 109573 ∧ (r.till ≠ 0 → x ≤ r.till) := by
  obtain ⟨_, s1, s2⟩ := sf_ok h
  have hx' : x ∈ (dys r s).filter (fun x => decide (x ≤ tl r 109573)) := by
    unfold DAYS cutC at hx
    split at hx
    · exact hx
    · exact List.mem_of_mem_take hx
  obtain ⟨h1, h2⟩ := List.mem_filter.1 hx'
  have h3 : x ≤ tl r 109573 := by simpa using h2
  have := all_in s1 s2 h1
  refine ⟨this.1, this.2, fun z => ?_⟩
  unfold tl at h3
  rw [if_neg z] at h3
  omega
/-- The first of them is the start. -/
theorem DAYS_head {r : Rl} {s x : Int} {l : List Int} (h : sf r s = 0) (e : DAYS r s = x :: l) : x = s := by
  have hx : x ∈ DAYS r s := by rw [e]; simp
  have h1 := DAYS_in h hx
  have h2 : x ≤ s := by
    rcases Int.lt_or_le s x with q | q
    · exfalso
      have hs : s ≤ tl r 109573 := by
        have hx' : x ∈ (dys r s).filter (fun x => decide (x ≤ tl r 109573)) := by
          unfold DAYS cutC at hx
          split at hx
          · exact hx
          · exact List.mem_of_mem_take hx
        have h3 : x ≤ tl r 109573 := by simpa using (List.mem_filter.1 hx').2
        omega
      have e1 : (dys r s).filter (fun x => decide (x ≤ tl r 109573)) = s :: (beh s (flat r s 109573 0)).filter (fun x => decide (x ≤ tl r 109573)) := by
        unfold dys
        rw [List.filter_cons_of_pos (by simpa using hs)]
      unfold DAYS cutC at e
      rw [e1] at e
      split at e
      · injection e with e _; omega
      · rcases hn : (r.count - 0).toNat with _ | n
        · rw [hn] at e; cases e
        · rw [hn, List.take_succ_cons] at e; injection e with e _; omega
    · exact q
  omega
theorem DAYS_count {r : Rl} {s : Int} (h : sf r s = 0) (c : r.count ≠ 0) : ((DAYS r s).length : Int) ≤ r.count := by
  have := rf_more (sf_ok h).1
  unfold DAYS cutC
  rw [if_neg c, List.length_take]
  omega
theorem btL_all {r : Rl} {s : Int} (h : sf r s = 0) : btL r s s 109573 = DAYS r s := by
  rw [btL_eq h]
  exact List.filter_eq_self.2 (fun x hx => by have := DAYS_in h hx; simp; omega)
end Go.Proofs.YtcillnphabddaacDoor
