/-
  What is proved here: plain facts on the days of a rule in all: they rise, what is passed over is ahead, and what between hands out is just what of them lies between; no program is named.
-/
import Derived.Test.YtcillnphabddaacDoorSqList
namespace Go.Proofs.YtcillnphabddaacDoor
open Go.RowKit Cal Txt

theorem pEnds_stop {fr ev s k : Int} (hf : 1 ≤ fr ∧ fr ≤ 4) (he : 1 ≤ ev) (h : pEnds fr ev s k = none) : pEnds fr ev s (k + 1) = none := by
  unfold pEnds at h ⊢
  rw [show (k + 1) * ev = k * ev + ev from by rw [Int.add_mul, Int.one_mul]]
  generalize k * ev = st at h
  have cut : ∀ {f n : Int}, cutL f n = none → 109573 < f := fun {f n} h => by
    unfold cutL at h
    split at h
    · assumption
    · cases h
  have cut' : ∀ {f n : Int}, 109573 < f → cutL f n = none := fun h => if_pos h
  rcases fr4 hf with rfl | rfl | rfl | rfl
  · rw [if_neg (by decide), if_neg (by decide), if_neg (by decide)] at h ⊢
    exact cut' (by have := cut h; omega)
  · rw [if_pos rfl] at h ⊢
    exact cut' (by have := cut h; omega)
  · rw [if_neg (by decide), if_pos rfl] at h ⊢
    split at h
    · have c := cut h
      split
      · refine cut' ?_
        rw [(month_at _ _).1] at c ⊢
        have m := fsM_mono (12 * yr s + (mo s - 1 + st)) ev.toNat
        rw [show 12 * yr s + (mo s - 1 + st) + (ev.toNat : Int) = 12 * yr s + (mo s - 1 + (st + ev)) by omega] at m
        omega
      · rfl
    · rw [if_neg (by omega)]
  · rw [if_neg (by decide), if_neg (by decide), if_pos rfl] at h ⊢
    split at h
    · cases h
    · rw [if_neg (by omega)]
theorem pE_stop {r : Rl} {s k : Int} (h0 : 0 ≤ k) (h : pE r s k = none) : pE r s (k + 1) = none := by
  unfold pE at h ⊢
  split at h
  · rename_i q
    split
    · exact pEnds_stop (rf_nums q.1).1 (rf_nums q.1).2.1 h
    · rfl
  · rename_i q
    rw [if_neg (fun z => q ⟨z.1, ⟨h0, by omega⟩, z.2.2⟩)]
theorem fsM_step (i : Int) : ∀ n : Nat, fsM (i + n) ≤ fsM i + 31 * n
  | 0 => by simp
  | n + 1 => by
    have := fsM_step i n
    have e := fsM_next (i + n)
    have b := ml_bd ((i + n) / 12) ((i + n) % 12 + 1)
    rw [show i + ((n + 1 : Nat) : Int) = i + n + 1 by omega, e]
    unfold mlM
    omega
theorem bef_step (y : Int) : ∀ n : Nat, bef (y + n) ≤ bef y + 366 * n
  | 0 => by simp
  | n + 1 => by
    have := bef_step y n
    have b := bef_succ (y + n)
    have l : lx (y + n) ≤ 1 := by unfold lx; split <;> omega
    rw [show y + ((n + 1 : Nat) : Int) = y + n + 1 by omega]
    omega
/-- A period ends ahead of so many of the longest. -/
theorem pE_ends {r : Rl} {s k a b : Int} (h : pE r s k = some (a, b)) : b < s + (k + 1) * (r.every * lng r.freq) := by
  obtain ⟨h1, h2, h3, h4⟩ := pE_some h
  obtain ⟨hf, he⟩ := rf_nums h1
  obtain ⟨s0, _⟩ := st_bd h2 he
  obtain ⟨y1, y2, m1, m2, d1, d2⟩ := date_ok h3.1 h3.2
  have dn : num (yr s) (mo s) (da s) = s := date_num
  have e0 : (k + 1) * (r.every * lng r.freq) = k * r.every * lng r.freq + r.every * lng r.freq := by rw [Int.add_mul, Int.one_mul, ← Int.mul_assoc]
  rw [e0]
  unfold pEnds at h4
  generalize k * r.every = st at s0 h4
  generalize r.every = e at he
  rcases fr4 hf with q | q | q | q <;> rw [q] at h4 ⊢
  · rw [if_neg (by decide), if_neg (by decide), if_neg (by decide)] at h4
    obtain ⟨_, rfl, rfl⟩ := cutL_some h4
    rw [show lng 1 = 1 from rfl]
    omega
  · rw [if_pos rfl] at h4
    obtain ⟨_, rfl, rfl⟩ := cutL_some h4
    rw [show lng 2 = 7 from rfl]
    unfold wd
    omega
  · rw [if_neg (by decide), if_pos rfl] at h4
    split at h4
    · obtain ⟨_, rfl, rfl⟩ := cutL_some h4
      rw [show lng 3 = 31 from rfl, (month_at _ _).1, (month_at _ _).2]
      have m := fsM_step (12 * yr s + (mo s - 1)) st.toNat
      rw [show 12 * yr s + (mo s - 1) + (st.toNat : Int) = 12 * yr s + (mo s - 1 + st) by omega] at m
      have f0 : fsM (12 * yr s + (mo s - 1)) = num (yr s) (mo s) 1 := by
        unfold fsM
        rw [show (12 * yr s + (mo s - 1)) / 12 = yr s by omega, show (12 * yr s + (mo s - 1)) % 12 + 1 = mo s by omega]
      have bl := ml_bd ((12 * yr s + (mo s - 1 + st)) / 12) ((12 * yr s + (mo s - 1 + st)) % 12 + 1)
      unfold mlM
      unfold num at f0 dn
      omega
    · cases h4
  · rw [if_neg (by decide), if_neg (by decide), if_pos rfl] at h4
    split at h4
    · injection h4 with h4
      injection h4 with e1 e2
      subst e2
      rw [show lng 4 = 366 from rfl]
      have m := bef_step (yr s) (st + 1).toNat
      rw [show yr s + ((st + 1).toNat : Int) = yr s + st + 1 by omega] at m
      have b := bef_succ (yr s + st)
      have c := cum_succ (yr s + st) 12 (by omega) (by omega)
      rw [show (12 : Int) + 1 = 13 from rfl, cum_end, show ml (yr s + st) 12 = 31 by simp [ml, md]] at c
      have c0 := cum_bd (yr s) (mo s) m1 (by omega)
      unfold num at dn ⊢
      omega
    · cases h4
theorem fl_eq {r : Rl} {s t k a b : Int} (h : pE r s k = some (a, b)) (n : Nat) : fl r s t (n + 1) k = if t < a then [] else perD r s a b ++ fl r s t n (k + 1) := by
  show (match pE r s k with | none => [] | some (a, b) => if t < a then [] else perD r s a b ++ fl r s t n (k + 1)) = _
  rw [h]
theorem perD_in {r : Rl} {s a b x : Int} (h : x ∈ perD r s a b) : a ≤ x ∧ x ≤ b := allD_mem (perD_mem h)
/-- All are from where the period begins on. -/
theorem fl_from {r : Rl} {s t : Int} : ∀ (n : Nat) (k a b : Int), pE r s k = some (a, b) → ∀ x ∈ fl r s t n k, a ≤ x ∧ x ≤ 109573
  | 0, _, _, _, _, x, hx => by cases hx
  | n + 1, k, a, b, h, x, hx => by
    rw [fl_eq h] at hx
    split at hx
    · cases hx
    · have hi := pE_in h
      rcases List.mem_append.1 hx with q | q
      · have := perD_in q; omega
      · rcases hq : pE r s (k + 1) with _ | ⟨a', b'⟩
        · rw [fl_none hq] at q; cases q
        · have := pE_next h hq
          have := fl_from n (k + 1) a' b' hq x q
          omega
theorem fl_rise {r : Rl} {s t : Int} : ∀ (n : Nat) (k : Int), (fl r s t n k).Pairwise (· < ·)
  | 0, _ => List.Pairwise.nil
  | n + 1, k => by
    rcases h : pE r s k with _ | ⟨a, b⟩
    · rw [fl_none h]; exact List.Pairwise.nil
    · rw [fl_eq h]
      split
      · exact List.Pairwise.nil
      · refine List.pairwise_append.2 ⟨perD_rise r s a b, fl_rise n (k + 1), fun x hx y hy => ?_⟩
        have h1 := perD_in hx
        rcases hq : pE r s (k + 1) with _ | ⟨a', b'⟩
        · rw [fl_none hq] at hy; cases hy
        · have := pE_next h hq
          have := (fl_from n (k + 1) a' b' hq y hy).1
          omega
/-- Cut at an end or not: those up to it are the same. -/
theorem fl_cut {r : Rl} {s t : Int} : ∀ (n : Nat) (k : Int), (fl r s t n k).filter (fun x => decide (x ≤ t)) = (fl r s 109573 n k).filter (fun x => decide (x ≤ t))
  | 0, _ => rfl
  | n + 1, k => by
    rcases h : pE r s k with _ | ⟨a, b⟩
    · rw [fl_none h, fl_none h]
    · have hi := pE_in h
      by_cases ht : t < a
      · have e : (fl r s 109573 (n + 1) k).filter (fun x => decide (x ≤ t)) = [] := List.filter_eq_nil_iff.2 (fun x hx => by have := (fl_from (n + 1) k a b h x hx).1; simp; omega)
        rw [e, fl_eq h, if_pos ht]
        rfl
      · rw [fl_eq h, fl_eq h, if_neg ht, if_neg (by omega), List.filter_append, List.filter_append, fl_cut n (k + 1)]
theorem flat_cut (r : Rl) (s t k : Int) : (flat r s t k).filter (fun x => decide (x ≤ t)) = (flat r s 109573 k).filter (fun x => decide (x ≤ t)) := fl_cut _ _
theorem flat_rise (r : Rl) (s t k : Int) : (flat r s t k).Pairwise (· < ·) := fl_rise _ _
theorem flat_last {r : Rl} {s t k x : Int} (h : x ∈ flat r s t k) : 1 ≤ x ∧ x ≤ 109573 := by
  rcases hq : pE r s k with _ | ⟨a, b⟩
  · rw [flat_none hq] at h; cases h
  · have := fl_from _ k a b hq x h
    have := pE_in hq
    omega
/-- What is passed over is ahead. -/
theorem flat_skip {r : Rl} {s fr : Int} (hs : s < fr) (he : 1 ≤ r.every * lng r.freq) : ∀ (n : Nat) (k : Int), 0 ≤ k → k + n ≤ (fr - s) / (r.every * lng r.freq) → (flat r s 109573 k).filter (fun x => decide (fr ≤ x)) = (flat r s 109573 (k + n)).filter (fun x => decide (fr ≤ x))
  | 0, k, _, _ => by simp
  | n + 1, k, h0, hk => by
    have hk' : k + 1 ≤ (fr - s) / (r.every * lng r.freq) := by omega
    rw [show k + ((n + 1 : Nat) : Int) = k + 1 + n by omega]
    rcases h : pE r s k with _ | ⟨a, b⟩
    · have all : ∀ m : Nat, pE r s (k + m) = none := fun m => by
        induction m with
        | zero => simpa using h
        | succ m ih =>
          rw [show k + ((m + 1 : Nat) : Int) = k + m + 1 by omega]
          exact pE_stop (by omega) ih
      have e := all (n + 1)
      rw [show k + ((n + 1 : Nat) : Int) = k + 1 + n by omega] at e
      rw [flat_none h, flat_none e]
    · have hb := pE_ends h
      have hm : (k + 1) * (r.every * lng r.freq) ≤ fr - s := by
        have q := Int.mul_le_mul_of_nonneg_right hk' (show 0 ≤ r.every * lng r.freq by omega)
        have z := Int.ediv_mul_le (fr - s) (show r.every * lng r.freq ≠ 0 by omega)
        omega
      have hi := pE_in h
      rw [flat_on h (by omega), List.filter_append, List.filter_eq_nil_iff.2 (fun x hx => by have := perD_in hx; simp; omega), List.nil_append]
      exact flat_skip hs he n (k + 1) (by omega) (by omega)
end Go.Proofs.YtcillnphabddaacDoor
