/-
  What is proved here: plain facts on the periods of a rule: where each begins and ends, that one lies behind the other, which of its days are asked for; no program is named.
-/
import Derived.Test.YthdohcjingfpoaaGreatDoorBB
import Derived.Test.YthdohcjingfpoaaGreatDoorRM
namespace Go.Proofs.YthdohcjingfpoaaGreatDoor
open Cal Txt

/-- A stretch of days that begins on a day, cut at the last one. -/
def cutL (f n : Int) : Option (Int × Int) := if 109573 < f then none else some (f, min (f + n - 1) 109573)
/-- The first day of a month, months counted on from the year 0. -/
def fsM (i : Int) : Int := num (i / 12) (i % 12 + 1) 1
def mlM (i : Int) : Int := ml (i / 12) (i % 12 + 1)
/-- First and last day of the k-th period, of frequency, steps and start. -/
def pEnds (fr ev s k : Int) : Option (Int × Int) :=
  if fr = 2 then cutL (s - wd s + 1 + k * ev * 7) 7
  else if fr = 3 then (if yr s + (mo s - 1 + k * ev) / 12 ≤ 2199 then cutL (num (yr s + (mo s - 1 + k * ev) / 12) (1 + (mo s - 1 + k * ev) % 12) 1) (ml (yr s + (mo s - 1 + k * ev) / 12) (1 + (mo s - 1 + k * ev) % 12)) else none)
  else if fr = 4 then (if yr s + k * ev ≤ 2199 then some (num (yr s + k * ev) 1 1, num (yr s + k * ev) 12 31) else none)
  else cutL (s + k * ev) 1
/-- First and last day of the k-th period of a rule from a day on; none: there is none. -/
def pE (r : Rl) (s k : Int) : Option (Int × Int) := if rf r = 0 ∧ (0 ≤ k ∧ k ≤ 109573) ∧ (1 ≤ s ∧ s ≤ 109573) then pEnds r.freq r.every s k else none
theorem fsM_next (i : Int) : fsM (i + 1) = fsM i + mlM i := by
  unfold fsM mlM num
  by_cases h : i % 12 = 11
  · have e1 : (i + 1) / 12 = i / 12 + 1 := by omega
    have e2 : (i + 1) % 12 = 0 := by omega
    have c := cum_succ (i / 12) 12 (by omega) (by omega)
    rw [show (12 : Int) + 1 = 13 from rfl, cum_end] at c
    rw [e1, e2, h, show (0 : Int) + 1 = 1 from rfl, cum_one, bef_succ, show (11 : Int) + 1 = 12 from rfl]
    omega
  · have e1 : (i + 1) / 12 = i / 12 := by omega
    have e2 : (i + 1) % 12 = i % 12 + 1 := by omega
    have c := cum_succ (i / 12) (i % 12 + 1) (by omega) (by omega)
    rw [e1, e2, c]
    omega
theorem fsM_mono (i : Int) : ∀ n : Nat, fsM i ≤ fsM (i + n)
  | 0 => by simp
  | n + 1 => by
    have := fsM_mono i n
    have e := fsM_next (i + n)
    have b := ml_bd ((i + n) / 12) ((i + n) % 12 + 1)
    rw [show i + ((n + 1 : Nat) : Int) = i + n + 1 by omega, e]
    unfold mlM
    omega
theorem cutL_some {f n a b : Int} (h : cutL f n = some (a, b)) : f ≤ 109573 ∧ a = f ∧ b = min (f + n - 1) 109573 := by
  unfold cutL at h
  split at h
  · cases h
  · injection h with h
    injection h with h1 h2
    exact ⟨by omega, h1.symm, h2.symm⟩
/-- A month's day, months counted on from the year 0. -/
theorem month_at (y M : Int) : num (y + M / 12) (1 + M % 12) 1 = fsM (12 * y + M) ∧ ml (y + M / 12) (1 + M % 12) = mlM (12 * y + M) := by
  unfold fsM mlM
  rw [show (12 * y + M) / 12 = y + M / 12 by omega, show (12 * y + M) % 12 + 1 = 1 + M % 12 by omega]
  exact ⟨rfl, rfl⟩
theorem st_bd {k ev : Int} (h : 0 ≤ k ∧ k ≤ 109573) (h1 : 1 ≤ ev ∧ ev ≤ 50) : 0 ≤ k * ev ∧ k * ev ≤ 5478650 := by
  have a := Int.mul_nonneg h.1 (show 0 ≤ ev by omega)
  have b := Int.mul_le_mul h.2 h1.2 (by omega) (by omega)
  exact ⟨a, by omega⟩
theorem rf_nums {r : Rl} (h : rf r = 0) : (1 ≤ r.freq ∧ r.freq ≤ 4) ∧ (1 ≤ r.every ∧ r.every ≤ 50) := by
  unfold rf at h
  split at h
  · cases h
  · rename_i o
    have o' : ok1 r = true := by simpa using o
    obtain ⟨a, b, _⟩ := of_decide_eq_true o'
    exact ⟨a, b⟩
theorem pE_some {r : Rl} {s k : Int} {p : Int × Int} (h : pE r s k = some p) : rf r = 0 ∧ (0 ≤ k ∧ k ≤ 109573) ∧ (1 ≤ s ∧ s ≤ 109573) ∧ pEnds r.freq r.every s k = some p := by
  unfold pE at h
  split at h
  · rename_i q; exact ⟨q.1, q.2.1, q.2.2, h⟩
  · cases h
theorem fr4 {f : Int} (h : 1 ≤ f ∧ f ≤ 4) : f = 1 ∨ f = 2 ∨ f = 3 ∨ f = 4 := by omega
theorem pEnds_in {fr ev s k a b : Int} (hf : 1 ≤ fr ∧ fr ≤ 4) (he : 1 ≤ ev ∧ ev ≤ 50) (hk : 0 ≤ k ∧ k ≤ 109573) (hs : 1 ≤ s ∧ s ≤ 109573) (h : pEnds fr ev s k = some (a, b)) : 1 ≤ a ∧ a ≤ b ∧ b ≤ 109573 := by
  obtain ⟨s0, s1⟩ := st_bd hk he
  obtain ⟨y1, y2, m1, m2, d1, d2⟩ := date_ok hs.1 hs.2
  unfold pEnds at h
  generalize k * ev = st at s0 s1 h
  rcases fr4 hf with rfl | rfl | rfl | rfl
  · rw [if_neg (by decide), if_neg (by decide), if_neg (by decide)] at h
    obtain ⟨q, rfl, rfl⟩ := cutL_some h
    omega
  · rw [if_pos rfl] at h
    obtain ⟨q, rfl, rfl⟩ := cutL_some h
    unfold wd at q ⊢
    omega
  · rw [if_neg (by decide), if_pos rfl] at h
    split at h
    · rename_i hy
      obtain ⟨q, rfl, rfl⟩ := cutL_some h
      have b := ml_bd (yr s + (mo s - 1 + st) / 12) (1 + (mo s - 1 + st) % 12)
      have n := num_bd (ok_first (y := yr s + (mo s - 1 + st) / 12) (m := 1 + (mo s - 1 + st) % 12) (by omega) hy (by omega) (by omega))
      omega
    · cases h
  · rw [if_neg (by decide), if_neg (by decide), if_pos rfl] at h
    split at h
    · rename_i hy
      injection h with h
      injection h with e1 e2
      subst e1
      subst e2
      have n := num_bd (ok_first (y := yr s + st) (m := 1) (by omega) hy (by omega) (by omega))
      have n' := num_bd (y := yr s + st) (m := 12) (d := 31) ⟨by omega, hy, by omega, by omega, by omega, by simp [ml, md]⟩
      have c := cum_mono (yr s + st) (a := 1) (b := 12) (by omega) (by omega) (by omega)
      unfold num at n n' ⊢
      omega
    · cases h
theorem pE_in {r : Rl} {s k a b : Int} (h : pE r s k = some (a, b)) : 1 ≤ a ∧ a ≤ b ∧ b ≤ 109573 := by
  obtain ⟨h1, h2, h3, h4⟩ := pE_some h
  obtain ⟨f, e⟩ := rf_nums h1
  exact pEnds_in f e h2 h3 h4
theorem pEnds_next {fr ev s k a b a' b' : Int} (hf : 1 ≤ fr ∧ fr ≤ 4) (he : 1 ≤ ev ∧ ev ≤ 50) (h : pEnds fr ev s k = some (a, b)) (h' : pEnds fr ev s (k + 1) = some (a', b')) : b < a' := by
  unfold pEnds at h h'
  rw [show (k + 1) * ev = k * ev + ev from by rw [Int.add_mul, Int.one_mul]] at h'
  generalize k * ev = st at h h'
  rcases fr4 hf with rfl | rfl | rfl | rfl
  · rw [if_neg (by decide), if_neg (by decide), if_neg (by decide)] at h h'
    obtain ⟨q, rfl, rfl⟩ := cutL_some h
    obtain ⟨q', rfl, rfl⟩ := cutL_some h'
    omega
  · rw [if_pos rfl] at h h'
    obtain ⟨q, rfl, rfl⟩ := cutL_some h
    obtain ⟨q', rfl, rfl⟩ := cutL_some h'
    omega
  · rw [if_neg (by decide), if_pos rfl] at h h'
    split at h
    · split at h'
      · obtain ⟨q, rfl, rfl⟩ := cutL_some h
        obtain ⟨q', rfl, rfl⟩ := cutL_some h'
        rw [(month_at _ _).1, (month_at _ _).2, (month_at _ _).1]
        have n := fsM_next (12 * yr s + (mo s - 1 + st))
        have m := fsM_mono (12 * yr s + (mo s - 1 + st) + 1) (ev - 1).toNat
        rw [show 12 * yr s + (mo s - 1 + st) + 1 + ((ev - 1).toNat : Int) = 12 * yr s + (mo s - 1 + (st + ev)) by omega] at m
        omega
      · cases h'
    · cases h
  · rw [if_neg (by decide), if_neg (by decide), if_pos rfl] at h h'
    split at h
    · split at h'
      · injection h with h
        injection h with e1 e2
        injection h' with h'
        injection h' with e1' e2'
        subst e2
        subst e1'
        rw [num_first]
        have m := bef_mono (show yr s + st + 1 ≤ yr s + (st + ev) by omega)
        have b := bef_succ (yr s + st)
        have c := cum_succ (yr s + st) 12 (by omega) (by omega)
        rw [show (12 : Int) + 1 = 13 from rfl, cum_end, show ml (yr s + st) 12 = 31 by simp [ml, md]] at c
        unfold num
        omega
      · cases h'
    · cases h
theorem pE_next {r : Rl} {s k a b a' b' : Int} (h : pE r s k = some (a, b)) (h' : pE r s (k + 1) = some (a', b')) : b < a' := by
  obtain ⟨h1, h2, h3, h4⟩ := pE_some h
  obtain ⟨_, _, _, h4'⟩ := pE_some h'
  obtain ⟨f, e⟩ := rf_nums h1
  exact pEnds_next f e h4 h4'
theorem pE_daily {r : Rl} {s k a b : Int} (hf : r.freq = 1) (h : pE r s k = some (a, b)) : a = s + k * r.every ∧ b = a := by
  obtain ⟨_, _, _, h4⟩ := pE_some h
  unfold pEnds at h4
  rw [hf, if_neg (by decide), if_neg (by decide), if_neg (by decide)] at h4
  obtain ⟨q, rfl, rfl⟩ := cutL_some h4
  omega
theorem pE_weekly {r : Rl} {s k a b : Int} (hf : r.freq = 2) (h : pE r s k = some (a, b)) : a = s - wd s + 1 + k * r.every * 7 ∧ b ≤ a + 6 := by
  obtain ⟨_, _, _, h4⟩ := pE_some h
  unfold pEnds at h4
  rw [hf, if_pos rfl] at h4
  obtain ⟨q, rfl, rfl⟩ := cutL_some h4
  omega
/-- So many days from one on. -/
def rng (f : Int) (n : Nat) : List Int := (List.range n).map fun (i : Nat) => f + (i : Int)
theorem rng_next (f : Int) (n : Nat) : rng f (n + 1) = rng f n ++ [f + (n : Int)] := by
  unfold rng; rw [List.range_succ, List.map_append]; rfl
theorem rng_mem {f x : Int} {n : Nat} (h : x ∈ rng f n) : f ≤ x ∧ x < f + n := by
  unfold rng at h
  obtain ⟨i, hi, rfl⟩ := List.mem_map.1 h
  have := List.mem_range.1 hi
  omega
theorem rng_rise (f : Int) (n : Nat) : (rng f n).Pairwise (· < ·) := by
  unfold rng
  rw [List.pairwise_map]
  exact List.pairwise_lt_range.imp (fun h => by omega)
/-- Does a list have the n-th of so many, from one end or the other? -/
def nameB (l : List Int) (n c : Int) : Bool := l.contains n || l.contains (n - c - 1)
/-- The first k places of days, those that are picked. -/
def pickK (p days : List Int) (k : Nat) : List Int := ((List.range k).filter fun (i : Nat) => nameB p ((i : Int) + 1) (days.length : Int)).map fun i => days.getD i 0
theorem pickK_next (p days : List Int) (k : Nat) : pickK p days (k + 1) = if nameB p ((k : Int) + 1) (days.length : Int) = true then pickK p days k ++ [days.getD k 0] else pickK p days k := by
  unfold pickK
  rw [List.range_succ, List.filter_append, List.map_append]
  by_cases h : nameB p ((k : Int) + 1) (days.length : Int) = true
  · rw [if_pos h]; simp [h]
  · rw [if_neg h]; simp [h]
/-- Those that are picked, or all. -/
def pick (p days : List Int) : List Int := if p.length = 0 then days else pickK p days days.length
theorem range_map (days : List Int) : (List.range days.length).map (fun i => days.getD i 0) = days := by
  refine List.ext_getElem (by simp) (fun i h1 h2 => ?_)
  simp [List.getD_eq_getElem?_getD, List.getElem?_eq_getElem h2]
theorem pick_sub (p days : List Int) : (pick p days).Sublist days := by
  unfold pick
  split
  · exact List.Sublist.refl _
  · unfold pickK
    have h := (List.filter_sublist (l := List.range days.length) (p := fun (i : Nat) => nameB p ((i : Int) + 1) (days.length : Int))).map (fun i => days.getD i 0)
    rw [range_map] at h
    exact h
/-- A rule, with what it leaves to the start. -/
def comp (r : Rl) (s : Int) : Rl :=
  if 0 < r.days.length ∨ 0 < r.weeks.length then r
  else if r.freq = 2 then { r with weeks := [(0, wd s)] }
  else if r.freq = 3 then { r with days := [da s] }
  else if r.freq = 4 then { r with days := [da s], months := if r.months.length = 0 then [mo s] else r.months }
  else r
/-- Which weekday of its month a day is, from either end. -/
def nfst (n : Int) : Int × Int := ((da n - 1) / 7 + 1, wd n)
def nlst (n : Int) : Int × Int := (-((ml (yr n) (mo n) - da n) / 7) - 1, wd n)
/-- Is a day one that a whole rule asks for? -/
def inM (r : Rl) (n : Int) : Bool := r.months.length == 0 || r.months.contains (mo n)
def onD (r : Rl) (n : Int) : Bool := r.days.length == 0 || nameB r.days (da n) (ml (yr n) (mo n))
def fitB (x : Int × Int) (n : Int) : Bool := (x.1 == 0 && x.2 == wd n) || (x.1 == (nfst n).1 && x.2 == wd n) || (x.1 == (nlst n).1 && x.2 == wd n)
def onW (r : Rl) (n : Int) : Bool := r.weeks.length == 0 || r.weeks.any (fitB · n)
def askB (r : Rl) (n : Int) : Bool := inM r n && onD r n && onW r n
/-- The days of a period that a rule asks for, ahead of what is picked. -/
def allD (r : Rl) (s a b : Int) : List Int := (rng a (b + 1 - a).toNat).filter (askB (comp r s))
/-- The days of a period. -/
def perD (r : Rl) (s a b : Int) : List Int := pick r.pick (allD r s a b)
theorem allD_mem {r : Rl} {s a b x : Int} (h : x ∈ allD r s a b) : a ≤ x ∧ x ≤ b := by
  have := rng_mem (List.mem_filter.1 h).1
  omega
theorem allD_rise (r : Rl) (s a b : Int) : (allD r s a b).Pairwise (· < ·) := (rng_rise a _).filter _
theorem perD_rise (r : Rl) (s a b : Int) : (perD r s a b).Pairwise (· < ·) := (allD_rise r s a b).sublist (pick_sub _ _)
theorem perD_mem {r : Rl} {s a b x : Int} (h : x ∈ perD r s a b) : x ∈ allD r s a b := (pick_sub _ _).subset h
theorem comp_pick (r : Rl) (s : Int) (p : List Int) (n : Int) : askB (comp { r with pick := p } s) n = askB (comp r s) n := by
  unfold comp
  dsimp only
  split
  · rfl
  split
  · rfl
  split
  · rfl
  split <;> rfl
theorem allD_pick (r : Rl) (s a b : Int) (p : List Int) : allD { r with pick := p } s a b = allD r s a b := by
  unfold allD
  congr 1
  funext n
  exact comp_pick r s p n
end Go.Proofs.YthdohcjingfpoaaGreatDoor
