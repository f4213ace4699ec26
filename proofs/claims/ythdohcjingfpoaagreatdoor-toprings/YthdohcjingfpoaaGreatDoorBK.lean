/-
  What is proved here: plain facts on what between hands out, and on the days of a rule that goes each so many days; no program is named.
  What is proved here: plain facts on the days of a rule in all: they rise, what is passed over is ahead, and what between hands out is just what of them lies between; no program is named.
  What is proved here: what between hands out is just what of all days of a rule lies between (plain lists; no program is named).
-/
import Derived.Test.YthdohcjingfpoaaGreatDoorBJ
namespace Go.Proofs.YthdohcjingfpoaaGreatDoor
open Go.RowKit Cal Txt

theorem inc_small {c : Int} (h0 : 0 ≤ c) (h1 : c ≤ 1000000000) : inc c = c + 1 := by unfold inc wrap64; omega
/-- The first so many, if there is a count. -/
def cutC (cnt c : Int) (l : List Int) : List Int := if cnt = 0 then l else l.take (cnt - c).toNat
theorem tw_yes {t n : Int} (h : ¬ t < n) (ns : List Int) : (n :: ns).takeWhile (fun n => decide (n ≤ t)) = n :: ns.takeWhile (fun n => decide (n ≤ t)) := List.takeWhile_cons_of_pos (by simp; omega)
theorem btw_eq (fr t cnt : Int) : ∀ (L : List Int) (c : Int), 0 ≤ c → c + (L.length : Int) ≤ 1000000000 → (cnt = 0 ∨ c < cnt) → btw fr t cnt c L = (cutC cnt c (L.takeWhile (fun n => decide (n ≤ t)))).filter (fun n => decide (fr ≤ n))
  | [], c, _, _, _ => by unfold cutC; split <;> simp [btw]
  | n :: ns, c, h0, h1, h2 => by
    have hl : (((n :: ns).length : Nat) : Int) = (ns.length : Int) + 1 := by simp
    have hi := inc_small h0 (by omega)
    by_cases h : t < n
    · have e : btw fr t cnt c (n :: ns) = [] := if_pos h
      rw [e, List.takeWhile_cons_of_neg (by simp; omega)]
      unfold cutC
      split <;> simp
    · rw [tw_yes h]
      have IH : ∀ _ : cnt = 0 ∨ c + 1 < cnt, btw fr t cnt (c + 1) ns = (cutC cnt (c + 1) (ns.takeWhile (fun n => decide (n ≤ t)))).filter (fun n => decide (fr ≤ n)) := fun q => btw_eq fr t cnt ns (c + 1) (by omega) (by omega) q
      have e : btw fr t cnt c (n :: ns) = (if fr ≤ n then [n] else []) ++ (if (inc c != cnt) = true then btw fr t cnt (inc c) ns else []) := by
        show (if t < n then [] else if fr ≤ n then n :: (if (inc c != cnt) = true then btw fr t cnt (inc c) ns else []) else (if (inc c != cnt) = true then btw fr t cnt (inc c) ns else [])) = _
        rw [if_neg h]
        split <;> rfl
      rw [e, hi]
      have e2 : ∀ l : List Int, (n :: l).filter (fun n => decide (fr ≤ n)) = (if fr ≤ n then [n] else []) ++ l.filter (fun n => decide (fr ≤ n)) := fun l => by
        by_cases k : fr ≤ n
        · rw [if_pos k, List.filter_cons_of_pos (by simpa using k)]; rfl
        · rw [if_neg k, List.filter_cons_of_neg (by simpa using k)]; rfl
      rcases h2 with rfl | h2
      · rw [if_pos (show (c + 1 != 0) = true by simp; omega), IH (Or.inl rfl)]
        unfold cutC
        rw [if_pos rfl, if_pos rfl, e2]
      · by_cases k : c + 1 = cnt
        · rw [if_neg (show ¬ (c + 1 != cnt) = true by simp; omega)]
          unfold cutC
          rw [if_neg (show ¬ cnt = 0 by omega), show (cnt - c).toNat = 1 by omega, List.take_succ_cons, List.take_zero, e2]
          rfl
        · rw [if_pos (show (c + 1 != cnt) = true by simp; omega), IH (Or.inr (by omega))]
          unfold cutC
          rw [if_neg (show ¬ cnt = 0 by omega), if_neg (show ¬ cnt = 0 by omega), show (cnt - c).toNat = (cnt - (c + 1)).toNat + 1 by omega, List.take_succ_cons, e2]
theorem tw_all {p : Int → Bool} : ∀ {l : List Int}, (∀ x ∈ l, p x = true) → l.takeWhile p = l
  | [], _ => rfl
  | x :: l, h => by rw [List.takeWhile_cons_of_pos (h x (by simp)), tw_all (fun y hy => h y (by simp [hy]))]
/-- A rule that goes each so many days, so often. -/
def rsc (e c : Int) : Rl := ⟨1, e, c, 0, [], [], [], []⟩
theorem rsc_in (w : World) (e c : Int) : RuleIn w (.agg #[.int .i64 1, .int .i64 e, .int .i64 c, .int .i64 0, .slice none 0 0, .slice none 0 0, .slice none 0 0, .slice none 0 0]) (rsc e c) :=
  ⟨_, _, _, _, rfl, ⟨none, 0, rfl, Or.inl rfl⟩, ⟨none, 0, rfl, Or.inl rfl⟩, ⟨none, 0, rfl, Or.inl rfl⟩, none, 0, rfl, Or.inl rfl⟩
theorem perD_one (e c s a : Int) : perD (rsc e c) s a a = [a] := by
  have h1 : comp (rsc e c) s = rsc e c := by
    unfold comp
    rw [if_neg (by simp [rsc]), if_neg (by simp [rsc]), if_neg (by simp [rsc]), if_neg (by simp [rsc])]
  have h2 : rng a 1 = [a] := by simp [rng, List.range_succ]
  unfold perD pick
  rw [if_pos (show (rsc e c).pick.length = 0 from rfl)]
  unfold allD
  rw [h1, show (a + 1 - a).toNat = 1 by omega, h2]
  simp [askB, inM, onD, onW, rsc]
/-- From the k-th on: one behind the other, up to the last. -/
theorem dly {e c s : Int} (hr : rf (rsc e c) = 0) (s1 : 1 ≤ s) (s2 : s ≤ 109573) : ∀ (n : Nat) (k : Int), 0 ≤ k → 109574 - k ≤ (n : Int) →
    (∀ i, i < (fl (rsc e c) s 109573 n k).length → (fl (rsc e c) s 109573 n k).getD i 0 = s + (k + (i : Int)) * e) ∧ (∀ x ∈ fl (rsc e c) s 109573 n k, x ≤ 109573 ∧ s + k * e ≤ x) ∧ 109573 < s + (k + ((fl (rsc e c) s 109573 n k).length : Int)) * e := by
  have he : 1 ≤ e := (rf_nums hr).2.1
  have big : ∀ k : Int, 0 ≤ k → k ≤ k * e := fun k hk => by have := Int.mul_le_mul_of_nonneg_left he hk; omega
  intro n
  induction n with
  | zero =>
    intro k h0 h1
    have := big k h0
    refine ⟨fun i hi => by simp [fl] at hi, fun x hx => by simp [fl] at hx, ?_⟩
    show 109573 < s + (k + ((0 : Nat) : Int)) * e
    simp
    omega
  | succ n ih =>
    intro k h0 h1
    rcases hq : pE (rsc e c) s k with _ | ⟨a, b⟩
    · rw [fl_none hq]
      refine ⟨fun i hi => by simp at hi, fun x hx => by simp at hx, ?_⟩
      have := big k h0
      simp
      by_cases hk : k ≤ 109573
      · unfold pE at hq
        rw [if_pos ⟨hr, ⟨h0, hk⟩, s1, s2⟩] at hq
        unfold pEnds cutL at hq
        rw [if_neg (show ¬ (rsc e c).freq = 2 by simp [rsc]) , if_neg (show ¬ (rsc e c).freq = 3 by simp [rsc]), if_neg (show ¬ (rsc e c).freq = 4 by simp [rsc])] at hq
        split at hq
        · rename_i z; exact z
        · cases hq
      · omega
    · obtain ⟨e1, e2⟩ := pE_daily (show (rsc e c).freq = 1 from rfl) hq
      have e1' : a = s + k * e := e1
      have hin := pE_in hq
      have hf : fl (rsc e c) s 109573 (n + 1) k = a :: fl (rsc e c) s 109573 n (k + 1) := by
        show (match pE (rsc e c) s k with | none => [] | some (a, b) => if 109573 < a then [] else perD (rsc e c) s a b ++ fl (rsc e c) s 109573 n (k + 1)) = _
        rw [hq]
        show (if 109573 < a then [] else perD (rsc e c) s a b ++ fl (rsc e c) s 109573 n (k + 1)) = _
        rw [if_neg (by omega), e2, perD_one]
        rfl
      obtain ⟨i1, i2, i3⟩ := ih (k + 1) (by omega) (by omega)
      have m1 : (k + 1) * e = k * e + e := by rw [Int.add_mul, Int.one_mul]
      rw [hf]
      refine ⟨fun i hi => ?_, fun x hx => ?_, ?_⟩
      · rcases i with _ | i
        · simp; omega
        · have := i1 i (by simpa using hi)
          rw [show (a :: fl (rsc e c) s 109573 n (k + 1)).getD (i + 1) 0 = (fl (rsc e c) s 109573 n (k + 1)).getD i 0 from rfl, this]
          congr 2
          omega
      · rcases List.mem_cons.1 hx with rfl | hx
        · omega
        · have := i2 x hx; omega
      · rw [List.length_cons]
        rw [show (k + (((fl (rsc e c) s 109573 n (k + 1)).length + 1 : Nat) : Int)) = k + 1 + ((fl (rsc e c) s 109573 n (k + 1)).length : Int) by omega]
        exact i3
/-- All of them. -/
theorem dly_all {e c s : Int} (hr : rf (rsc e c) = 0) (s1 : 1 ≤ s) (s2 : s ≤ 109573) :
    ∃ L : List Int, btL (rsc e c) s s 109573 = cutC c 0 L ∧ (∀ i, i < L.length → L.getD i 0 = s + (i : Int) * e) ∧ 109573 < s + (L.length : Int) * e ∧ 1 ≤ L.length := by
  have he : 1 ≤ e := (rf_nums hr).2.1
  obtain ⟨i1, i2, i3⟩ := dly hr s1 s2 109573 1 (by omega) (by omega)
  obtain ⟨F, hF⟩ : ∃ F, F = fl (rsc e c) s 109573 109573 1 := ⟨_, rfl⟩
  rw [← hF] at i1 i2 i3
  have p0 : pE (rsc e c) s 0 = some (s, s) := by
    unfold pE
    rw [if_pos ⟨hr, ⟨by omega, by omega⟩, s1, s2⟩]
    unfold pEnds cutL
    rw [if_neg (show ¬ (rsc e c).freq = 2 by simp [rsc]) , if_neg (show ¬ (rsc e c).freq = 3 by simp [rsc]), if_neg (show ¬ (rsc e c).freq = 4 by simp [rsc]), if_neg (by simp; omega)]
    simp
    omega
  have f0 : flat (rsc e c) s 109573 0 = s :: F := by
    rw [flat_on p0 s2, perD_one, hF]
    rfl
  have fb : beh s (flat (rsc e c) s 109573 0) = F := by
    rw [f0]
    unfold beh
    rw [List.filter_cons_of_neg (by simp), List.filter_eq_self.2 (fun x hx => by have := i2 x hx; simp; omega)]
  have ps : psd (rsc e c) s s = 0 := if_pos (Or.inr (Int.le_refl _))
  have tz : tl (rsc e c) 109573 = 109573 := if_pos rfl
  have len : F.length ≤ 109573 := by
    rw [hF]
    have : ∀ (n : Nat) (k : Int), (fl (rsc e c) s 109573 n k).length ≤ n := by
      intro n
      induction n with
      | zero => intro k; exact Nat.le_refl _
      | succ n ih =>
        intro k
        rcases hq : pE (rsc e c) s k with _ | ⟨a, b⟩
        · rw [fl_none hq]; exact Nat.zero_le _
        · show (match pE (rsc e c) s k with | none => [] | some (a, b) => if 109573 < a then [] else perD (rsc e c) s a b ++ fl (rsc e c) s 109573 n (k + 1)).length ≤ n + 1
          rw [hq]
          show (if 109573 < a then [] else perD (rsc e c) s a b ++ fl (rsc e c) s 109573 n (k + 1)).length ≤ n + 1
          split
          · exact Nat.zero_le _
          · obtain ⟨_, e2⟩ := pE_daily (show (rsc e c).freq = 1 from rfl) hq
            rw [e2, perD_one, List.length_append]
            have := ih (k + 1)
            simp
            omega
    exact this _ _
  have hc : c = 0 ∨ 0 < c := by
    have q := hr
    unfold rf at q
    split at q
    · cases q
    · rename_i o
      have o' : ok1 (rsc e c) = true := by simpa using o
      obtain ⟨_, _, o3, _⟩ := of_decide_eq_true o'
      have o4 : 0 ≤ c := o3.1
      omega
  refine ⟨s :: F, ?_, fun i hi => ?_, ?_, by simp⟩
  · unfold btL
    rw [tz, ps, fb]
    show btw s 109573 c 0 (s :: F) = _
    rw [btw_eq s 109573 c (s :: F) 0 (Int.le_refl _) (by simp; omega) hc, tw_all (fun x hx => by
      rcases List.mem_cons.1 hx with rfl | hx
      · simpa using s2
      · have := i2 x hx; simp; omega)]
    refine List.filter_eq_self.2 (fun x hx => ?_)
    have hx' : x ∈ s :: F := by
      unfold cutC at hx
      split at hx
      · exact hx
      · exact List.mem_of_mem_take hx
    rcases List.mem_cons.1 hx' with rfl | hx'
    · simp
    · have := i2 x hx'; simp; omega
  · rcases i with _ | i
    · simp
    · rw [show (s :: F).getD (i + 1) 0 = F.getD i 0 from rfl, i1 i (by simpa using hi)]
      congr 2
      omega
  · rw [List.length_cons, show (((F.length + 1 : Nat)) : Int) = 1 + (F.length : Int) by omega]
    exact i3
end Go.Proofs.YthdohcjingfpoaaGreatDoor
namespace Go.Proofs.YthdohcjingfpoaaGreatDoor
open Go.RowKit Cal Txt

theorem pEnds_stop {fr ev s k : Int} (hf : 1 ≤ fr ∧ fr ≤ 4) (he : 1 ≤ ev) (h : pEnds fr ev s k = none) : pEnds fr ev s (k + 1) = none := by
  unfold pEnds at h ⊢
  rw [show (k + 1) * ev = k * ev + ev from by rw [Int.add_mul, Int.one_mul]]
  generalize k * ev = st at h
  have cut : ∀ {f n : Int}, cutL f n = none → 109573 < f := fun {f n} h => by
    unfold cutL at h
    split at h
    · assumption
    · cases h
  have cut' : ∀ {f n : Int}, 109573 < f → cutL f n = none := fun h => if_pos h
  rcases fr4 hf with rfl | rfl | rfl | rfl
  · rw [if_neg (by decide), if_neg (by decide), if_neg (by decide)] at h ⊢
    exact cut' (by have := cut h; omega)
  · rw [if_pos rfl] at h ⊢
    exact cut' (by have := cut h; omega)
  · rw [if_neg (by decide), if_pos rfl] at h ⊢
    split at h
    · have c := cut h
      split
      · refine cut' ?_
        rw [(month_at _ _).1] at c ⊢
        have m := fsM_mono (12 * yr s + (mo s - 1 + st)) ev.toNat
        rw [show 12 * yr s + (mo s - 1 + st) + (ev.toNat : Int) = 12 * yr s + (mo s - 1 + (st + ev)) by omega] at m
        omega
      · rfl
    · rw [if_neg (by omega)]
  · rw [if_neg (by decide), if_neg (by decide), if_pos rfl] at h ⊢
    split at h
    · cases h
    · rw [if_neg (by omega)]
theorem pE_stop {r : Rl} {s k : Int} (h0 : 0 ≤ k) (h : pE r s k = none) : pE r s (k + 1) = none := by
  unfold pE at h ⊢
  split at h
  · rename_i q
    split
    · exact pEnds_stop (rf_nums q.1).1 (rf_nums q.1).2.1 h
    · rfl
  · rename_i q
    rw [if_neg (fun z => q ⟨z.1, ⟨h0, by omega⟩, z.2.2⟩)]
theorem fsM_step (i : Int) : ∀ n : Nat, fsM (i + n) ≤ fsM i + 31 * n
  | 0 => by simp
  | n + 1 => by
    have := fsM_step i n
    have e := fsM_next (i + n)
    have b := ml_bd ((i + n) / 12) ((i + n) % 12 + 1)
    rw [show i + ((n + 1 : Nat) : Int) = i + n + 1 by omega, e]
    unfold mlM
    omega
theorem bef_step (y : Int) : ∀ n : Nat, bef (y + n) ≤ bef y + 366 * n
  | 0 => by simp
  | n + 1 => by
    have := bef_step y n
    have b := bef_succ (y + n)
    have l : lx (y + n) ≤ 1 := by unfold lx; split <;> omega
    rw [show y + ((n + 1 : Nat) : Int) = y + n + 1 by omega]
    omega
/-- A period ends ahead of so many of the longest. -/
theorem pE_ends {r : Rl} {s k a b : Int} (h : pE r s k = some (a, b)) : b < s + (k + 1) * (r.every * lng r.freq) := by
  obtain ⟨h1, h2, h3, h4⟩ := pE_some h
  obtain ⟨hf, he⟩ := rf_nums h1
  obtain ⟨s0, _⟩ := st_bd h2 he
  obtain ⟨y1, y2, m1, m2, d1, d2⟩ := date_ok h3.1 h3.2
  have dn : num (yr s) (mo s) (da s) = s := date_num
  have e0 : (k + 1) * (r.every * lng r.freq) = k * r.every * lng r.freq + r.every * lng r.freq := by rw [Int.add_mul, Int.one_mul, ← Int.mul_assoc]
  rw [e0]
  unfold pEnds at h4
  generalize k * r.every = st at s0 h4
  generalize r.every = e at he
  rcases fr4 hf with q | q | q | q <;> rw [q] at h4 ⊢
  · rw [if_neg (by decide), if_neg (by decide), if_neg (by decide)] at h4
    obtain ⟨_, rfl, rfl⟩ := cutL_some h4
    rw [show lng 1 = 1 from rfl]
    omega
  · rw [if_pos rfl] at h4
    obtain ⟨_, rfl, rfl⟩ := cutL_some h4
    rw [show lng 2 = 7 from rfl]
    unfold wd
    omega
  · rw [if_neg (by decide), if_pos rfl] at h4
    split at h4
    · obtain ⟨_, rfl, rfl⟩ := cutL_some h4
      rw [show lng 3 = 31 from rfl, (month_at _ _).1, (month_at _ _).2]
      have m := fsM_step (12 * yr s + (mo s - 1)) st.toNat
      rw [show 12 * yr s + (mo s - 1) + (st.toNat : Int) = 12 * yr s + (mo s - 1 + st) by omega] at m
      have f0 : fsM (12 * yr s + (mo s - 1)) = num (yr s) (mo s) 1 := by
        unfold fsM
        rw [show (12 * yr s + (mo s - 1)) / 12 = yr s by omega, show (12 * yr s + (mo s - 1)) % 12 + 1 = mo s by omega]
      have bl := ml_bd ((12 * yr s + (mo s - 1 + st)) / 12) ((12 * yr s + (mo s - 1 + st)) % 12 + 1)
      unfold mlM
      unfold num at f0 dn
      omega
    · cases h4
  · rw [if_neg (by decide), if_neg (by decide), if_pos rfl] at h4
    split at h4
    · injection h4 with h4
      injection h4 with e1 e2
      subst e2
      rw [show lng 4 = 366 from rfl]
      have m := bef_step (yr s) (st + 1).toNat
      rw [show yr s + ((st + 1).toNat : Int) = yr s + st + 1 by omega] at m
      have b := bef_succ (yr s + st)
      have c := cum_succ (yr s + st) 12 (by omega) (by omega)
      rw [show (12 : Int) + 1 = 13 from rfl, cum_end, show ml (yr s + st) 12 = 31 by simp [ml, md]] at c
      have c0 := cum_bd (yr s) (mo s) m1 (by omega)
      unfold num at dn ⊢
      omega
    · cases h4
theorem fl_eq {r : Rl} {s t k a b : Int} (h : pE r s k = some (a, b)) (n : Nat) : fl r s t (n + 1) k = if t < a then [] else perD r s a b ++ fl r s t n (k + 1) := by
  show (match pE r s k with | none => [] | some (a, b) => if t < a then [] else perD r s a b ++ fl r s t n (k + 1)) = _
  rw [h]
theorem perD_in {r : Rl} {s a b x : Int} (h : x ∈ perD r s a b) : a ≤ x ∧ x ≤ b := allD_mem (perD_mem h)
/-- All are from where the period begins on. -/
theorem fl_from {r : Rl} {s t : Int} : ∀ (n : Nat) (k a b : Int), pE r s k = some (a, b) → ∀ x ∈ fl r s t n k, a ≤ x ∧ x ≤ 109573
  | 0, _, _, _, _, x, hx => by cases hx
  | n + 1, k, a, b, h, x, hx => by
    rw [fl_eq h] at hx
    split at hx
    · cases hx
    · have hi := pE_in h
      rcases List.mem_append.1 hx with q | q
      · have := perD_in q; omega
      · rcases hq : pE r s (k + 1) with _ | ⟨a', b'⟩
        · rw [fl_none hq] at q; cases q
        · have := pE_next h hq
          have := fl_from n (k + 1) a' b' hq x q
          omega
theorem fl_rise {r : Rl} {s t : Int} : ∀ (n : Nat) (k : Int), (fl r s t n k).Pairwise (· < ·)
  | 0, _ => List.Pairwise.nil
  | n + 1, k => by
    rcases h : pE r s k with _ | ⟨a, b⟩
    · rw [fl_none h]; exact List.Pairwise.nil
    · rw [fl_eq h]
      split
      · exact List.Pairwise.nil
      · refine List.pairwise_append.2 ⟨perD_rise r s a b, fl_rise n (k + 1), fun x hx y hy => ?_⟩
        have h1 := perD_in hx
        rcases hq : pE r s (k + 1) with _ | ⟨a', b'⟩
        · rw [fl_none hq] at hy; cases hy
        · have := pE_next h hq
          have := (fl_from n (k + 1) a' b' hq y hy).1
          omega
/-- Cut at an end or not: those up to it are the same. -/
theorem fl_cut {r : Rl} {s t : Int} : ∀ (n : Nat) (k : Int), (fl r s t n k).filter (fun x => decide (x ≤ t)) = (fl r s 109573 n k).filter (fun x => decide (x ≤ t))
  | 0, _ => rfl
  | n + 1, k => by
    rcases h : pE r s k with _ | ⟨a, b⟩
    · rw [fl_none h, fl_none h]
    · have hi := pE_in h
      by_cases ht : t < a
      · have e : (fl r s 109573 (n + 1) k).filter (fun x => decide (x ≤ t)) = [] := List.filter_eq_nil_iff.2 (fun x hx => by have := (fl_from (n + 1) k a b h x hx).1; simp; omega)
        rw [e, fl_eq h, if_pos ht]
        rfl
      · rw [fl_eq h, fl_eq h, if_neg ht, if_neg (by omega), List.filter_append, List.filter_append, fl_cut n (k + 1)]
theorem flat_cut (r : Rl) (s t k : Int) : (flat r s t k).filter (fun x => decide (x ≤ t)) = (flat r s 109573 k).filter (fun x => decide (x ≤ t)) := fl_cut _ _
theorem flat_rise (r : Rl) (s t k : Int) : (flat r s t k).Pairwise (· < ·) := fl_rise _ _
theorem flat_last {r : Rl} {s t k x : Int} (h : x ∈ flat r s t k) : 1 ≤ x ∧ x ≤ 109573 := by
  rcases hq : pE r s k with _ | ⟨a, b⟩
  · rw [flat_none hq] at h; cases h
  · have := fl_from _ k a b hq x h
    have := pE_in hq
    omega
/-- What is passed over is ahead. -/
theorem flat_skip {r : Rl} {s fr : Int} (hs : s < fr) (he : 1 ≤ r.every * lng r.freq) : ∀ (n : Nat) (k : Int), 0 ≤ k → k + n ≤ (fr - s) / (r.every * lng r.freq) → (flat r s 109573 k).filter (fun x => decide (fr ≤ x)) = (flat r s 109573 (k + n)).filter (fun x => decide (fr ≤ x))
  | 0, k, _, _ => by simp
  | n + 1, k, h0, hk => by
    have hk' : k + 1 ≤ (fr - s) / (r.every * lng r.freq) := by omega
    rw [show k + ((n + 1 : Nat) : Int) = k + 1 + n by omega]
    rcases h : pE r s k with _ | ⟨a, b⟩
    · have all : ∀ m : Nat, pE r s (k + m) = none := fun m => by
        induction m with
        | zero => simpa using h
        | succ m ih =>
          rw [show k + ((m + 1 : Nat) : Int) = k + m + 1 by omega]
          exact pE_stop (by omega) ih
      have e := all (n + 1)
      rw [show k + ((n + 1 : Nat) : Int) = k + 1 + n by omega] at e
      rw [flat_none h, flat_none e]
    · have hb := pE_ends h
      have hm : (k + 1) * (r.every * lng r.freq) ≤ fr - s := by
        have q := Int.mul_le_mul_of_nonneg_right hk' (show 0 ≤ r.every * lng r.freq by omega)
        have z := Int.ediv_mul_le (fr - s) (show r.every * lng r.freq ≠ 0 by omega)
        omega
      have hi := pE_in h
      rw [flat_on h (by omega), List.filter_append, List.filter_eq_nil_iff.2 (fun x hx => by have := perD_in hx; simp; omega), List.nil_append]
      exact flat_skip hs he n (k + 1) (by omega) (by omega)
end Go.Proofs.YthdohcjingfpoaaGreatDoor
namespace Go.Proofs.YthdohcjingfpoaaGreatDoor
open Go.RowKit Cal Txt

theorem rise_len : ∀ (l : List Int) (a b : Int), l.Pairwise (· < ·) → (∀ x ∈ l, a ≤ x ∧ x ≤ b) → (l.length : Int) ≤ max 0 (b - a + 1)
  | [], a, b, _, _ => by simp; omega
  | x :: l, a, b, h, hm => by
    obtain ⟨h1, h2⟩ := List.pairwise_cons.1 h
    have := rise_len l (x + 1) b h2 (fun y hy => ⟨by have := h1 y hy; omega, (hm y (by simp [hy])).2⟩)
    have := hm x (by simp)
    simp
    omega
theorem rise_tw (t : Int) : ∀ (l : List Int), l.Pairwise (· < ·) → l.takeWhile (fun x => decide (x ≤ t)) = l.filter (fun x => decide (x ≤ t))
  | [], _ => rfl
  | x :: l, h => by
    obtain ⟨h1, h2⟩ := List.pairwise_cons.1 h
    by_cases k : x ≤ t
    · rw [List.takeWhile_cons_of_pos (by simpa using k), List.filter_cons_of_pos (by simpa using k), rise_tw t l h2]
    · rw [List.takeWhile_cons_of_neg (by simpa using k), List.filter_cons_of_neg (by simpa using k), List.filter_eq_nil_iff.2 (fun y hy => by have := h1 y hy; simp; omega)]
theorem rise_take (t : Int) : ∀ (l : List Int) (c : Nat), l.Pairwise (· < ·) → (l.filter (fun x => decide (x ≤ t))).take c = (l.take c).filter (fun x => decide (x ≤ t))
  | [], c, _ => by simp
  | x :: l, 0, _ => by simp
  | x :: l, c + 1, h => by
    obtain ⟨h1, h2⟩ := List.pairwise_cons.1 h
    by_cases k : x ≤ t
    · rw [List.filter_cons_of_pos (by simpa using k), List.take_succ_cons, List.take_succ_cons, List.filter_cons_of_pos (by simpa using k), rise_take t l c h2]
    · rw [List.filter_cons_of_neg (by simpa using k), List.take_succ_cons, List.filter_cons_of_neg (by simpa using k), List.filter_eq_nil_iff.2 (fun y hy => by have := h1 y hy; simp; omega), List.filter_eq_nil_iff.2 (fun y hy => by have := h1 y (List.mem_of_mem_take hy); simp; omega)]
      simp
/-- All days of a rule from a start on. -/
def dys (r : Rl) (s : Int) : List Int := s :: beh s (flat r s 109573 0)
/-- THE DAYS: up to Until, at most Count. -/
def DAYS (r : Rl) (s : Int) : List Int := cutC r.count 0 ((dys r s).filter (fun x => decide (x ≤ tl r 109573)))
theorem sf_ok {r : Rl} {s : Int} (h : sf r s = 0) : rf r = 0 ∧ 1 ≤ s ∧ s ≤ 109573 := by
  unfold sf at h
  split at h
  · rename_i q
    split at h
    · rename_i z; exact ⟨q, z⟩
    · cases h
  · rename_i q; exact absurd h q
theorem rf_more {r : Rl} (h : rf r = 0) : (0 ≤ r.count ∧ r.count ≤ 200) ∧ (0 ≤ r.till ∧ r.till ≤ 109573) := by
  unfold rf at h
  split at h
  · cases h
  · rename_i o
    have o' : ok1 r = true := by simpa using o
    exact (of_decide_eq_true o').2.2
theorem beh_cut (s t : Int) (l : List Int) : (beh s l).filter (fun x => decide (x ≤ t)) = beh s (l.filter (fun x => decide (x ≤ t))) := by
  unfold beh
  rw [List.filter_filter, List.filter_filter]
  congr 1
  funext x
  exact Bool.and_comm _ _
theorem beh_from (s fr : Int) (l : List Int) : (beh s l).filter (fun x => decide (fr ≤ x)) = beh s (l.filter (fun x => decide (fr ≤ x))) := by
  unfold beh
  rw [List.filter_filter, List.filter_filter]
  congr 1
  funext x
  exact Bool.and_comm _ _
theorem all_rise (r : Rl) (s t k : Int) : (s :: beh s (flat r s t k)).Pairwise (· < ·) := by
  refine List.pairwise_cons.2 ⟨fun y hy => ?_, (flat_rise r s t k).filter _⟩
  have := (List.mem_filter.1 hy).2
  simpa using this
theorem all_in {r : Rl} {s t k x : Int} (s1 : 1 ≤ s) (s2 : s ≤ 109573) (h : x ∈ s :: beh s (flat r s t k)) : s ≤ x ∧ x ≤ 109573 := by
  rcases List.mem_cons.1 h with rfl | h
  · omega
  · obtain ⟨h1, h2⟩ := List.mem_filter.1 h
    have := flat_last h1
    have : s < x := by simpa using h2
    omega
/-- What is handed out from fr to t is what of THE DAYS is between. -/
theorem btL_eq {r : Rl} {s : Int} (h : sf r s = 0) (fr t : Int) : btL r s fr t = (DAYS r s).filter (fun x => decide (fr ≤ x ∧ x ≤ t)) := by
  obtain ⟨hr, s1, s2⟩ := sf_ok h
  obtain ⟨c1, c2⟩ := rf_more hr
  have he := (rf_nums hr).2
  have lb := lng_bd r.freq
  have m1 : 1 ≤ r.every * lng r.freq := by
    have a := Int.mul_le_mul he.1 lb.1 (by omega) (by omega)
    omega
  obtain ⟨T, hT⟩ : ∃ T, T = tl r t := ⟨_, rfl⟩
  obtain ⟨U, hU⟩ : ∃ U, U = tl r 109573 := ⟨_, rfl⟩
  have TU : ∀ x : Int, x ≤ 109573 → (x ≤ T ↔ (x ≤ U ∧ x ≤ t)) := fun x hx => by
    rw [hT, hU]
    unfold tl
    split <;> omega
  unfold btL
  rw [← hT]
  have len := rise_len _ s 109573 (all_rise r s T (psd r s fr)) (fun x hx => all_in s1 s2 hx)
  rw [btw_eq fr T r.count _ 0 (Int.le_refl _) (by omega) (by omega), rise_tw T _ (all_rise r s T (psd r s fr))]
  have e1 : (s :: beh s (flat r s T (psd r s fr))).filter (fun x => decide (x ≤ T)) = (s :: beh s (flat r s 109573 (psd r s fr))).filter (fun x => decide (x ≤ T)) := by
    rw [List.filter_cons, List.filter_cons, beh_cut, beh_cut, flat_cut]
  rw [e1]
  have hD : DAYS r s = cutC r.count 0 ((dys r s).filter (fun x => decide (x ≤ U))) := by unfold DAYS; rw [← hU]
  have hin : ∀ x ∈ dys r s, s ≤ x ∧ x ≤ 109573 := fun x hx => all_in s1 s2 hx
  have e2 : (dys r s).filter (fun x => decide (x ≤ T)) = ((dys r s).filter (fun x => decide (x ≤ U))).filter (fun x => decide (x ≤ t)) := by
    rw [List.filter_filter]
    refine List.filter_congr (fun x hx => ?_)
    have q := TU x (hin x hx).2
    by_cases z : x ≤ T
    · have := q.1 z; simp [z, this.1, this.2]
    · by_cases z1 : x ≤ U
      · have : ¬ x ≤ t := fun z2 => z (q.2 ⟨z1, z2⟩)
        simp [z, this]
      · simp [z, z1]
  have fin : ∀ l : List Int, (l.filter (fun x => decide (x ≤ t))).filter (fun x => decide (fr ≤ x)) = l.filter (fun x => decide (fr ≤ x ∧ x ≤ t)) := fun l => by
    rw [List.filter_filter]
    refine List.filter_congr (fun x _ => ?_)
    simp
  by_cases c0 : r.count = 0
  · rw [hD]
    unfold cutC
    rw [if_pos c0, if_pos c0]
    by_cases hp : fr ≤ s
    · rw [show psd r s fr = 0 from if_pos (Or.inr hp)]
      show ((dys r s).filter (fun x => decide (x ≤ T))).filter (fun x => decide (fr ≤ x)) = _
      rw [e2, fin]
    · have ep : psd r s fr = (fr - s) / (r.every * lng r.freq) := if_neg (by omega)
      have p0 : 0 ≤ psd r s fr := by rw [ep]; exact Int.ediv_nonneg (by omega) (by omega)
      have sk := flat_skip (r := r) (s := s) (fr := fr) (by omega) m1 (psd r s fr).toNat 0 (by omega) (by omega)
      rw [show (0 : Int) + ((psd r s fr).toNat : Int) = psd r s fr by omega] at sk
      have sw : ∀ l : List Int, (l.filter (fun x => decide (x ≤ T))).filter (fun x => decide (fr ≤ x)) = (l.filter (fun x => decide (fr ≤ x))).filter (fun x => decide (x ≤ T)) := fun l => by
        rw [List.filter_filter, List.filter_filter]
        congr 1
        funext x
        exact Bool.and_comm _ _
      rw [sw, List.filter_cons_of_neg (by simp; omega), beh_from, ← sk, ← beh_from]
      have e3 : (beh s (flat r s 109573 0)).filter (fun x => decide (fr ≤ x)) = (dys r s).filter (fun x => decide (fr ≤ x)) := by
        unfold dys
        rw [List.filter_cons_of_neg (by simp; omega)]
      rw [e3, ← sw, e2, fin]
  · rw [show psd r s fr = 0 from if_pos (Or.inl c0)]
    show (cutC r.count 0 ((dys r s).filter (fun x => decide (x ≤ T)))).filter (fun x => decide (fr ≤ x)) = _
    rw [hD, e2]
    unfold cutC
    rw [if_neg c0, if_neg c0, rise_take t ((dys r s).filter (fun x => decide (x ≤ U))) _ ((all_rise r s 109573 0).filter _), fin]
theorem DAYS_rise (r : Rl) (s : Int) : (DAYS r s).Pairwise (· < ·) := by
  unfold DAYS cutC
  split
  · exact (all_rise r s 109573 0).filter _
  · exact ((all_rise r s 109573 0).filter _).sublist (List.take_sublist _ _)
theorem DAYS_in {r : Rl} {s x : Int} (h : sf r s = 0) (hx : x ∈ DAYS r s) : s ≤ x ∧ x ≤ 109573 ∧ (r.till ≠ 0 → x ≤ r.till) := by
  obtain ⟨_, s1, s2⟩ := sf_ok h
  have hx' : x ∈ (dys r s).filter (fun x => decide (x ≤ tl r 109573)) := by
    unfold DAYS cutC at hx
    split at hx
    · exact hx
    · exact List.mem_of_mem_take hx
  obtain ⟨h1, h2⟩ := List.mem_filter.1 hx'
  have h3 : x ≤ tl r 109573 := by simpa using h2
  have := all_in s1 s2 h1
  refine ⟨this.1, this.2, fun z => ?_⟩
  unfold tl at h3
  rw [if_neg z] at h3
  omega
/-- The first of them is the start. -/
theorem DAYS_head {r : Rl} {s x : Int} {l : List Int} (h : sf r s = 0) (e : DAYS r s = x :: l) : x = s := by
  have hx : x ∈ DAYS r s := by rw [e]; simp
  have h1 := DAYS_in h hx
  have h2 : x ≤ s := by
    rcases Int.lt_or_le s x with q | q
    · exfalso
      have hs : s ≤ tl r 109573 := by
        have hx' : x ∈ (dys r s).filter (fun x => decide (x ≤ tl r 109573)) := by
          unfold DAYS cutC at hx
          split at hx
          · exact hx
          · exact List.mem_of_mem_take hx
        have h3 : x ≤ tl r 109573 := by simpa using (List.mem_filter.1 hx').2
        omega
      have e1 : (dys r s).filter (fun x => decide (x ≤ tl r 109573)) = s :: (beh s (flat r s 109573 0)).filter (fun x => decide (x ≤ tl r 109573)) := by
        unfold dys
        rw [List.filter_cons_of_pos (by simpa using hs)]
      unfold DAYS cutC at e
      rw [e1] at e
      split at e
      · injection e with e _; omega
      · rcases hn : (r.count - 0).toNat with _ | n
        · rw [hn] at e; cases e
        · rw [hn, List.take_succ_cons] at e; injection e with e _; omega
    · exact q
  omega
theorem DAYS_count {r : Rl} {s : Int} (h : sf r s = 0) (c : r.count ≠ 0) : ((DAYS r s).length : Int) ≤ r.count := by
  have := rf_more (sf_ok h).1
  unfold DAYS cutC
  rw [if_neg c, List.length_take]
  omega
theorem btL_all {r : Rl} {s : Int} (h : sf r s = 0) : btL r s s 109573 = DAYS r s := by
  rw [btL_eq h]
  exact List.filter_eq_self.2 (fun x hx => by have := DAYS_in h hx; simp; omega)
end Go.Proofs.YthdohcjingfpoaaGreatDoor
