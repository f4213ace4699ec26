/-
  What is proved here: plain facts on what between hands out, and on the days of a rule that goes each so many days; no program is named.
-/
import Derived.Test.YtcillnphabddaacDoorSqMade
namespace Go.Proofs.YtcillnphabddaacDoor
open Go.RowKit Cal Txt

theorem inc_small {c : Int} (h0 : 0 ≤ c) (h1 : c ≤ 1000000000) : inc c = c + 1 := by unfold inc wrap64; omega
/-- The first so many, if there is a count. -/
def cutC (cnt c : Int) (l : List Int) : List Int := if cnt = 0 then l else l.take (cnt - c).toNat
theorem tw_yes {t n : Int} (h : ¬ t < n) (ns : List Int) : (n :: ns).takeWhile (fun n => decide (n ≤ t)) = n :: ns.takeWhile (fun n => decide (n ≤ t)) := List.takeWhile_cons_of_pos (by simp; omega)
theorem btw_eq (fr t cnt : Int) : ∀ (L : List Int) (c : Int), 0 ≤ c → c + (L.length : Int) ≤ 1000000000 → (cnt = 0 ∨ c < cnt) → btw fr t cnt c L = (cutC cnt c (L.takeWhile (fun n => decide (n ≤ t)))).filter (fun n => decide (fr ≤ n))
  | [], c, _, _, _ => by unfold cutC; split <;> simp [btw]
  | n :: ns, c, h0, h1, h2 => by
    have hl : (((n :: ns).length : Nat) : Int) = (ns.length : Int) + 1 := by simp
    have hi := inc_small h0 (by omega)
    by_cases h : t < n
    · have e : btw fr t cnt c (n :: ns) = [] := if_pos h
      rw [e, List.takeWhile_cons_of_neg (by simp; omega)]
      unfold cutC
      split <;> simp
    · rw [tw_yes h]
      have IH : ∀ _ : cnt = 0 ∨ c + 1 < cnt, btw fr t cnt (c + 1) ns = (cutC cnt (c + 1) (ns.takeWhile (fun n => decide (n ≤ t)))).filter (fun n => decide (fr ≤ n)) := fun q => btw_eq fr t cnt ns (c + 1) (by omega) (by omega) q
      have e : btw fr t cnt c (n :: ns) = (if fr ≤ n then [n] else []) ++ (if (inc c != cnt) = true then btw fr t cnt (inc c) ns else []) := by
        show (if t < n then [] else if fr ≤ n then n :: (if (inc c != cnt) = true then btw fr t cnt (inc c) ns else []) else (if (inc c != cnt) = true then btw fr t cnt (inc c) ns else [])) = _
        rw [if_neg h]
        split <;> rfl
      rw [e, hi]
      have e2 : ∀ l : List Int, (n :: l).filter (fun n => decide (fr ≤ n)) = (if fr ≤ n then [n] else []) ++ l.filter (fun n => decide (fr ≤ n)) := fun l => by
        by_cases k : fr ≤ n
        · rw [if_pos k, List.filter_cons_of_pos (by simpa using k)]; rfl
        · rw [if_neg k, List.filter_cons_of_neg (by simpa using k)]; rfl
      rcases h2 with rfl | h2
      · rw [if_pos (show (c + 1 != 0) = true by simp; omega), IH (Or.inl rfl)]
        unfold cutC
        rw [if_pos rfl, if_pos rfl, e2]
      · by_cases k : c + 1 = cnt
        · rw [if_neg (show ¬ (c + 1 != cnt) = true by simp; omega)]
          unfold cutC
          rw [if_neg (show ¬ cnt = 0 by omega), show (cnt - c).toNat = 1 by omega, List.take_succ_cons, List.take_zero, e2]
          rfl
        · rw [if_pos (show (c + 1 != cnt) = true by simp; omega), IH (Or.inr (by omega))]
          unfold cutC
          rw [if_neg (show ¬ cnt = 0 by omega), if_neg (show ¬ cnt = 0 by omega), show (cnt - c).toNat = (cnt - (c + 1)).toNat + 1 by omega, List.take_succ_cons, e2]
theorem tw_all {p : Int → Bool} : ∀ {l : List Int}, (∀ x ∈ l, p x = true) → l.takeWhile p = l
  | [], _ => rfl
  | x :: l, h => by rw [List.takeWhile_cons_of_pos (h x (by simp)), tw_all (fun y hy => h y (by simp [hy]))]
/-- A rule that goes each so many days, so often. -/
def rsc (e c : Int) : Rl := ⟨1, e, c, 0, [], [], [], []⟩
theorem rsc_in (w : World) (e c : Int) : RuleIn w (.agg #[.int .i64 1, .int .i64 e, .int .i64 c, .int .i64 0, .slice none 0 0, .slice none 0 0, .slice none 0 0, .slice none 0 0]) (rsc e c) :=
  ⟨_, _, _, _, rfl, ⟨none, 0, rfl, Or.inl rfl⟩, ⟨none, 0, rfl, Or.inl rfl⟩, ⟨none, 0, rfl, Or.inl rfl⟩, none, 0, rfl, Or.inl rfl⟩
theorem perD_one (e c s a : Int) : perD (rsc e c) s a a = [a] := by
  have h1 : comp (rsc e c) s = rsc e c := by
    unfold comp
    rw [if_neg (by simp [rsc]), if_neg (by simp [rsc]), if_neg (by simp [rsc]), if_neg (by simp [rsc])]
  have h2 : rng a 1 = [a] := by simp [rng, List.range_succ]
  unfold perD pick
  rw [if_pos (show (rsc e c).pick.length = 0 from rfl)]
  unfold allD
  rw [h1, show (a + 1 - a).toNat = 1 by omega, h2]
  simp [askB, inM, onD, onW, rsc]
/-- From the k-th on: one behind the other, up to the last. -/
theorem dly {e c s : Int} (hr : rf (rsc e c) = 0) (s1 : 1 ≤ s) (s2 : s ≤ 109573) : ∀ (n : Nat) (k : Int), 0 ≤ k → 109574 - k ≤ (n : Int) →
    (∀ i, i < (fl (rsc e c) s 109573 n k).length → (fl (rsc e c) s 109573 n k).getD i 0 = s + (k + (i : Int)) * e) ∧ (∀ x ∈ fl (rsc e c) s 109573 n k, x ≤ 109573 ∧ s + k * e ≤ x) ∧ 109573 < s + (k + ((fl (rsc e c) s 109573 n k).length : Int)) * e := by
  have he : 1 ≤ e := (rf_nums hr).2.1
  have big : ∀ k : Int, 0 ≤ k → k ≤ k * e := fun k hk => by have := Int.mul_le_mul_of_nonneg_left he hk; omega
  intro n
  induction n with
  | zero =>
    intro k h0 h1
    have := big k h0
    refine ⟨fun i hi => by simp [fl] at hi, fun x hx => by simp [fl] at hx, ?_⟩
    show 109573 < s + (k + ((0 : Nat) : Int)) * e
    simp
    omega
  | succ n ih =>
    intro k h0 h1
    rcases hq : pE (rsc e c) s k with _ | ⟨a, b⟩
    · rw [fl_none hq]
      refine ⟨fun i hi => by simp at hi, fun x hx => by simp at hx, ?_⟩
      have := big k h0
      simp
      by_cases hk : k ≤ 109573
      · unfold pE at hq
        rw [if_pos ⟨hr, ⟨h0, hk⟩, s1, s2⟩] at hq
        unfold pEnds cutL at hq
        rw [if_neg (show ¬ (rsc e c).freq = 2 by simp [rsc]) , if_neg (show ¬ (rsc e c).freq = 3 by simp [rsc]), if_neg (show ¬ (rsc e c).freq = 4 by simp [rsc])] at hq
        split at hq
        · rename_i z; exact z
        · cases hq
      · omega
    · obtain ⟨e1, e2⟩ := pE_daily (show (rsc e c).freq = 1 from rfl) hq
      have e1' : a = s + k * e := e1
      have hin := pE_in hq
      have hf : fl (rsc e c) s 109573 (n + 1) k = a :: fl (rsc e c) s 109573 n (k + 1) := by
        show (match pE (rsc e c) s k with | none => [] | some (a, b) => if 109573 < a then [] else perD (rsc e c) s a b ++ fl (rsc e c) s 109573 n (k + 1)) = _
        rw [hq]
        show (if 109573 < a then [] else perD (rsc e c) s a b ++ fl (rsc e c) s 109573 n (k + 1)) = _
        rw [if_neg (by omega), e2, perD_one]
        rfl
      obtain ⟨i1, i2, i3⟩ := ih (k + 1) (by omega) (by omega)
      have m1 : (k + 1) * e = k * e + e := by rw [Int.add_mul, Int.one_mul]
      rw [hf]
      refine ⟨fun i hi => ?_, fun x hx => ?_, ?_⟩
      · rcases i with _ | i
        · simp; omega
        · have := i1 i (by simpa using hi)
          rw [show (a :: fl (rsc e c) s 109573 n (k + 1)).getD (i + 1) 0 = (fl (rsc e c) s 109573 n (k + 1)).getD i 0 from rfl, this]
          congr 2
          omega
      · rcases List.mem_cons.1 hx with rfl | hx
        · omega
        · have := i2 x hx; omega
      · rw [List.length_cons]
        rw [show (k + (((fl (rsc e c) s 109573 n (k + 1)).length + 1 : Nat) : Int)) = k + 1 + ((fl (rsc e c) s 109573 n (k + 1)).length : Int) by omega]
        exact i3
/-- All of them. -/
theorem dly_all {e c s : Int} (hr : rf (rsc e c) = 0) (s1 : 1 ≤ s) (s2 : s ≤ 109573) :
    ∃ L : List Int, btL (rsc e c) s s 109573 = cutC c 0 L ∧ (∀ i, i < L.length → L.getD i 0 = s + (i : Int) * e) ∧ 109573 < s + (L.length : Int) * e ∧ 1 ≤ L.length := by
  have he : 1 ≤ e := (rf_nums hr).2.1
  obtain ⟨i1, i2, i3⟩ := dly hr s1 s2 109573 1 (by omega) (by omega)
  obtain ⟨F, hF⟩ : ∃ F, F = fl (rsc e c) s 109573 109573 1 := ⟨_, rfl⟩
  rw [← hF] at i1 i2 i3
  have p0 : pE (rsc e c) s 0 = some (s, s) := by
    unfold pE
    rw [if_pos ⟨hr, ⟨by omega, by omega⟩, s1, s2⟩]
    unfold pEnds cutL
    rw [if_neg (show ¬ (rsc e c).freq = 2 by simp [rsc]) , if_neg (show ¬ (rsc e c).freq = 3 by simp [rsc]), if_neg (show ¬ (rsc e c).freq = 4 by simp [rsc]), if_neg (by simp; omega)]
    simp
    omega
  have f0 : flat (rsc e c) s 109573 0 = s :: F := by
    rw [flat_on p0 s2, perD_one, hF]
    rfl
  have fb : beh s (flat (rsc e c) s 109573 0) = F := by
    rw [f0]
    unfold beh
    rw [List.filter_cons_of_neg (by simp), List.filter_eq_self.2 (fun x hx => by have := i2 x hx; simp; omega)]
  have ps : psd (rsc e c) s s = 0 := if_pos (Or.inr (Int.le_refl _))
  have tz : tl (rsc e c) 109573 = 109573 := if_pos rfl
  have len : F.length ≤ 109573 := by
    rw [hF]
    have : ∀ (n : Nat) (k : Int), (fl (rsc e c) s 109573 n k).length ≤ n := by
      intro n
      induction n with
      | zero => intro k; exact Nat.le_refl _
      | succ n ih =>
        intro k
        rcases hq : pE (rsc e c) s k with _ | ⟨a, b⟩
        · rw [fl_none hq]; exact Nat.zero_le _
        · show (match pE (rsc e c) s k with | none => [] | some (a, b) => if 109573 < a then [] else perD (rsc e c) s a b ++ fl (rsc e c) s 109573 n (k + 1)).length ≤ n + 1
          rw [hq]
          show (if 109573 < a then [] else perD (rsc e c) s a b ++ fl (rsc e c) s 109573 n (k + 1)).length ≤ n + 1
          split
          · exact Nat.zero_le _
          · obtain ⟨_, e2⟩ := pE_daily (show (rsc e c).freq = 1 from rfl) hq
            rw [e2, perD_one, List.length_append]
            have := ih (k + 1)
            simp
            omega
    exact this _ _
  have hc : c = 0 ∨ 0 < c := by
    have q := hr
    unfold rf at q
    split at q
    · cases q
    · rename_i o
      have o' : ok1 (rsc e c) = true := by simpa using o
      obtain ⟨_, _, o3, _⟩ := of_decide_eq_true o'
      have o4 : 0 ≤ c := o3.1
      omega
  refine ⟨s :: F, ?_, fun i hi => ?_, ?_, by simp⟩
  · unfold btL
    rw [tz, ps, fb]
    show btw s 109573 c 0 (s :: F) = _
    rw [btw_eq s 109573 c (s :: F) 0 (Int.le_refl _) (by simp; omega) hc, tw_all (fun x hx => by
      rcases List.mem_cons.1 hx with rfl | hx
      · simpa using s2
      · have := i2 x hx; simp; omega)]
    refine List.filter_eq_self.2 (fun x hx => ?_)
    have hx' : x ∈ s :: F := by
      unfold cutC at hx
      split at hx
      · exact hx
      · exact List.mem_of_mem_take hx
    rcases List.mem_cons.1 hx' with rfl | hx'
    · simp
    · have := i2 x hx'; simp; omega
  · rcases i with _ | i
    · simp
    · rw [show (s :: F).getD (i + 1) 0 = F.getD i 0 from rfl, i1 i (by simpa using hi)]
      congr 2
      omega
  · rw [List.length_cons, show (((F.length + 1 : Nat)) : Int) = 1 + (F.length : Int) by omega]
    exact i3
end Go.Proofs.YtcillnphabddaacDoor
