/-
  What is proved here: the walk of chimelaw4.PeriodSteps: it returns true for every start, k, every and frequency, and turns nothing that was there; the table of months is asked as a premise.
  What is proved here: the walk of chimelaw1.PeriodHolds: it returns true for every rule, start and k, and turns nothing that was there; the table of months is asked as a premise.
-/
import Derived.Test.YtoncfgfjdlgfcaaGreatDoorBF
namespace Go.Proofs.YtoncfgfjdlgfcaaGreatDoor
open Go.RowKit Cal Txt

/-- A rule of a frequency and steps, and nothing else. -/
def rs (f ev : Int) : Rl := ⟨f, ev, 0, 0, [], [], [], []⟩
theorem rs_in (w : World) (f ev : Int) : RuleIn w (.agg #[.int .i64 f, .int .i64 ev, .int .i64 0, .int .i64 0, .slice none 0 0, .slice none 0 0, .slice none 0 0, .slice none 0 0]) (rs f ev) :=
  ⟨_, _, _, _, rfl, ⟨none, 0, rfl, Or.inl rfl⟩, ⟨none, 0, rfl, Or.inl rfl⟩, ⟨none, 0, rfl, Or.inl rfl⟩, none, 0, rfl, Or.inl rfl⟩
theorem fact_16 : pE (rs 1 3) 10 2 = some (16, 16) := by decide
theorem perD_rs (f ev s a b : Int) : perD (rs f ev) s a b = allD (rs f ev) s a b := by
  unfold perD pick
  exact if_pos (show (rs f ev).pick.length = 0 from rfl)
theorem rng_len (a : Int) (n : Nat) : (rng a n).length = n := by unfold rng; rw [List.length_map, List.length_range]
theorem steps_daily {ev s a : Int} : (perD (rs 1 ev) s a a).length ≤ 1 := by
  rw [perD_rs]
  unfold allD
  have := List.length_filter_le (askB (comp (rs 1 ev) s)) (rng a (a + 1 - a).toNat)
  rw [rng_len] at this
  omega
theorem ask_week {ev s n : Int} (h : askB (comp (rs 2 ev) s) n = true) : wd s = wd n := by
  have e : comp (rs 2 ev) s = { rs 2 ev with weeks := [(0, wd s)] } := by unfold comp; rw [if_neg (by simp [rs]), if_pos (show (rs 2 ev).freq = 2 from rfl)]
  rw [e] at h
  unfold askB onW at h
  rw [Bool.and_eq_true] at h
  have h := h.2
  simp [fitB] at h
  rcases h with (h | h) | h
  · exact h
  · exact h.2
  · exact h.2
theorem steps_weekly {ev s a b : Int} (hb : b ≤ a + 6) : (perD (rs 2 ev) s a b).length ≤ 1 := by
  rw [perD_rs]
  have hr := allD_rise (rs 2 ev) s a b
  have hm : ∀ x ∈ allD (rs 2 ev) s a b, (a ≤ x ∧ x ≤ b) ∧ wd s = wd x := fun x hx => ⟨allD_mem hx, ask_week (List.mem_filter.1 hx).2⟩
  rcases e : allD (rs 2 ev) s a b with _ | ⟨x, _ | ⟨y, l⟩⟩
  · simp
  · simp
  · exfalso
    rw [e] at hr hm
    obtain ⟨⟨x1, x2⟩, x3⟩ := hm x (by simp)
    obtain ⟨⟨y1, y2⟩, y3⟩ := hm y (by simp)
    have hxy : x < y := (List.pairwise_cons.1 hr).1 y (by simp)
    unfold wd at x3 y3
    omega
end Go.Proofs.YtoncfgfjdlgfcaaGreatDoor
namespace Go.Proofs.YtoncfgfjdlgfcaaGreatDoor
open Go.RowKit Cal Txt

set_option maxHeartbeats 1000000 in
theorem refIn_any (v : Value) (l : List Int) (x : Int) (w : World) (hv : Ints w v l) (hl : l.length ≤ 1000000000) :
    Calls Tryz.prog 103 #[v, .int .i64 x] w fun e w' => e = .returned (.bool (l.contains x)) ∧ w' = w := by
  obtain ⟨a, cap, rfl, hc⟩ := hv
  rcases hc with rfl | ⟨b, off, rfl, hc⟩
  · go_enter Tryz.func103, Tryz.ntmps103
    go_wp2
    go_loop [5] (fun i => i = .int .i64 0) (fun _ => 0)
    case atStart => rfl
    case round =>
      subst hrel
      go_wp2
      go_ret
      exact ⟨rfl, rfl⟩
  · have HC := Lib.hid hc
    clear hc
    go_enter Tryz.func103, Tryz.ntmps103
    go_wp2
    go_loop [5] (fun i => ∃ k : Nat, k ≤ l.length ∧ i = .int .i64 k ∧ (l.take k).contains x = false) (fun i => l.length - (intOf i).toNat)
    case atStart => exact ⟨0, Nat.zero_le _, rfl, rfl⟩
    case round =>
      obtain ⟨k, hk, rfl, hF⟩ := hrel
      have HF := Lib.hid hF
      clear hF
      by_cases hlt : k < l.length
      · have ck := HC.out k hlt
        obtain ⟨y, hy⟩ : ∃ y, y = l.getD k 0 := ⟨_, rfl⟩
        rw [← hy] at ck
        have HX := Lib.hid hy
        clear hy
        rcases he : (y == x) with _ | _
        · have N1 := Lib.hid (has_take hlt HF.out (x := x) (by rw [← HX.out]; intro q; rw [q] at he; simp at he))
          go_wp2
          go_round
          case rel => exact ⟨k + 1, by omega, by go_num, N1.out⟩
          case measure => simp [intOf]; omega
        · have N0 := Lib.hid (has_hit hlt (x := x) (by rw [← HX.out]; exact beq_iff_eq.1 he))
          go_wp2
          go_ret
          exact ⟨ret_bool (by rw [← List.contains_eq_mem, N0.out]), rfl⟩
      · have N1 : Hid (l.contains x = false) := Lib.hid (by have := HF.out; rwa [List.take_of_length_le (by omega)] at this)
        go_wp2
        go_ret
        exact ⟨ret_bool (by rw [← List.contains_eq_mem, N1.out]), rfl⟩
theorem bool_abs (a x y : Bool) : (a || (x && a) || (y && a)) = a := by cases a <;> cases x <;> cases y <;> rfl
theorem ask_weekB (ev s n : Int) : askB (comp (rs 2 ev) s) n = (wd s == wd n) := by
  have e : comp (rs 2 ev) s = { rs 2 ev with weeks := [(0, wd s)] } := by unfold comp; rw [if_neg (by simp [rs]), if_pos (show (rs 2 ev).freq = 2 from rfl)]
  rw [e]
  show (true && true && (false || (([(0, wd s)] : List (Int × Int)).any (fitB · n)))) = _
  simp only [List.any_cons, List.any_nil, Bool.or_false, Bool.true_and, Bool.false_or]
  unfold fitB
  exact bool_abs _ _ _
theorem fact_ends : pE (rs 2 1) 46340 1 = some (46341, 46347) := by decide
theorem fact_days : perD (rs 2 1) 46340 46341 46347 = [46347] := by
  rw [perD_rs]
  unfold allD
  rw [show (askB (comp (rs 2 1) 46340)) = fun n => (wd 46340 == wd n) from funext (ask_weekB 1 46340)]
  decide
/-- A rule, without what is picked. -/
def np (r : Rl) : Rl := { r with pick := [] }
theorem rf_np {r : Rl} (h : rf r = 0) : rf (np r) = 0 := by
  unfold rf at h
  split at h
  · cases h
  rename_i h1
  split at h
  · cases h
  rename_i h2
  split at h
  · cases h
  rename_i h3
  split at h
  · cases h
  rename_i h4
  split at h
  · cases h
  rename_i h5
  split at h
  · cases h
  rename_i h6
  split at h
  · cases h
  rename_i h7
  have k3 : ok2 (np r) = true := by
    have q : ok2 r = true := by simpa using h3
    obtain ⟨a, b, c, _⟩ := of_decide_eq_true q
    exact decide_eq_true ⟨a, b, c, by show 0 ≤ 20; omega⟩
  have k4 : ok3 (np r) = true := by
    have q : ok3 r = true := by simpa using h4
    unfold ok3 at q ⊢
    rw [Bool.and_eq_true] at q
    show (inB 1 12 r.months && inB (-31) 31 r.days && inB (-31) 31 []) = true
    rw [q.1]; rfl
  have k6 : ok4 (np r) = true := by
    have q : ok4 r = true := by simpa using h6
    unfold ok4 at q ⊢
    rw [Bool.and_eq_true] at q
    show ((risB r.months && wriB r.weeks) && risB r.days && risB []) = true
    rw [q.1]; rfl
  have k7 : oddB (np r) = false := by
    have q : oddB r = false := by simpa using h7
    unfold oddB at q ⊢
    rw [Bool.or_eq_false_iff] at q
    show (_ || (decide (0 < ([] : List Int).length) && _)) = false
    exact Bool.or_eq_false_iff.2 ⟨q.1, rfl⟩
  have k1 : ¬ ok1 (np r) = false := h1
  have k2 : ¬ (¬ (np r).count = 0 ∧ ¬ (np r).till = 0) := h2
  have k5 : ¬ wkB (np r).weeks = false := h5
  unfold rf
  rw [if_neg k1, if_neg k2, if_neg (by rw [k3]; decide), if_neg (by rw [k4]; decide), if_neg k5, if_neg (by rw [k6]; decide), if_neg (by rw [k7]; decide)]
theorem pE_np {r : Rl} {s k a b : Int} (h : pE r s k = some (a, b)) : pE (np r) s k = some (a, b) := by
  obtain ⟨h1, h2, h3, h4⟩ := pE_some h
  rw [pE_yes ⟨rf_np h1, h2, h3⟩]
  exact h4
theorem perD_np (r : Rl) (s a b : Int) : perD (np r) s a b = allD r s a b := by
  unfold perD pick
  rw [if_pos (show (np r).pick.length = 0 from rfl)]
  exact allD_pick r s a b []
theorem perD_len {r : Rl} {s a b : Int} (h : b ≤ a + 400) : (perD r s a b).length ≤ 401 ∧ (allD r s a b).length ≤ 401 := by
  have h1 := (pick_sub r.pick (allD r s a b)).length_le
  have h2 := List.length_filter_le (askB (comp r s)) (rng a (b + 1 - a).toNat)
  rw [rng_len] at h2
  unfold perD
  unfold allD at h1 ⊢
  omega
theorem gint_mem {l : List Int} {j : Nat} (h : j < l.length) : l.getD j 0 ∈ l := by
  rw [List.getD_eq_getElem?_getD, List.getElem?_eq_getElem h]
  exact List.getElem_mem h
theorem rise_at {l : List Int} (h : l.Pairwise (· < ·)) {i j : Nat} (hij : i < j) (hj : j < l.length) : l.getD i 0 < l.getD j 0 := by
  rw [List.getD_eq_getElem?_getD, List.getD_eq_getElem?_getD, List.getElem?_eq_getElem hj, List.getElem?_eq_getElem (by omega : i < l.length)]
  exact List.pairwise_iff_getElem.1 h i j (by omega) hj hij
end Go.Proofs.YtoncfgfjdlgfcaaGreatDoor
