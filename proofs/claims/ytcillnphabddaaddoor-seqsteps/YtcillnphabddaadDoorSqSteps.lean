/-
  What is proved here: the walk of chimelaw4.SeqSteps: it returns true for every start, every and count, and turns nothing that was there; the table of months is asked as a premise.
-/
import Derived.Test.YtcillnphabddaadDoorSqFirst
import Derived.Test.YtcillnphabddaadDoorSqList
namespace Go.Proofs.YtcillnphabddaadDoor
open Go.RowKit Cal Txt

theorem getD_take {l : List Int} {n i : Nat} (h : i < (l.take n).length) : (l.take n).getD i 0 = l.getD i 0 := by
  rw [List.getD_eq_getElem?_getD, List.getD_eq_getElem?_getD, List.getElem?_take_of_lt (by simp at h; omega)]
theorem fact_two : (btL (rsc 3 2) 10 10 109573).take 9 = [10, 13] := by
  obtain ⟨L, h1, h2, h3, h4⟩ := dly_all (e := 3) (c := 2) (s := 10) (by decide) (by decide) (by decide)
  have hl : 2 ≤ L.length := by omega
  have a0 := h2 0 (by omega)
  have a1 := h2 1 (by omega)
  rw [h1]
  unfold cutC
  rw [if_neg (by decide)]
  rcases L with _ | ⟨x, _ | ⟨y, L⟩⟩
  · simp at hl
  · simp at hl
  · have e0 : x = 10 := by simpa using a0
    have e1 : y = 13 := by simpa using a1
    rw [e0, e1]
    rfl
/-- What SeqSteps asks. -/
theorem steps_all {ev c s : Int} (h : sf (rsc ev c) s = 0) : ∃ (P : List Int) (j : Nat), (btL (rsc ev c) s s 109573).take 200 = P ∧ P.length = j + 1 ∧ j < 200 ∧ (1 ≤ s ∧ s ≤ 109573) ∧ (1 ≤ ev ∧ ev ≤ 50) ∧ (∀ i, i < P.length → P.getD i 0 = s + (i : Int) * ev) ∧ (c = 0 ∨ ((j : Int) + 1 ≤ c ∧ ((j : Int) + 1 = c ∨ 109573 < P.getD j 0 + ev))) := by
  unfold sf at h
  split at h
  · rename_i hr
    split at h
    · rename_i hs
      obtain ⟨L, h1, h2, h3, h4⟩ := dly_all (e := ev) (c := c) (s := s) hr hs.1 hs.2
      have hc : 0 ≤ c ∧ c ≤ 200 := by
        have q := hr
        unfold rf at q
        split at q
        · cases q
        · rename_i o
          have o' : ok1 (rsc ev c) = true := by simpa using o
          exact (of_decide_eq_true o').2.2.1
      have hP : ∃ k : Nat, (btL (rsc ev c) s s 109573).take 200 = L.take k ∧ 1 ≤ k ∧ k ≤ 200 ∧ (c = 0 ∨ (k : Int) = c) := by
        rw [h1]
        unfold cutC
        by_cases c0 : c = 0
        · exact ⟨200, by rw [if_pos c0], by omega, by omega, Or.inl c0⟩
        · refine ⟨c.toNat, ?_, by omega, by omega, Or.inr (by omega)⟩
          rw [if_neg c0, List.take_take, show c - 0 = c by omega, Nat.min_eq_right (by omega)]
      obtain ⟨k, p1, p2, p3, p4⟩ := hP
      have hlen : (L.take k).length = min k L.length := List.length_take
      refine ⟨L.take k, min k L.length - 1, p1, by omega, by omega, hs, (rf_nums hr).2, fun i hi => ?_, ?_⟩
      · rw [getD_take hi]
        exact h2 i (by omega)
      · rcases p4 with p4 | p4
        · exact Or.inl p4
        · refine Or.inr ⟨by omega, ?_⟩
          by_cases q : k ≤ L.length
          · exact Or.inl (by omega)
          · refine Or.inr ?_
            rw [getD_take (by omega), h2 _ (by omega), show min k L.length - 1 = L.length - 1 by omega]
            have m : ((L.length : Nat) : Int) * ev = ((L.length - 1 : Nat) : Int) * ev + ev := by
              rw [show ((L.length : Nat) : Int) = ((L.length - 1 : Nat) : Int) + 1 by omega, Int.add_mul, Int.one_mul]
            omega
    · cases h
  · rename_i hr
    exact absurd h hr
set_option maxRecDepth 100000 in
set_option maxHeartbeats 4000000 in
theorem ssteps (s ev c : Int) (w : World) (hT : Tab w) :
    Calls Tryd.prog 3 #[.int .i64 s, .int .i64 ev, .int .i64 c] w fun e w' => e = .returned (.bool true) ∧ Below w.heap.size w w' := by
  have HT := Lib.hid (fun W (q : Below w.heap.size w W) => hT.below q)
  have B0 := (Below.refl w.heap.size w).alloc (Nat.le_refl _) (.cells #[.int .i64 1, .int .i64 ev, .int .i64 c, .int .i64 0, .slice none 0 0, .slice none 0 0, .slice none 0 0, .slice none 0 0] 25)
  have HB := Lib.hid B0
  have HR := Lib.hid (RBox.new w 1 ev c 0 (.slice none 0 0) (.slice none 0 0) (.slice none 0 0) (.slice none 0 0) 25)
  clear B0 hT
  go_enter Tryd.func3, Tryd.ntmps3
  go_wp2_with fail
  generalize w.alloc (.cells #[.int .i64 1, .int .i64 ev, .int .i64 c, .int .i64 0, .slice none 0 0, .slice none 0 0, .slice none 0 0, .slice none 0 0] 25) = W0 at HB HR ⊢
  refine (first_any (rsc 3 2) _ 10 9 W0 (rsc_in W0 3 2) (HT.out _ HB.out)).mono ?_
  rintro e w1 ⟨hb, ⟨k0, _⟩ | ⟨_, v1, rfl, hi1⟩⟩
  · exact absurd (by decide) k0
  rw [show (9 : Int).toNat = 9 from rfl, fact_two] at hi1
  obtain ⟨a1, c1, rfl, hc1⟩ := hi1
  rcases hc1 with hc1 | ⟨b1, o1, rfl, hc1⟩
  · cases hc1
  have y1 := hc1 1 (by decide)
  have B1 := Lib.hid (HB.out.trans (hb.mono HB.out.size))
  have R1 := Lib.hid (HR.out.on hb)
  clear hb HB HR hc1
  have KF := Lib.hid (first_any (rsc ev c) _ s 200 w1 (rsc_in w1 ev c) (HT.out _ B1.out))
  obtain ⟨x0, x1, x2, x3, x4, x5, x6, x7⟩ := R1.out
  have xl := R1.out.lt
  simp only [List.length_cons, List.length_nil, List.getD_cons_succ, List.getD_cons_zero] at y1 ⊢
  go_wp2_with fail
  clear x0 x1 x2 x3 x4 x5 x6 x7 xl y1
  refine KF.out.mono ?_
  rintro e w2 ⟨hb, hd⟩
  have B2 := Lib.hid (B1.out.trans (hb.mono B1.out.size))
  clear hb B1 R1 KF
  rcases hd with ⟨k0, rfl⟩ | ⟨k0, v2, rfl, hi2⟩
  · rw [fault_ne k0]
    clear k0
    go_wp2
    go_ret
    exact ⟨rfl, B2.out⟩
  have k1 : sf (rsc ev c) s = 0 := by
    unfold ff at k0
    split at k0
    · assumption
    · exact k0
  obtain ⟨P, j, hP, hl, hj, hs, he, hv, hf⟩ := steps_all k1
  rw [show (200 : Int).toNat = 200 from rfl, hP] at hi2
  have HV := Lib.hid hv
  have HF := Lib.hid hf
  obtain ⟨a2, c2, rfl, hc2⟩ := hi2
  rcases hc2 with hc2 | ⟨b2, o2, rfl, hc2⟩
  · rw [hc2] at hl; simp at hl
  have HC : Hid (∀ i, i < j + 1 → w2.cell? ⟨b2, o2 + i, none⟩ = some (.int .i64 (P.getD i 0))) := Lib.hid (fun i hi => hc2 i (by omega))
  rw [hl]
  have HL := Lib.hid hl
  clear hc2 hv hf hP k0 k1 hl
  go_wp2_with fail
  go_loopw [12] (fun i wr => ∃ n : Nat, n ≤ j + 1 ∧ i = .int .i64 n ∧ wr = w2) (fun i _ => j + 1 - (intOf i).toNat)
  case atStart => exact ⟨0, Nat.zero_le _, rfl, rfl⟩
  case round =>
    obtain ⟨n, hn, rfl, rfl⟩ := hrel
    by_cases hlt : n < j + 1
    · have q1 := HC.out n hlt
      rw [HV.out n (by rw [HL.out]; exact hlt)] at q1
      have m1 : 0 ≤ (n : Int) * ev ∧ (n : Int) * ev ≤ 10000 := by
        have a := Int.mul_le_mul (show (0 : Int) ≤ n by omega) he.1 (by omega) (by omega)
        have b := Int.mul_le_mul (show (n : Int) ≤ 200 by omega) he.2 (by omega) (by omega)
        omega
      obtain ⟨p, hp⟩ : ∃ p, (n : Int) * ev = p := ⟨_, rfl⟩
      rw [hp] at q1 m1
      go_wp2
      go_roundw
      case rel => exact ⟨n + 1, by omega, by go_num, trivial⟩
      case measure => simp [intOf]; omega
    · have q1 := HC.out j (by omega)
      have hx : P.getD j 0 = s + (j : Int) * ev := HV.out j (by rw [HL.out]; omega)
      have m1 : 0 ≤ (j : Int) * ev ∧ (j : Int) * ev ≤ 10000 := by
        have a := Int.mul_le_mul (show (0 : Int) ≤ j by omega) he.1 (by omega) (by omega)
        have b := Int.mul_le_mul (show (j : Int) ≤ 200 by omega) he.2 (by omega) (by omega)
        omega
      have hf := HF.out
      generalize P.getD j 0 = x at q1 hx hf
      have xb : 1 ≤ x ∧ x ≤ 200000 := by omega
      obtain rfl : n = j + 1 := by omega
      clear hx m1 HF HV HC HL
      by_cases c0 : c = 0
      · subst c0
        clear hf
        go_wp2_with fail
        go_big_quiet (fail)
        go_wp2
        go_ret
        exact ⟨rfl, below_drewN B2.out _⟩
      · have t1 : (c == 0) = false := by simpa using c0
        obtain ⟨h1, h2⟩ := hf.resolve_left c0
        by_cases h3 : (j : Int) + 1 = c
        · subst h3
          clear h1 h2 hf c0
          go_wp2_with fail
          go_big_quiet (fail)
          go_wp2
          go_ret
          exact ⟨rfl, below_drewN B2.out _⟩
        · have t3 : (((j : Int) + 1) == c) = false := by simpa using h3
          have t2 : decide ((j : Int) + 1 ≤ c) = true := decide_eq_true h1
          have t4 : decide (x + ev > 109573) = true := decide_eq_true (by have := h2.resolve_left h3; omega)
          clear h1 h2 hf c0 h3
          go_wp2_with fail
          go_big_quiet ((go_at_call 7; exact Calls.quiet_of_same (last_any _)))
          go_wp2
          go_ret
          exact ⟨rfl, below_drewN B2.out _⟩
end Go.Proofs.YtcillnphabddaadDoor
