/-
  What is proved here: plain facts on the rings of what is once, as chimelaw4.AlarmCounts asks them.
-/
import Derived.Test.YtkmmncebekcegaaGreatDoorAX
namespace Go.Proofs.YtkmmncebekcegaaGreatDoor
open Go.RowKit Cal Txt

/-- What is once, with one alarm. -/
abbrev ev2 (st n : Int) (x : Al) : Evt := ⟨⟨#[97]⟩, ByteArray.empty, st, n, false, noRl, [], [], [], [x]⟩
theorem ev2_is (st n : Int) (x : Al) (z : Int) : isE (ev2 st n x) z ↔ z = st := by
  unfold isE isS
  have r0 : (ev2 st n x).rep = false := rfl
  have m0 : (ev2 st n x).more = [] := rfl
  have n0 : (ev2 st n x).nots = [] := rfl
  have s0 : (ev2 st n x).start = st := rfl
  rw [r0, m0, n0, s0]
  simp
/-- The rings of what is once. -/
theorem ev2_list {st n : Int} {x : Al} {fr t : Int} (h : evF (ev2 st n x) = 0) (h1 : fr ≤ st - 100000) (h2 : st + 250000 < t) (h3 : st + n ≤ 157785119) : rgS 0 [] (ev2 st n x) fr t = rgX n (st, st, st + n) 0 x := by
  have hz : Zo.zf 0 [] = 0 := by decide
  have hst := of_decide_eq_true (evF_lens h).2.2.1
  have s0 : (ev2 st n x).start = st := rfl
  have n0 : (ev2 st n x).len = n := rfl
  have hn := (evF_lens h).2.2.2.2.2
  rw [n0] at hn
  rw [s0] at hst
  have ax : alF x = 0 := (evF_alm h).2 x (by simp)
  have re : ∀ z, rea (ev2 st n x) z = some z := fun z => rfl
  have ai := alF_in ax
  have tm : tim 0 [] (ev2 st n x) (st, st) = some (st, st, st + n) := tim_nil.2 ⟨by rw [show (st, st).2 - 0 = st from Int.sub_zero st]; exact ist_yes hst.1 hst.2, by show st - 0 + n ≤ _; omega, by simp⟩
  refine rg_ext (rgS_rise h) ?_ (fun r => ?_)
  · unfold rgX
    rw [List.pairwise_map]
    refine List.pairwise_lt_range.imp_of_mem (fun {u v} hu hv q => ?_)
    have hu2 := List.mem_range.1 hu
    have hv2 := List.mem_range.1 hv
    unfold ltR rg1
    simp only
    have b1 : 1 ≤ x.2.2.2 := ai.2.2.2 (by omega)
    have : (u : Int) * x.2.2.2 < (v : Int) * x.2.2.2 := Int.mul_lt_mul_of_pos_right (by omega) (by omega)
    omega
  · rw [rgS_mem h hz]
    unfold isRg
    simp only [ev2_is, re]
    constructor
    · rintro ⟨y, ⟨y1, r', hr, ht⟩, ⟨k, hk, u, hu, rfl⟩, _⟩
      obtain ⟨_, _, q3⟩ := tim_nil.1 ht
      obtain ⟨ya, yb, yc⟩ := y
      have hr' : ya = r' := by simpa using hr
      simp only at y1
      subst hr'
      subst y1
      have hk1 : k < 1 := hk
      obtain rfl : k = 0 := by omega
      unfold rgX
      rw [List.mem_map]
      refine ⟨u, List.mem_range.2 hu, ?_⟩
      simp at q3
      obtain ⟨e1, e2⟩ := q3
      rw [e1, e2]
      rfl
    · intro q
      unfold rgX at q
      obtain ⟨u, hu, rfl⟩ := List.mem_map.1 q
      have hu2 := List.mem_range.1 hu
      refine ⟨(st, st, st + n), ⟨rfl, st, rfl, tm⟩, ⟨0, Nat.zero_lt_one, u, hu2, rfl⟩, ?_⟩
      have m := mul_le (b := x.2.2.2) ai.2.1.1 hu2 ai.2.2.1.1
      have l5 := lst_in ax
      unfold lst at l5
      have b2 := bhd_in ax hn.1 hn.2
      unfold rg1
      simp only
      omega
theorem ev2_told {st : Int} {x : Al} (s1 : 500000 ≤ st) (s2 : st ≤ 150000000) :
    (¬ evF (ev2 st 30 x) = 0 → ¬ raF 0 [] (ev2 st 30 x) (st - 400000) (st + 400000) = 0) ∧ (evF (ev2 st 30 x) = 0 → raF 0 [] (ev2 st 30 x) (st - 400000) (st + 400000) = 0 ∧ raL 0 [] (ev2 st 30 x) (st - 400000) (st + 400000) = rgX 30 (st, st, st + 30) 0 x ∧ alF x = 0) := by
  constructor
  · intro h q
    exact h (ra_good q).1.1
  · intro h
    have l := ev2_list h (fr := st - 400000) (t := st + 400000) (by omega) (by omega) (by omega)
    have ax : alF x = 0 := (evF_alm h).2 x (by simp)
    have ai := alF_in ax
    have ln : (rgS 0 [] (ev2 st 30 x) (st - 400000) (st + 400000)).length ≤ 400 := by rw [l, rgX_len]; omega
    obtain ⟨a1, a2⟩ := ra_yes h (by decide) (strB_yes (by omega) (by omega) (by omega) (by omega)) ln
    exact ⟨a1, by rw [a2, l], ax⟩
/-- The event that is asked first. -/
theorem ev7_told : raF 0 [] (ev2 700 0 (0, false, 2, 5)) 1 2000 = 0 ∧ raL 0 [] (ev2 700 0 (0, false, 2, 5)) 1 2000 = [(700, 700, 0, 0), (705, 700, 0, 1), (710, 700, 0, 2)] := by
  have h : evF (ev2 700 0 (0, false, 2, 5)) = 0 := by decide
  have hz : Zo.zf 0 [] = 0 := by decide
  have l : rgS 0 [] (ev2 700 0 (0, false, 2, 5)) 1 2000 = [(700, 700, 0, 0), (705, 700, 0, 1), (710, 700, 0, 2)] := by
    have tm : tim 0 [] (ev2 700 0 (0, false, 2, 5)) (700, 700) = some (700, 700, 700) := tim_nil.2 ⟨by decide, by decide, rfl⟩
    have re : ∀ z, rea (ev2 700 0 (0, false, 2, 5)) z = some z := fun z => rfl
    refine rg_ext (rgS_rise h) (by simp [ltR]) (fun r => ?_)
    rw [rgS_mem h hz]
    unfold isRg
    simp only [ev2_is, re]
    constructor
    · rintro ⟨y, ⟨y1, r', hr, ht⟩, ⟨k, hk, u, hu, rfl⟩, _⟩
      obtain ⟨_, _, q3⟩ := tim_nil.1 ht
      obtain ⟨ya, yb, yc⟩ := y
      have hr' : ya = r' := by simpa using hr
      simp only at y1
      subst hr'
      subst y1
      simp only [Prod.mk.injEq, true_and] at q3
      have hk1 : k < 1 := hk
      obtain rfl : k = 0 := by omega
      have hu2 : u < 3 := hu
      have e1 : yb = 700 := by omega
      subst e1
      rcases (by omega : u = 0 ∨ u = 1 ∨ u = 2) with rfl | rfl | rfl <;> simp [rg1, bhd]
    · intro q
      refine ⟨(700, 700, 700), ⟨rfl, 700, rfl, tm⟩, ?_, ?_⟩
      · simp at q
        rcases q with rfl | rfl | rfl
        · exact ⟨0, by decide, 0, by decide, rfl⟩
        · exact ⟨0, by decide, 1, by decide, rfl⟩
        · exact ⟨0, by decide, 2, by decide, rfl⟩
      · simp at q
        rcases q with rfl | rfl | rfl <;> decide
  obtain ⟨a1, a2⟩ := ra_yes (fr := 1) (t := 2000) h hz (by decide) (by rw [l]; decide)
  exact ⟨a1, by rw [a2, l]⟩
theorem rgX_at {n : Int} {y : Tm} {x : Al} {k : Nat} (h : k < (rgX n y 0 x).length) : (rgX n y 0 x).getD k (0, 0, 0, 0) = (y.2.1 + bhd n x + k * x.2.2.2, y.1, 0, (k : Int)) := by
  rw [rgX_len] at h
  unfold rgX
  rw [List.getD_eq_getElem?_getD, List.getElem?_map, List.getElem?_range h]
  rfl
end Go.Proofs.YtkmmncebekcegaaGreatDoor
