/-
  What is proved here: what package queue's Push answers, and what it keeps (a contract over the translation).
-/
import Derived.Test.YtppachfccihbnaaQuOps3
namespace Go.Proofs.Ytppachfccihbnaa.Qu
open Go.RowKit

/-- What Push tells. -/
def pf (M : List Rq) (r : Rq) : Int := if ist r.1 = false then 1 else if hasQ M r = true then 7 else if 400 ≤ M.length then 4 else 0
/-- What there is behind a Push. -/
def pus (M : List Rq) (r : Rq) : List Rq := if pf M r = 0 then put M r else M
set_option maxHeartbeats 4000000 in
set_option maxRecDepth 100000 in
theorem push_any (w : World) (b : Nat) (v : Value) (M : List Rq) (r : Rq) (h : Qs w b v M) (hM : Rs M) (hl : M.length ≤ 1000000) :
    Calls Try.prog 8 #[.pointer (some ⟨b, 0, none⟩), agQ r] w (PsA b v w (pf M r) (pus M r)) := by
  obtain ⟨W0, hW0⟩ : ∃ W0, W0 = w.alloc (.cells #[.int .i64 r.1, .string r.2.1, .int .i64 r.2.2.1, .int .i64 r.2.2.2.1, .int .i64 r.2.2.2.2] 31) := ⟨_, rfl⟩
  have b0 : Below w.heap.size w W0 := by rw [hW0]; exact (Below.refl _ _).alloc (Nat.le_refl _) _
  have BT : Hid (∀ X, Below W0.heap.size W0 X → Below w.heap.size w X) := Lib.hid (fun X q => b0.trans (q.mono b0.size))
  have HW := Lib.hid hW0
  have x0 : QBx W0 w.heap.size r := by rw [hW0]; exact QBx.new w r _
  have HX : Hid (∀ X, Below W0.heap.size W0 X → QBx X w.heap.size r ∧ X.cell? ⟨b, 0, none⟩ = some v ∧ X.frozen? ⟨b, 0, none⟩ = false) := Lib.hid (fun X q => ⟨x0.on q, (h.on (b0.trans (q.mono b0.size))).cell, (h.on (b0.trans (q.mono b0.size))).frozen⟩)
  obtain ⟨r1, r2, r3, r4, r5⟩ := x0
  have bl : w.heap.size < W0.heap.size := cell_in r1
  have KT : Hid (∀ X, Calls Try.prog 13 #[.int .i64 r.1] X fun e w' => e = .returned (.bool (ist r.1)) ∧ w' = X) := Lib.hid (fun X => isTime_any _ X)
  have SAME : Hid (∀ k, pf M r = k → ¬ k = 0 → ∀ X, Below w.heap.size w X → PsA b v w k (pus M r) (.returned (fault k)) X) := Lib.hid (fun k hk h0 X q => ⟨rfl, v, M, h.on q, Kp.of_below q, by unfold pus; rw [if_neg (by rw [hk]; exact h0)]⟩)
  rcases hT : ist r.1 with _ | _
  · have e1 : pf M r = 1 := by unfold pf; rw [if_pos hT]
    have N1 := Lib.hid (SAME.out 1 e1 (by decide) W0 b0)
    rw [e1]
    rw [hT] at KT
    generalize PsA b v w 1 (pus M r) = PP at N1 ⊢
    clear h hM hl hW0 b0 hT e1 SAME HX
    go_enter Try.func8, Try.ntmps8
    go_upto_region 1 with fail
    rw [← HW.out]
    go_wp2_with (go_at_call 13; refine (KT.out _).mono ?_; rintro e w2 ⟨rfl, hw⟩; replace hw := hw.symm; subst hw)
    exact N1.out
  have KF : Hid (Calls Try.prog 20 #[.pointer (some ⟨b, 0, none⟩), agQ r] W0 (FndA M r W0)) := Lib.hid (find_any W0 b v M r (h.on b0) hM hl)
  rw [hT] at KT
  rcases hB : hasQ M r with _ | _
  case true =>
    have e1 : pf M r = 7 := by unfold pf; rw [if_neg (by rw [hT]; decide), if_pos hB]
    have N1 := Lib.hid (SAME.out 7 e1 (by decide))
    have HB := Lib.hid hB
    rw [e1]
    generalize PsA b v w 7 (pus M r) = PP at N1 ⊢
    clear h hM hl hW0 b0 hT e1 SAME HX hB
    go_enter Try.func8, Try.ntmps8
    go_upto_region 1 with fail
    rw [← HW.out]
    go_wp2_with (first
      | (go_at_call 13; refine (KT.out _).mono ?_; rintro e w2 ⟨rfl, hw⟩; replace hw := hw.symm; subst hw)
      | (go_at_call 20; refine KF.out.mono ?_; rintro e w2 ⟨p, hf, rfl, hb⟩; rw [HB.out]))
    exact N1.out _ (BT.out _ hb)
  obtain ⟨va, vc, rfl, _⟩ := h.own.rd
  by_cases hF : 400 ≤ M.length
  · have e1 : pf M r = 4 := by unfold pf; rw [if_neg (by rw [hT]; decide), if_neg (by rw [hB]; decide), if_pos hF]
    have N1 := Lib.hid (SAME.out 4 e1 (by decide))
    have HB := Lib.hid hB
    rw [e1]
    generalize PsA b (.slice va M.length vc) w 4 (pus M r) = PP at N1 ⊢
    have HC : Hid (∀ X, Below W0.heap.size W0 X → X.cell? ⟨b, 0, none⟩ = some (.slice va M.length vc)) := Lib.hid (fun X q => (HX.out X q).2.1)
    generalize M.length = n at *
    have hF2 : (400 : Int) ≤ (n : Int) := by omega
    clear h hM hl hW0 b0 hT e1 SAME HX hB
    go_enter Try.func8, Try.ntmps8
    go_upto_region 1 with fail
    rw [← HW.out]
    go_wp2_with (first
      | (go_at_call 13; refine (KT.out _).mono ?_; rintro e w2 ⟨rfl, hw⟩; replace hw := hw.symm; subst hw)
      | (go_at_call 20; refine KF.out.mono ?_; rintro e w2 ⟨p, hf, rfl, hb⟩; rw [HB.out]; have c2 := HC.out w2 hb))
    exact N1.out _ (BT.out _ hb)
  · have e1 : pf M r = 0 := by unfold pf; rw [if_neg (by rw [hT]; decide), if_neg (by rw [hB]; decide), if_neg hF]
    have hr := hasQ_not.1 hB
    have KI : Hid (∀ p : Nat, Fnd M r p → ∀ X, Below W0.heap.size W0 X → Calls Try.prog 21 #[.slice va M.length vc, .int .i64 p, .slice (some ⟨X.heap.size, 0, none⟩) 1 1] (X.drew.alloc (.cells #[.int .i64 r.1, .string r.2.1, .int .i64 r.2.2.1, .int .i64 r.2.2.2.1, .int .i64 r.2.2.2.2] 31)) fun e w2 => ∃ a n c, e = .returned (.slice a n c) ∧ w2.cell? ⟨b, 0, none⟩ = some (.slice va M.length vc) ∧ w2.frozen? ⟨b, 0, none⟩ = false ∧ Hid (PsA b (.slice va M.length vc) w 0 (pus M r) (.returned (fault 0)) (w2.setCell ⟨b, 0, none⟩ (.slice a n c)))) := Lib.hid (fun p hf X q => by
      obtain ⟨Y, hY⟩ : ∃ Y, Y = X.drew.alloc (.cells #[.int .i64 r.1, .string r.2.1, .int .i64 r.2.2.1, .int .i64 r.2.2.2.1, .int .i64 r.2.2.2.2] 31) := ⟨_, rfl⟩
      have qX : Below w.heap.size w X := b0.trans (q.mono b0.size)
      have qY : Below X.heap.size X Y := by rw [hY]; exact Below.alloc (Below.drew (Below.refl _ _)) (Nat.le_refl _) _
      have hX := h.on qX
      have hQ := hX.on qY
      have hL : Lies Y X.heap.size (encQ r) := by rw [hY]; exact heap_alloc_new X.drew _
      have hne : (Value.slice va M.length vc).ownBlock ≠ some X.heap.size := fun e => by have := (hX.own.lt _ e).2; omega
      rw [← hY]
      refine (insert_any M r p (b + 1) X.heap.size _ Y hQ.own hf.le hl (by have := hQ.lt; omega) hL hne).mono (fun e w2 ⟨v', he, h1, h2, h3⟩ => ?_)
      obtain ⟨a, c, rfl, _⟩ := h1.rd
      obtain ⟨q1, q2⟩ := qs_cell2 hQ h3
      obtain ⟨s1, s2⟩ := qs_store hQ h3 h1 h2
      refine ⟨a, _, c, he, q1, q2, Lib.hid ⟨rfl, _, _, s1, ((Kp.of_below qX).trans (Kp.of_below qY)).trans s2, ?_⟩⟩
      unfold pus
      rw [if_pos e1, put_ins hM hf hr])
    have HB := Lib.hid hB
    rw [e1]
    generalize PsA b (.slice va M.length vc) w 0 (pus M r) = PP at KI ⊢
    have HC : Hid (∀ X, Below W0.heap.size W0 X → X.cell? ⟨b, 0, none⟩ = some (.slice va M.length vc) ∧ QBx X w.heap.size r) := Lib.hid (fun X q => ⟨(HX.out X q).2.1, (HX.out X q).1⟩)
    generalize M.length = n at *
    have hF2 : ¬ (400 : Int) ≤ (n : Int) := by omega
    have blb : b < W0.heap.size := cell_in (HC.out W0 (Below.refl _ _)).1
    clear h hM hl hW0 b0 hT e1 SAME HX hB hr
    go_enter Try.func8, Try.ntmps8
    go_upto_region 1 with fail
    rw [← HW.out]
    go_upto_region 8 with (first
      | (go_at_call 13; refine (KT.out _).mono ?_; rintro e w2 ⟨rfl, hw⟩; replace hw := hw.symm; subst hw)
      | (go_at_call 20; refine KF.out.mono ?_; rintro e w2 ⟨p, hf, rfl, hb⟩; rw [HB.out]; obtain ⟨c2, y1, y2, y3, y4, y5⟩ := HC.out w2 hb))
    have bl2 : b < w2.heap.size := cell_in c2
    have bl3 : w.heap.size < w2.heap.size := cell_in y1
    have K2 := Lib.hid (KI.out p hf w2 hb)
    clear KI KF KT r1 r2 r3 r4 r5 bl blb hf hb HB
    go_region_with (first | (go_at_call 21; refine K2.out.mono ?_; rintro e w3 ⟨a, k, cp, rfl, c3, f3, FI⟩))
    all_goals (clear K2 c2 y1 y2 y3 y4 y5 bl2 bl3 c3 f3; go_wp2; exact FI.out)
end Go.Proofs.Ytppachfccihbnaa.Qu
