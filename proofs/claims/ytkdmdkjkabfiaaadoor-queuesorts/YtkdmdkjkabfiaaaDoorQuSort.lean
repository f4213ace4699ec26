/-
  What is proved here: QueueSorts returns true, whatever rings it is handed (its walk over the translation).
-/
import Derived.Test.YtkdmdkjkabfiaaaDoorQuSoP
namespace Go.Proofs.YtkdmdkjkabfiaaaDoor.Qu
open Go.RowKit

theorem Kp.box {b k : Nat} {v v' : Value} {w w' : World} {x : Rq} (h : Kp b v v' w w') (q : QBx w k x) (h1 : k ≠ b) (h2 : v.ownBlock ≠ some k) : QBx w' k x := by
  have e := h.block k q.lt h1 (fun e => h2 e.symm)
  exact ⟨(World.cell?_of_block (a := ⟨k, 0, none⟩) e).trans q.1, (World.cell?_of_block (a := ⟨k, 1, none⟩) e).trans q.2.1, (World.cell?_of_block (a := ⟨k, 2, none⟩) e).trans q.2.2.1, (World.cell?_of_block (a := ⟨k, 3, none⟩) e).trans q.2.2.2.1, (World.cell?_of_block (a := ⟨k, 4, none⟩) e).trans q.2.2.2.2⟩
theorem Kp.lies {b k : Nat} {v v' : Value} {w w' : World} {L : List Value} (h : Kp b v v' w w') (q : Lies w k L) (h1 : k ≠ b) (h2 : v.ownBlock ≠ some k) : Lies w' k L := (h.block k q.lt h1 (fun e => h2 e.symm)).trans q
theorem Kp.apart {b k : Nat} {v v' : Value} {w w' : World} (h : Kp b v v' w w') (hk : k < w.heap.size) (h2 : v.ownBlock ≠ some k) : v'.ownBlock ≠ some k := fun e => by
  rcases h.own k e with q | q
  · exact h2 q
  · omega
theorem Lies.on {w w' : World} {k : Nat} {L : List Value} (h : Lies w k L) (q : Below w.heap.size w w') : Lies w' k L := (q.block k h.lt).trans h
theorem Lies.box {w : World} {k : Nat} {x : Rq} (h : Lies w k (encQ x)) : QBx w k x := ⟨h.cell rfl, h.cell rfl, h.cell rfl, h.cell rfl, h.cell rfl⟩
theorem below_alloc (w : World) (o : Obj) : Below w.heap.size w (w.alloc o) := (Below.refl _ _).alloc (Nat.le_refl _) _
set_option maxHeartbeats 8000000 in
set_option maxRecDepth 100000 in
theorem qsorts (l : List Rq) (v : Value) (w : World) (hr : Rd w v l) (hl : l.length ≤ 9223372036854775807) (hg : ErrTy w) :
    Calls Tryd.prog 3 #[v] w fun e w' => e = .returned (.bool true) ∧ Below w.heap.size w w' := by
  obtain ⟨a, cap, rfl, _⟩ := id hr
  have HR := Lib.hid hr
  have HG := Lib.hid hg
  have HLL := Lib.hid hl
  obtain ⟨b, hb⟩ : ∃ b, b = w.heap.size := ⟨_, rfl⟩
  obtain ⟨W3, hW3⟩ : ∃ W3, W3 = ((w.alloc (.cells #[.slice none 0 0] 48)).alloc (.cells #[.int .i64 5, .string ⟨#[98]⟩, .int .i64 0, .int .i64 0, .int .i64 0] 26)).alloc (.cells #[.int .i64 5, .string ⟨#[97]⟩, .int .i64 0, .int .i64 0, .int .i64 0] 26) := ⟨_, rfl⟩
  have z1 : (w.alloc (.cells #[.slice none 0 0] 48)).heap.size = b + 1 := by rw [World.size_alloc, hb]
  have z2 : ((w.alloc (.cells #[.slice none 0 0] 48)).alloc (.cells #[.int .i64 5, .string ⟨#[98]⟩, .int .i64 0, .int .i64 0, .int .i64 0] 26)).heap.size = b + 2 := by rw [World.size_alloc, z1]
  have Q0 : Qs W3 b (.slice none 0 0) [] := by
    rw [hW3, hb]
    exact ((qs_new w).on (below_alloc _ _)).on (below_alloc _ _)
  have x1 : QBx W3 (b + 1) fa := by rw [hW3, ← z1]; exact (QBx.new (w.alloc (.cells #[.slice none 0 0] 48)) fa 26).on (below_alloc _ _)
  have x2 : QBx W3 (b + 2) fb := by rw [hW3, ← z2]; exact QBx.new ((w.alloc (.cells #[.slice none 0 0] 48)).alloc (.cells #[.int .i64 5, .string ⟨#[98]⟩, .int .i64 0, .int .i64 0, .int .i64 0] 26)) fb 26
  have B3 : Hid (Below w.heap.size w W3) := Lib.hid (by
    rw [hW3]
    exact Below.alloc (Below.alloc (below_alloc w _) (by simp) _) (by simp; omega) _)
  have HW : Hid (((w.alloc (.cells #[.slice none 0 0] 48)).alloc (.cells #[.int .i64 5, .string ⟨#[98]⟩, .int .i64 0, .int .i64 0, .int .i64 0] 26)).alloc (.cells #[.int .i64 5, .string ⟨#[97]⟩, .int .i64 0, .int .i64 0, .int .i64 0] 26) = W3) := Lib.hid hW3.symm
  have s3 : W3.heap.size = b + 3 := by rw [hW3, World.size_alloc, z2]
  have HS := Lib.hid s3
  subst hb
  obtain ⟨a1, a2, a3, a4, a5⟩ := x1
  have X2 := Lib.hid x2
  obtain ⟨b1, b2, b3, b4, b5⟩ := x2
  clear hW3 z1 z2 hr hg hl s3
  simp only [fa] at a1 a2 a3 a4 a5
  simp only [fb] at b1 b2 b3 b4 b5
  have F1 := Lib.hid f_one
  have F2 := Lib.hid f_two
  have R1 : Hid (Rs [fa]) := Lib.hid (List.pairwise_singleton _ _)
  have bl : w.heap.size < W3.heap.size := by rw [HS.out]; omega
  have bl1 : w.heap.size + 1 < W3.heap.size := by rw [HS.out]; omega
  have bl2 : w.heap.size + 2 < W3.heap.size := by rw [HS.out]; omega
  have HQ0 := Lib.hid Q0
  clear Q0
  go_enter Tryd.func3, Tryd.ntmps3
  go_upto_region 4 with (go_at_call 5; refine (new_any _).mono ?_; rintro e w' ⟨rfl, rfl⟩)
  rw [HW.out]
  go_wp2_with fail
  refine (push_yes W3 w.heap.size _ [] fa HQ0.out Rs.nil (by simp) F1.out.1).mono ?_
  rintro e w4 ⟨rfl, v4, Q4, K4⟩
  rw [F1.out.2] at Q4
  have N4 : Hid (v4.ownBlock ≠ some (w.heap.size + 2)) := Lib.hid (K4.apart (by rw [HS.out]; omega) (fun e => by cases e))
  have X4 := Lib.hid (K4.box X2.out (by omega) (fun e => by cases e))
  have B4 : Hid (Below w.heap.size w w4) := Lib.hid (B3.out.trans (K4.below HQ0.out (Nat.le_refl _)))
  have S4 : Hid (w.heap.size + 3 ≤ w4.heap.size) := Lib.hid (by have := K4.size; rw [HS.out] at this; exact this)
  clear a1 a2 a3 a4 a5 b1 b2 b3 b4 b5 K4 bl bl1 bl2
  obtain ⟨b1, b2, b3, b4, b5⟩ := X4.out
  simp only [fb] at b1 b2 b3 b4 b5
  have HQ4 := Lib.hid Q4
  have bl2 : w.heap.size + 2 < w4.heap.size := by have := S4.out; omega
  clear Q4
  go_wp2_with fail
  refine (push_yes w4 w.heap.size v4 [fa] fb HQ4.out R1.out (by simp) F2.out.1).mono ?_
  rintro e w5 ⟨rfl, v5, Q5, K5⟩
  rw [F2.out.2] at Q5
  have N5 : Hid (v5.ownBlock ≠ some (w.heap.size + 2)) := Lib.hid (K5.apart (by have := S4.out; omega) N4.out)
  have X5 := Lib.hid (K5.box X4.out (by omega) N4.out)
  have B5 : Hid (Below w.heap.size w w5) := Lib.hid (B4.out.trans (K5.below HQ4.out (Nat.le_refl _)))
  have S5 : Hid (w.heap.size + 3 ≤ w5.heap.size) := Lib.hid (Nat.le_trans S4.out K5.size)
  clear b1 b2 b3 b4 b5 K5 bl2
  have HQ5 := Lib.hid Q5
  clear Q5
  go_wp2_with fail
  refine (pop_yes w5 w.heap.size v5 fb [fa] HQ5.out (by simp)).mono ?_
  rintro e w6 ⟨rfl, v6, Q6, K6⟩
  have X6 := Lib.hid (K6.box X5.out (by omega) N5.out)
  have B6 : Hid (Below w.heap.size w w6) := Lib.hid (B5.out.trans (K6.below HQ5.out (Nat.le_refl _)))
  have S6 : Hid (w.heap.size + 3 ≤ w6.heap.size) := Lib.hid (Nat.le_trans S5.out K6.size)
  obtain ⟨b1, b2, b3, b4, b5⟩ := X6.out
  simp only [fb] at b1 b2 b3 b4 b5
  have bl2 : w.heap.size + 2 < w6.heap.size := by have := S6.out; omega
  have HQ6 := Lib.hid Q6
  clear Q6 K6
  simp only [fb]
  go_wp2_with fail
  refine (pop_yes _ w.heap.size v6 fa [] (HQ6.out.on (below_alloc _ _)) (by simp)).mono ?_
  rintro e w8 ⟨rfl, v8, Q8, K8⟩
  have B8 : Hid (Below w.heap.size w w8) := Lib.hid ((B6.out.alloc B6.out.size _).trans (K8.below (HQ6.out.on (below_alloc _ _)) (Nat.le_refl _)))
  have HQ8 := Lib.hid Q8
  clear Q8 K8 b1 b2 b3 b4 b5 bl2 X6 X5 X4 X2 S6 S5 S4 N5 N4 HQ6 HQ5 HQ4 HQ0 B6 B5 B4 B3 F1 F2 R1 HS HW
  go_wp2_with fail
  go_loopw [8, 9] (fun n i wr => ∃ (k m : Nat) (u : Value) (M : List Rq), k ≤ 60 ∧ k ≤ l.length ∧ m ≤ k ∧ n = .int .i64 m ∧ i = .int .i64 k ∧ Hid (m = M.length) ∧ Hid (Qs wr w.heap.size u M) ∧ Hid (Rs M) ∧ Hid (∀ z, z ∈ M → z ∈ l) ∧ Hid (Below w.heap.size w wr)) (fun _ i _ => 60 - (intOf i).toNat)
  case atStart => exact ⟨0, 0, v8, [], by omega, by omega, by omega, rfl, rfl, Lib.hid rfl, HQ8, Lib.hid Rs.nil, Lib.hid (fun z h => by cases h), B8⟩
  case round =>
    obtain ⟨k, m, u, M, hk, hkl, hmk, rfl, rfl, HM, HQ, HRs, HI, BB⟩ := hrel
    by_cases hlt : k < l.length ∧ k < 60
    · obtain ⟨h1, h2⟩ := hlt
      have hR := HR.out.on BB.out
      obtain ⟨bb, off, rfl⟩ : ∃ bb off, a = some ⟨bb, off, none⟩ := by
        obtain ⟨a', cap', e', hc⟩ := hR
        injection e' with e1 _ _
        rcases hc with hc | ⟨bb, off, ea, _⟩
        · rw [hc] at h1; simp at h1
        · exact ⟨bb, off, by rw [e1, ea]⟩
      have c5 := hR.at h1
      have MX : Hid (l.getD k zq ∈ l) := Lib.hid (getD_mem h1)
      generalize l.getD k zq = y at c5 MX
      have cl := c5.lt
      obtain ⟨k1, k2, k3, k4, k5⟩ := c5
      clear hR
      have d1 : decide ((k : Int) < (l.length : Int)) = true := decide_eq_true (by omega)
      have d2 : decide ((k : Int) < 60) = true := decide_eq_true (by omega)
      have ML : Hid (M.length ≤ 1000000) := Lib.hid (by rw [← HM.out]; omega)
      by_cases hp : pf M y = 0
      · have HP := Lib.hid hp
        have P1 := Lib.hid (pf_in hp).1
        clear hp
        go_wp2_with fail
        refine (push_yes wr w.heap.size u M y HQ.out HRs.out ML.out HP.out).mono ?_
        rintro e w9 ⟨rfl, u9, Q9, K9⟩
        have B9 : Hid (Below w.heap.size w w9) := Lib.hid (BB.out.trans (K9.below HQ.out (Nat.le_refl _)))
        have HQ9 := Lib.hid Q9
        have HR9 := Lib.hid (put_rs HRs.out (r := y))
        have HI9 : Hid (∀ z, z ∈ put M y → z ∈ l) := Lib.hid (fun z hz => by
          rcases (put_mem P1.out).1 hz with q | q
          · exact HI.out z q
          · rw [q]; exact MX.out)
        have HM9 : Hid (m + 1 = (put M y).length) := Lib.hid (by rw [put_len0 HRs.out P1.out, ← HM.out])
        clear Q9 K9 k1 k2 k3 k4 k5 cl
        go_wp2_with fail
        go_roundw
        case rel => exact ⟨k + 1, m + 1, u9, put M y, by omega, by omega, by omega, by go_num, by go_num, HM9, HQ9, HR9, HI9, B9⟩
        case measure => simp [intOf]; omega
      · have HP := Lib.hid hp
        clear hp
        go_wp2_with fail
        refine (push_no wr w.heap.size u M y HQ.out HRs.out ML.out HP.out).mono ?_
        rintro e w9 ⟨rfl, u9, Q9, K9⟩
        have B9 : Hid (Below w.heap.size w w9) := Lib.hid (BB.out.trans (K9.below HQ.out (Nat.le_refl _)))
        have HQ9 := Lib.hid Q9
        clear Q9 K9 k1 k2 k3 k4 k5 cl
        go_wp2_with fail
        go_roundw
        case rel => exact ⟨k + 1, m, u9, M, by omega, by omega, by omega, rfl, by go_num, HM, HQ9, HRs, HI, B9⟩
        case measure => simp [intOf]; omega
    · obtain ⟨LB, hLB⟩ : ∃ LB, LB = wr.heap.size := ⟨_, rfl⟩
      obtain ⟨W9, hW9⟩ : ∃ W9, W9 = wr.alloc (.cells #[.int .i64 0, .string ⟨#[]⟩, .int .i64 0, .int .i64 0, .int .i64 0] 26) := ⟨_, rfl⟩
      have HW9 : Hid (wr.alloc (.cells #[.int .i64 0, .string ⟨#[]⟩, .int .i64 0, .int .i64 0, .int .i64 0] 26) = W9) := Lib.hid hW9.symm
      have Q9 : Hid (Qs W9 w.heap.size u M) := Lib.hid (by rw [hW9]; exact HQ.out.on (below_alloc _ _))
      have L9 : Hid (Lies W9 LB (encQ zq)) := Lib.hid (by rw [hW9, hLB]; exact heap_alloc_new wr _)
      have N9 : Hid (u.ownBlock ≠ some LB) := Lib.hid (fun e => by have := (HQ.out.own.lt _ e).2; omega)
      have B9 : Hid (Below w.heap.size w W9) := Lib.hid (by rw [hW9]; exact BB.out.alloc BB.out.size _)
      have S9 : Hid (w.heap.size < LB) := Lib.hid (by rw [hLB]; exact HQ.out.lt)
      have m60 : m ≤ 60 := by omega
      clear hW9 HQ BB
      rw [Classical.not_and_iff_not_or_not] at hlt
      go_wp2_with fail
      all_goals
        rw [HW9.out, ← hLB]
        clear hLB HW9
        go_loopw [11] (fun i wq => ∃ (k : Nat) (u : Value) (N : List Rq) (x : Rq), k ≤ m ∧ i = .int .i64 k ∧ Hid (k + N.length = m) ∧ Hid (Qs wq w.heap.size u N) ∧ Hid (Rs N) ∧ Hid (∀ z, z ∈ N → z ∈ l) ∧ Hid (Below w.heap.size w wq) ∧ Hid (Lies wq LB (encQ x)) ∧ Hid (u.ownBlock ≠ some LB) ∧ Hid (0 < k → ∀ z, z ∈ N → oc x z < 0)) (fun i _ => m - (intOf i).toNat)
        case atStart => exact ⟨0, u, M, zq, by omega, rfl, Lib.hid (by rw [← HM.out]; omega), Q9, HRs, HI, B9, L9, N9, Lib.hid (fun h => by omega)⟩
        case round =>
          clear Q9 L9 N9 B9 hlt
          obtain ⟨k, u, N, x, hk, rfl, HN, HQ, HS, HJ, BB, LL, NN, HO⟩ := hrel
          by_cases hkm : k < m
          · obtain ⟨y, N, rfl⟩ : ∃ y N', N = y :: N' := by
              rcases N with _ | ⟨y, N'⟩
              · have := HN.out; simp at this; omega
              · exact ⟨y, N', rfl⟩
            have NL : Hid ((y :: N).length ≤ 1000000) := Lib.hid (by have := HN.out; omega)
            have ybl : Hid (y ∈ l) := Lib.hid (HJ.out y List.mem_cons_self)
            go_wp2_with fail
            refine (pop_yes wr w.heap.size u y N HQ.out NL.out).mono ?_
            rintro e w2 ⟨rfl, u2, Q2, K2⟩
            have B2 : Hid (Below w.heap.size w w2) := Lib.hid (BB.out.trans (K2.below HQ.out (Nat.le_refl _)))
            have L2 : Hid (Lies w2 LB (encQ x)) := Lib.hid (K2.lies LL.out (by have := S9.out; omega) NN.out)
            have N2 : Hid (u2.ownBlock ≠ some LB) := Lib.hid (K2.apart LL.out.lt NN.out)
            have HQ2 := Lib.hid Q2
            clear Q2 K2
            have b2s : w2.heap.size < (w2.alloc (.cells #[.int .i64 y.1, .string y.2.1, .int .i64 y.2.2.1, .int .i64 y.2.2.2.1, .int .i64 y.2.2.2.2] 26)).heap.size := by simp
            have KH : Hid (Calls Tryd.prog 8 #[.slice a l.length cap, agQ y] (w2.alloc (.cells #[.int .i64 y.1, .string y.2.1, .int .i64 y.2.2.1, .int .i64 y.2.2.2.1, .int .i64 y.2.2.2.2] 26)) fun e w4 => e = .returned (.bool true) ∧ Hid (QBx w4 w2.heap.size y) ∧ Hid (Lies w4 LB (encQ x)) ∧ Hid (Qs w4 w.heap.size u2 N) ∧ Hid (Below w.heap.size w w4)) := Lib.hid (by
              have q1 := below_alloc w2 (.cells #[.int .i64 y.1, .string y.2.1, .int .i64 y.2.2.1, .int .i64 y.2.2.2.1, .int .i64 y.2.2.2.2] 26)
              have q2 : Below w.heap.size w (w2.alloc (.cells #[.int .i64 y.1, .string y.2.1, .int .i64 y.2.2.1, .int .i64 y.2.2.2.1, .int .i64 y.2.2.2.2] 26)) := B2.out.alloc B2.out.size _
              refine (has_any l y _ _ (HR.out.on q2) (by have := HLL.out; omega)).mono (fun e w4 ⟨he, hb⟩ => ⟨by rw [he, hasQ_iff.2 ybl.out], Lib.hid ((QBx.new w2 y 26).on hb), Lib.hid ((L2.out.on q1).on hb), Lib.hid ((HQ2.out.on q1).on hb), Lib.hid (q2.trans (hb.mono q2.size))⟩))
            clear b2s
            have O1 : Hid (0 < k → oc x y < 0) := Lib.hid (fun h => HO.out h y List.mem_cons_self)
            have O2 : Hid (∀ z, z ∈ N → oc y z < 0) := Lib.hid (fun z hz => (List.pairwise_cons.1 HS.out).1 z hz)
            have S2 : Hid (Rs N) := Lib.hid (List.pairwise_cons.1 HS.out).2
            have J2 : Hid (∀ z, z ∈ N → z ∈ l) := Lib.hid (fun z hz => HJ.out z (List.mem_cons_of_mem _ hz))
            have M2 : Hid (k + 1 + N.length = m) := Lib.hid (by have := HN.out; simp at this; omega)
            go_wp2_with fail
            refine KH.out.mono ?_
            rintro e w4 ⟨rfl, X4, L4, Q4, B4⟩
            obtain ⟨y1, y2, y3, y4, y5⟩ := X4.out
            have ly := X4.out.lt
            have FIN : Hid (∀ X c, Below w4.heap.size w4 X → Qs (X.setRow LB c) w.heap.size u2 N ∧ Below w.heap.size w (X.setRow LB c)) := Lib.hid (fun X c q => by
              have hq := Q4.out.on q
              refine ⟨hq.setRow (by have := S9.out; omega) N2.out c, ?_⟩
              have h2 := B4.out.trans (q.mono B4.out.size)
              exact ⟨h2.os, h2.tape, h2.output, by simpa [World.setRow] using h2.size, fun j hj => by rw [setRow_other X LB j c (by have := S9.out; omega)]; exact h2.block j hj⟩)
            by_cases hk0 : 0 < k
            · have d0 : decide ((0 : Int) < (k : Int)) = true := decide_eq_true (by omega)
              obtain ⟨x1, x2, x3, x4, x5⟩ := L4.out.box
              have lx := L4.out.lt
              have O3 := Lib.hid (O1.out hk0)
              have KO : Hid (Calls Tryd.prog 9 #[agQ x, agQ y] w4 fun e w' => e = .returned (.int .i64 (oc x y)) ∧ Below w4.heap.size w4 w') := Lib.hid (order_any _ _ _)
              generalize oc x y = C at O3 KO
              have hC := O3.out
              have d1 : decide ((0 : Int) ≤ C) = false := decide_eq_false (by omega)
              go_wp2_with fail
              refine KO.out.mono ?_
              rintro e w5 ⟨rfl, hb5⟩
              have X5 := Lib.hid (X4.out.on hb5)
              have L5 := Lib.hid (L4.out.on hb5)
              have B5 := Lib.hid hb5
              clear x1 x2 x3 x4 x5 y1 y2 y3 y4 y5 lx ly hb5
              obtain ⟨y1, y2, y3, y4, y5⟩ := X5.out
              have ly := X5.out.lt
              go_wp2_with (refine ring_store rfl (.tmp 10) (.tmp 92) rfl LB y rfl rfl (encQ x) rfl L5.out ?_; intro W6 HW6 r6; have R6 := Lib.hid r6; clear r6)
              have E6 : Hid (Qs W6 w.heap.size u2 N ∧ Below w.heap.size w W6 ∧ Lies W6 LB (encQ y)) := Lib.hid (by
                rw [HW6.out]
                obtain ⟨q1, q2⟩ := FIN.out w5 (encQ y).toArray B5.out
                exact ⟨q1, q2, L5.out.set (encQ y)⟩)
              exact ⟨⟨k + 1, u2, N, y, by omega, by go_num, M2, Lib.hid E6.out.1, S2, J2, Lib.hid E6.out.2.1, Lib.hid E6.out.2.2, N2, Lib.hid (fun _ => O2.out)⟩, by simp [intOf]; omega⟩
            · obtain rfl : k = 0 := by omega
              go_wp2_with (refine ring_store rfl (.tmp 10) (.tmp 92) rfl LB y rfl rfl (encQ x) rfl L4.out ?_; intro W6 HW6 r6; have R6 := Lib.hid r6; clear r6)
              have E6 : Hid (Qs W6 w.heap.size u2 N ∧ Below w.heap.size w W6 ∧ Lies W6 LB (encQ y)) := Lib.hid (by
                rw [HW6.out]
                obtain ⟨q1, q2⟩ := FIN.out w4 (encQ y).toArray (Below.refl _ _)
                exact ⟨q1, q2, L4.out.set (encQ y)⟩)
              exact ⟨⟨1, u2, N, y, by omega, by go_num, Lib.hid (by have := M2.out; omega), Lib.hid E6.out.1, S2, J2, Lib.hid E6.out.2.1, Lib.hid E6.out.2.2, N2, Lib.hid (fun _ => O2.out)⟩, by simp [intOf]; omega⟩
          · obtain rfl : N = [] := List.eq_nil_of_length_eq_zero (by have := HN.out; omega)
            go_wp2_with fail
            refine (pop_no wr w.heap.size u HQ.out).mono ?_
            rintro e w2 ⟨rfl, u2, Q2, K2⟩
            have B2 : Hid (Below w.heap.size w w2) := Lib.hid (BB.out.trans (K2.below HQ.out (Nat.le_refl _)))
            have HQ2 := Lib.hid Q2
            clear Q2 K2
            have KE : Hid (∀ o, Calls Tryd.prog 10 #[.iface 49 (.int .i64 5), .int .i64 5] (w2.alloc o) fun e w4 => e = .returned (.bool true) ∧ Hid (Qs w4 w.heap.size u2 []) ∧ Hid (Below w.heap.size w w4)) := Lib.hid (fun o => by
              have q1 := below_alloc w2 o
              have q2 : Below w.heap.size w (w2.alloc o) := B2.out.alloc B2.out.size _
              refine (error_errno 5 5 _ (HG.out.below q2)).mono (fun e w4 ⟨he, hb⟩ => ⟨he, Lib.hid ((HQ2.out.on q1).on hb), Lib.hid (q2.trans (hb.mono q2.size))⟩))
            go_wp2_with fail
            refine (KE.out _).mono ?_
            rintro e w4 ⟨rfl, Q4, B4⟩
            go_wp2_with fail
            refine (len_any w4 w.heap.size u2 [] Q4.out).mono ?_
            rintro e w5 ⟨rfl, hw5⟩
            replace hw5 := hw5.symm
            subst hw5
            go_wp2
            go_ret
            exact ⟨rfl, B4.out⟩
end Go.Proofs.YtkdmdkjkabfiaaaDoor.Qu
