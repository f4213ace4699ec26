/-
  What is proved here: the walk of chimelaw1.SeqHolds: it returns true for every rule, start and n, and turns nothing that was there; the table of months is asked as a premise.
-/
import Derived.Test.YtcillnphabddaacDoorSqHolds1
import Derived.Test.YtcillnphabddaacDoorSmInts
namespace Go.Proofs.YtcillnphabddaacDoor
open Go.RowKit Cal Txt

theorem rn_in (w : World) (b c : Nat) (h1 : w.cell? ⟨b, 0, none⟩ = some (.int .i64 11)) (h2 : w.cell? ⟨c, 0, none⟩ = some (.int .i64 4)) (h3 : w.cell? ⟨c, 1, none⟩ = some (.int .i64 4)) :
    RuleIn w (.agg #[.int .i64 4, .int .i64 1, .int .i64 0, .int .i64 0, .slice (some ⟨b, 0, none⟩) 1 1, .slice none 0 0, .slice (some ⟨c, 0, none⟩) 1 1, .slice none 0 0]) rn := by
  refine ⟨_, _, _, _, rfl, ⟨_, _, rfl, Or.inr ⟨b, 0, rfl, fun i hi => ?_⟩⟩, ⟨none, 0, rfl, Or.inl rfl⟩, ⟨_, _, rfl, Or.inr ⟨c, 0, rfl, fun i hi => ?_⟩⟩, none, 0, rfl, Or.inl rfl⟩
  · obtain rfl : i = 0 := by simp [rn] at hi; omega
    exact h1
  · obtain rfl : i = 0 := by simp [rn] at hi; omega
    exact ⟨h2, h3⟩
set_option maxRecDepth 100000 in
set_option maxHeartbeats 8000000 in
theorem sholds (r : Rl) (v : Value) (s n : Int) (w : World) (hv : RuleIn w v r) (hT : Tab w) :
    Calls Tryd.prog 6 #[v, .int .i64 s, .int .i64 n] w fun e w' => e = .returned (.bool true) ∧ Below w.heap.size w w' := by
  obtain ⟨am, ad, aw, ap, cm, cd, cw, cp, rfl⟩ := hv.form
  obtain ⟨W, hW⟩ : ∃ W, W = ((w.alloc (.cells #[.int .i64 r.freq, .int .i64 r.every, .int .i64 r.count, .int .i64 r.till, .slice am r.months.length cm, .slice ad r.days.length cd, .slice aw r.weeks.length cw, .slice ap r.pick.length cp] 30)).alloc (.cells #[.int .i64 11] 3)).alloc (.cells #[.int .i64 4, .int .i64 4] 43) := ⟨_, rfl⟩
  have hB : Below w.heap.size w W := by rw [hW]; exact (((Below.refl _ _).alloc (Nat.le_refl _) _).alloc (by simp) _).alloc (by simp; omega) _
  have zW : W.heap.size = w.heap.size + 3 := by rw [hW]; simp
  have hR : RlB W w.heap.size r am ad aw ap cm cd cw cp := by
    have h0 := RlB.new w r am ad aw ap cm cd cw cp
    unfold RlB at h0 ⊢
    rw [hW, Below.heap_alloc _ _ _ (by simp; omega), Below.heap_alloc _ _ _ (by simp), h0]
  have hN : RuleIn W (.agg #[.int .i64 4, .int .i64 1, .int .i64 0, .int .i64 0, .slice (some ⟨w.heap.size + 1, 0, none⟩) 1 1, .slice none 0 0, .slice (some ⟨w.heap.size + 2, 0, none⟩) 1 1, .slice none 0 0]) rn :=
    rn_in W (w.heap.size + 1) (w.heap.size + 2) (by
      have q := Boxed.new (w.alloc (.cells #[.int .i64 r.freq, .int .i64 r.every, .int .i64 r.count, .int .i64 r.till, .slice am r.months.length cm, .slice ad r.days.length cd, .slice aw r.weeks.length cw, .slice ap r.pick.length cp] 30)) 3 (.int .i64 11)
      rw [World.size_alloc] at q
      rw [hW]; exact (q.alloc _).cell) (by
      have q := World.alloc_heap_new ((w.alloc (.cells #[.int .i64 r.freq, .int .i64 r.every, .int .i64 r.count, .int .i64 r.till, .slice am r.months.length cm, .slice ad r.days.length cd, .slice aw r.weeks.length cw, .slice ap r.pick.length cp] 30)).alloc (.cells #[.int .i64 11] 3)) (.cells #[.int .i64 4, .int .i64 4] 43)
      rw [World.size_alloc, World.size_alloc] at q
      have q' : W.heap[w.heap.size + 2]? = some (.cells #[.int .i64 4, .int .i64 4] 43) := by rw [hW]; exact q
      simp [World.cell?, q']) (by
      have q := World.alloc_heap_new ((w.alloc (.cells #[.int .i64 r.freq, .int .i64 r.every, .int .i64 r.count, .int .i64 r.till, .slice am r.months.length cm, .slice ad r.days.length cd, .slice aw r.weeks.length cw, .slice ap r.pick.length cp] 30)).alloc (.cells #[.int .i64 11] 3)) (.cells #[.int .i64 4, .int .i64 4] 43)
      rw [World.size_alloc, World.size_alloc] at q
      have q' : W.heap[w.heap.size + 2]? = some (.cells #[.int .i64 4, .int .i64 4] 43) := by rw [hW]; exact q
      simp [World.cell?, q'])
  have EV := Lib.hid (fun X (q : Below w.heap.size w X) => (⟨hv.on q, hT.below q⟩ : RuleIn X (.agg #[.int .i64 r.freq, .int .i64 r.every, .int .i64 r.count, .int .i64 r.till, .slice am r.months.length cm, .slice ad r.days.length cd, .slice aw r.weeks.length cw, .slice ap r.pick.length cp]) r ∧ Tab X))
  have K0 := Lib.hid (first_any rn _ 46340 3 W hN (hT.below hB))
  have HB := Lib.hid hB
  have HR := Lib.hid hR
  clear hv hT hB hR hN
  go_enter Tryd.func6, Tryd.ntmps6
  go_wp2_with fail
  rw [← hW]
  clear hW
  refine K0.out.mono ?_
  rintro e w1 ⟨hb, ⟨k0, _⟩ | ⟨_, v1, rfl, hi1⟩⟩
  · exact absurd (by decide) k0
  rw [show (3 : Int).toNat = 3 from rfl, fact_three] at hi1
  obtain ⟨a1, c1, rfl, hc1⟩ := hi1
  rcases hc1 with hc1 | ⟨b1, o1, rfl, hc1⟩
  · cases hc1
  have y0 := hc1 0 (by decide)
  have y1 := hc1 1 (by decide)
  have y2 := hc1 2 (by decide)
  have B1 := Lib.hid (HB.out.trans (hb.mono HB.out.size))
  have R1 := Lib.hid (show RlB w1 w.heap.size r am ad aw ap cm cd cw cp from (hb.block _ (by omega)).trans HR.out)
  have z1 : w.heap.size + 3 ≤ w1.heap.size := by have := hb.size; omega
  clear hb HB HR hc1 K0
  have KF := Lib.hid (first_any r _ s n w1 (EV.out _ B1.out).1 (EV.out _ B1.out).2)
  obtain ⟨x0, x1, x2, x3, x4, x5, x6, x7⟩ := R1.out.box
  simp only [List.length_cons, List.length_nil, List.getD_cons_succ, List.getD_cons_zero, Nat.add_zero] at y0 y1 y2 ⊢
  go_wp2_with fail
  clear x0 x1 x2 x3 x4 x5 x6 x7 y0 y1 y2
  refine KF.out.mono ?_
  rintro e w2 ⟨hb, hd⟩
  have B2 := Lib.hid (B1.out.trans (hb.mono B1.out.size))
  have R2 := Lib.hid (show RlB w2 w.heap.size r am ad aw ap cm cd cw cp from (hb.block _ (by omega)).trans R1.out)
  have z2 : w.heap.size + 3 ≤ w2.heap.size := by have := hb.size; omega
  clear hb B1 R1 KF
  rcases hd with ⟨k0, rfl⟩ | ⟨k0, v2, rfl, hi2⟩
  · rw [fault_ne k0]
    clear k0
    go_wp2
    go_ret
    exact ⟨rfl, B2.out⟩
  have k1 : sf r s = 0 ∧ 0 ≤ n ∧ n ≤ 200 := by
    unfold ff at k0
    split at k0
    · rename_i q
      split at k0
      · rename_i z; exact ⟨q, z⟩
      · cases k0
    · rename_i q; exact absurd k0 q
  obtain ⟨k1, n1, n2⟩ := k1
  rw [btL_all k1] at hi2
  have KS := Lib.hid k1
  clear k0 k1
  by_cases n60 : n ≤ 60
  case neg =>
    obtain ⟨a2, c2, rfl, _⟩ := hi2
    have t1 : decide (n > 60) = true := decide_eq_true (by omega)
    clear n60
    go_wp2
    go_ret
    exact ⟨rfl, B2.out⟩
  have t60 : decide (n > 60) = false := decide_eq_false (by omega)
  obtain ⟨m, hm⟩ : ∃ m, m = ((DAYS r s).take n.toNat).length := ⟨_, rfl⟩
  have lm : m = min n.toNat (DAYS r s).length := by rw [hm]; exact List.length_take
  have HI := Lib.hid hi2
  obtain ⟨a2, c2, rfl, _⟩ := hi2
  rw [← hm]
  have HM := Lib.hid hm
  have LM := Lib.hid lm
  clear hm lm
  have KC := Lib.hid (count_any r _ s w2 (EV.out _ B2.out).1 (EV.out _ B2.out).2)
  obtain ⟨x0, x1, x2, x3, x4, x5, x6, x7⟩ := R2.out.box
  go_wp2_with fail
  clear x0 x1 x2 x3 x4 x5 x6 x7
  refine KC.out.mono ?_
  rintro e w3 ⟨hb, ⟨q0, _⟩ | ⟨_, rfl⟩⟩
  · exact absurd KS.out q0
  have B3 := Lib.hid (B2.out.trans (hb.mono B2.out.size))
  have R3 := Lib.hid (show RlB w3 w.heap.size r am ad aw ap cm cd cw cp from (hb.block _ (by omega)).trans R2.out)
  have I3 := Lib.hid (HI.out.on hb)
  have z3 : w.heap.size + 3 ≤ w3.heap.size := by have := hb.size; omega
  clear hb B2 R2 KC HI
  rw [btL_all KS.out]
  obtain ⟨mc, hmc⟩ : ∃ mc, min 201 (DAYS r s).length = mc := ⟨_, rfl⟩
  rw [hmc]
  have HMC := Lib.hid hmc
  have lm := LM.out
  have t1 : decide ((m : Int) > n) = false := decide_eq_false (by omega)
  have t2 : m ≤ mc := by omega
  have t2' : ¬ mc < m := by omega
  have T4 : Hid (r.count > 0 → decide ((mc : Int) > r.count) = false) := Lib.hid (fun q => decide_eq_false (by have := DAYS_count KS.out (show r.count ≠ 0 by omega); omega))
  have m60 : m ≤ 60 := by omega
  have QQ : Hid (∀ X, Below w3.heap.size w3 X → RlB X w.heap.size r am ad aw ap cm cd cw cp ∧ Ints X (.slice a2 m c2) ((DAYS r s).take n.toNat) ∧ Below w.heap.size w X) := Lib.hid (fun X q => ⟨(q.block _ (by omega)).trans R3.out, by have z := I3.out.on q; rw [← HM.out] at z; exact z, B3.out.trans (q.mono B3.out.size)⟩)
  have DI : Hid (∀ i, i < m → ((DAYS r s).take n.toNat).getD i 0 = (DAYS r s).getD i 0 ∧ i < (DAYS r s).length) := Lib.hid (fun i hi => ⟨getD_tk (by rw [← HM.out]; exact hi), by omega⟩)
  obtain ⟨x0, x1, x2, x3, x4, x5, x6, x7⟩ := R3.out.box
  clear hmc lm
  rcases hcb : decide (r.count > 0) with _ | _
  all_goals (first | have t4 := T4.out (of_decide_eq_true hcb) | skip)
  all_goals
    go_wp2_with fail
    clear x0 x1 x2 x3 x4 x5 x6 x7 t1 t2 t2' t60
    go_loopw [13] (fun i wr => ∃ k : Nat, k ≤ m ∧ i = .int .i64 k ∧ Below w3.heap.size w3 wr) (fun i _ => m - (intOf i).toNat)
    case atStart => exact ⟨0, Nat.zero_le _, rfl, Below.refl _ _⟩
    case round =>
      obtain ⟨k, hk, rfl, hB⟩ := hrel
      obtain ⟨rb, ib, bb⟩ := QQ.out _ hB
      by_cases hlt : k < m
      · obtain ⟨a', c', e', hc⟩ := id ib
        obtain ⟨rfl, hlen, rfl⟩ : a2 = a' ∧ m = ((DAYS r s).take n.toNat).length ∧ c2 = c' := by simpa using e'
        rcases hc with hc | ⟨b2, o2, rfl, hc⟩
        · have := HM.out; rw [hc] at this; simp at this; omega
        have CC : Hid (∀ X, Below w3.heap.size w3 X → ∀ i, i < m → X.cell? ⟨b2, o2 + i, none⟩ = some (.int .i64 ((DAYS r s).getD i 0))) := Lib.hid (fun X q i hi => by
          obtain ⟨_, iX, _⟩ := QQ.out X q
          obtain ⟨a3, c3, e3, hc3⟩ := iX
          obtain ⟨rfl, _, _⟩ : some (⟨b2, o2, none⟩ : Addr) = a3 ∧ m = ((DAYS r s).take n.toNat).length ∧ c2 = c3 := by simpa using e3
          rcases hc3 with hc3 | ⟨b4, o4, q4, hc3⟩
          · have := HM.out; rw [hc3] at this; simp at this; omega
          · cases q4
            rw [← (DI.out i hi).1]
            exact hc3 i (by rw [← HM.out]; exact hi))
        obtain ⟨x, hx⟩ : ∃ x, x = (DAYS r s).getD k 0 := ⟨_, rfl⟩
        have cx := CC.out _ hB k hlt
        rw [← hx] at cx
        have HX := Lib.hid hx
        have xin := DAYS_in KS.out (show x ∈ DAYS r s by rw [hx]; exact getD_mem (DI.out k hlt).2)
        obtain ⟨_, _, _, q3, _⟩ := rb.box
        have T6 : Hid (r.till > 0 → decide (x > r.till) = false) := Lib.hid (fun q => decide_eq_false (by have := xin.2.2 (by omega); omega))
        have XS : Hid (k = 0 → x = s) := Lib.hid (fun q => by
          rw [hx, q]
          have l0 := (DI.out k hlt).2
          rcases hd : DAYS r s with _ | ⟨u, l⟩
          · rw [hd] at l0; simp at l0
          · exact DAYS_head KS.out hd)
        have KH : Hid (∀ X, Below w3.heap.size w3 X → Calls Tryd.prog 16 #[(.agg #[.int .i64 r.freq, .int .i64 r.every, .int .i64 r.count, .int .i64 r.till, .slice am r.months.length cm, .slice ad r.days.length cd, .slice aw r.weeks.length cw, .slice ap r.pick.length cp]), .int .i64 s, .int .i64 x] X fun e w' => e = .returned (.tuple #[.bool true, .nilIface]) ∧ Below X.heap.size X w') := Lib.hid (fun X q => by
          have bX := (QQ.out X q).2.2
          refine (has_any r _ s x X (EV.out _ bX).1 (EV.out _ bX).2 (Or.inr (by omega))).mono ?_
          rintro e w' ⟨hb, ⟨z, _⟩ | ⟨_, rfl⟩⟩
          · exact absurd KS.out z
          · exact ⟨by rw [decide_eq_true (has_is KS.out (show x ∈ DAYS r s by rw [hx]; exact getD_mem (DI.out k hlt).2))], hb⟩)
        have NX : Hid (k + 1 < m → (btL r s x 109573).find? (fun n => decide (x < n)) = some ((DAYS r s).getD (k + 1) 0)) := Lib.hid (fun q => by rw [hx]; exact next_is KS.out (DI.out (k + 1) q).2)
        have KN : Hid (∀ X, Below w3.heap.size w3 X → Calls Tryd.prog 17 #[(.agg #[.int .i64 r.freq, .int .i64 r.every, .int .i64 r.count, .int .i64 r.till, .slice am r.months.length cm, .slice ad r.days.length cd, .slice aw r.weeks.length cw, .slice ap r.pick.length cp]), .int .i64 s, .int .i64 x] X fun e w' => (∃ vx ve, e = .returned (.tuple #[vx, ve]) ∧ (k + 1 < m → vx = .int .i64 ((DAYS r s).getD (k + 1) 0) ∧ ve = .nilIface)) ∧ Below X.heap.size X w') := Lib.hid (fun X q => by
          have bX := (QQ.out X q).2.2
          refine (next_any r _ s x X (EV.out _ bX).1 (EV.out _ bX).2 (Or.inr (by omega))).mono ?_
          rintro e w' ⟨hb, ⟨z, _⟩ | ⟨_, rfl⟩⟩
          · exact absurd KS.out z
          · refine ⟨?_, hb⟩
            rcases ho : (btL r s x 109573).find? (fun n => decide (x < n)) with _ | y
            · exact ⟨_, _, rfl, fun q => by have := NX.out q; rw [ho] at this; cases this⟩
            · exact ⟨_, _, rfl, fun q => by have := NX.out q; rw [ho] at this; cases this; exact ⟨rfl, rfl⟩⟩)
        have HS : Hid (∀ X, Below w3.heap.size w3 X → X.cell? ⟨w.heap.size, 0, none⟩ = some (.int .i64 r.freq) ∧ X.cell? ⟨w.heap.size, 1, none⟩ = some (.int .i64 r.every) ∧ X.cell? ⟨w.heap.size, 2, none⟩ = some (.int .i64 r.count) ∧ X.cell? ⟨w.heap.size, 3, none⟩ = some (.int .i64 r.till) ∧ X.cell? ⟨w.heap.size, 4, none⟩ = some (.slice am r.months.length cm) ∧ X.cell? ⟨w.heap.size, 5, none⟩ = some (.slice ad r.days.length cd) ∧ X.cell? ⟨w.heap.size, 6, none⟩ = some (.slice aw r.weeks.length cw) ∧ X.cell? ⟨w.heap.size, 7, none⟩ = some (.slice ap r.pick.length cp) ∧ X.cell? ⟨b2, o2 + k, none⟩ = some (.int .i64 x)) := Lib.hid (fun X q => by
          obtain ⟨u0, u1, u2, u3, u4, u5, u6, u7⟩ := (QQ.out X q).1.box
          exact ⟨u0, u1, u2, u3, u4, u5, u6, u7, by rw [hx]; exact CC.out X q k hlt⟩)
        have xb : 1 ≤ x ∧ x ≤ 109573 := by have := (sf_ok KS.out).2.1; omega
        clear e' hc hlen ib hx xin rb bb
        rcases Nat.eq_zero_or_pos k with rfl | hkp
        ·
          have y0 : wr.cell? ⟨b2, o2, none⟩ = some (.int .i64 s) := by have q := cx; rw [XS.out rfl] at q; exact q
          have e0 : True := trivial
          rcases htb : decide (r.till > 0) with _ | _
          all_goals (first | have t6 : decide (s > r.till) = false := (by rw [← XS.out rfl]; exact T6.out (of_decide_eq_true htb)) | skip)
          all_goals
            go_wp2_with fail
            go_big_quiet (fail)
            have hB1 : Below w3.heap.size w3 (wr.drewN nq) := below_drewN hB _
            generalize wr.drewN nq = X1 at hB1 ⊢
            clear q3 y0 e0
            go_wp2_with fail
            go_region_held3 (fun X => X.cell? ⟨w.heap.size, 0, none⟩ = some (.int .i64 r.freq) ∧ X.cell? ⟨w.heap.size, 1, none⟩ = some (.int .i64 r.every) ∧ X.cell? ⟨w.heap.size, 2, none⟩ = some (.int .i64 r.count) ∧ X.cell? ⟨w.heap.size, 3, none⟩ = some (.int .i64 r.till) ∧ X.cell? ⟨w.heap.size, 4, none⟩ = some (.slice am r.months.length cm) ∧ X.cell? ⟨w.heap.size, 5, none⟩ = some (.slice ad r.days.length cd) ∧ X.cell? ⟨w.heap.size, 6, none⟩ = some (.slice aw r.weeks.length cw) ∧ X.cell? ⟨w.heap.size, 7, none⟩ = some (.slice ap r.pick.length cp) ∧ X.cell? ⟨b2, o2, none⟩ = some (.int .i64 x))
              (first | exact HS.out _ (Below.drew hB1) | exact HS.out _ hb2) (first
              | (go_at_call 16; refine (KH.out _ (Below.drew hB1)).mono ?_; rintro e X2 ⟨rfl, hb2'⟩; have hb2 : Below w3.heap.size w3 X2 := Below.trans (Below.drew hB1) (Below.mono hb2' (Below.size (Below.drew hB1))); clear hb2'))
            rename_i hh2
            clear hh2
            go_wp2_with fail
            go_region_held3 (fun X => X.cell? ⟨w.heap.size, 0, none⟩ = some (.int .i64 r.freq) ∧ X.cell? ⟨w.heap.size, 1, none⟩ = some (.int .i64 r.every) ∧ X.cell? ⟨w.heap.size, 2, none⟩ = some (.int .i64 r.count) ∧ X.cell? ⟨w.heap.size, 3, none⟩ = some (.int .i64 r.till) ∧ X.cell? ⟨w.heap.size, 4, none⟩ = some (.slice am r.months.length cm) ∧ X.cell? ⟨w.heap.size, 5, none⟩ = some (.slice ad r.days.length cd) ∧ X.cell? ⟨w.heap.size, 6, none⟩ = some (.slice aw r.weeks.length cw) ∧ X.cell? ⟨w.heap.size, 7, none⟩ = some (.slice ap r.pick.length cp) ∧ X.cell? ⟨b2, o2, none⟩ = some (.int .i64 x))
              (first | exact HS.out _ (Below.drew hb2) | exact HS.out _ hb4) (first
              | (go_at_call 17; refine (KN.out _ (Below.drew hb2)).mono ?_; rintro e X4 ⟨⟨vx, ve, rfl, hvx⟩, hb4'⟩; have HVX := Lib.hid hvx; clear hvx; have hb4 : Below w3.heap.size w3 X4 := Below.trans (Below.drew hb2) (Below.mono hb4' (Below.size (Below.drew hb2))); clear hb4'))
            rename_i hh4
            clear hh4
            by_cases hn : 0 + 1 < m
            · obtain ⟨rfl, rfl⟩ := HVX.out hn
              have cy := CC.out _ hb4 (0 + 1) hn
              obtain ⟨y, hy⟩ : ∃ y, y = (DAYS r s).getD (0 + 1) 0 := ⟨_, rfl⟩
              rw [← hy] at cy ⊢
              clear hy
              go_wp2
              go_roundw
              case rel => exact ⟨0 + 1, by omega, by go_num, hb4⟩
              case measure => simp [intOf]; omega
            · go_wp2
              go_roundw
              case rel => exact ⟨0 + 1, by omega, by go_num, hb4⟩
              case measure => simp [intOf]; omega
        ·
          obtain ⟨j, hj⟩ : ∃ j, k = j + 1 := ⟨k - 1, by omega⟩
          have cj := CC.out _ hB j (by omega)
          obtain ⟨y, hy⟩ : ∃ y, y = (DAYS r s).getD j 0 := ⟨_, rfl⟩
          rw [← hy] at cj
          have lt : decide (y ≥ x) = false := decide_eq_false (by rw [hy, HX.out]; have := rise_lt (DAYS_rise r s) (show j < k by omega) (DI.out k hlt).2; omega)
          have i1 : (0 : Int) ≤ (j : Int) := by omega
          have i2 : (j : Int) < (m : Int) := by omega
          have i3 : (k : Int) < (m : Int) := by omega
          have i4 : ((k : Int) == 0) = false := by simp; omega
          have i5 : decide ((k : Int) > 0) = true := decide_eq_true (by omega)
          have i6 : wrap64 ((k : Int) - 1) = (j : Int) := by unfold wrap64; omega
          have i8 : ((k : Int) != 0) = true := by simp; omega
          have i9 : ¬ (k : Int) = 0 := by omega
          have i10 : ¬ k = 0 := by omega
          have i11 : 0 < k := by omega
          have i7 : (k : Int) - 1 = (j : Int) := by omega
          clear hy hj hkp
          rcases htb : decide (r.till > 0) with _ | _
          all_goals (first | have t6 := T6.out (of_decide_eq_true htb) | skip)
          all_goals
            go_wp2_with fail
            go_big_quiet (fail)
            have hB1 : Below w3.heap.size w3 (wr.drewN nq) := below_drewN hB _
            generalize wr.drewN nq = X1 at hB1 ⊢
            clear q3 cx cj lt i6 i7 i4 i5 i8 i9 i10 i11
            go_wp2_with fail
            go_region_held3 (fun X => X.cell? ⟨w.heap.size, 0, none⟩ = some (.int .i64 r.freq) ∧ X.cell? ⟨w.heap.size, 1, none⟩ = some (.int .i64 r.every) ∧ X.cell? ⟨w.heap.size, 2, none⟩ = some (.int .i64 r.count) ∧ X.cell? ⟨w.heap.size, 3, none⟩ = some (.int .i64 r.till) ∧ X.cell? ⟨w.heap.size, 4, none⟩ = some (.slice am r.months.length cm) ∧ X.cell? ⟨w.heap.size, 5, none⟩ = some (.slice ad r.days.length cd) ∧ X.cell? ⟨w.heap.size, 6, none⟩ = some (.slice aw r.weeks.length cw) ∧ X.cell? ⟨w.heap.size, 7, none⟩ = some (.slice ap r.pick.length cp) ∧ X.cell? ⟨b2, o2 + k, none⟩ = some (.int .i64 x))
              (first | exact HS.out _ (Below.drew hB1) | exact HS.out _ hb2) (first
              | (go_at_call 16; refine (KH.out _ (Below.drew hB1)).mono ?_; rintro e X2 ⟨rfl, hb2'⟩; have hb2 : Below w3.heap.size w3 X2 := Below.trans (Below.drew hB1) (Below.mono hb2' (Below.size (Below.drew hB1))); clear hb2'))
            rename_i hh2
            clear hh2
            go_wp2_with fail
            go_region_held3 (fun X => X.cell? ⟨w.heap.size, 0, none⟩ = some (.int .i64 r.freq) ∧ X.cell? ⟨w.heap.size, 1, none⟩ = some (.int .i64 r.every) ∧ X.cell? ⟨w.heap.size, 2, none⟩ = some (.int .i64 r.count) ∧ X.cell? ⟨w.heap.size, 3, none⟩ = some (.int .i64 r.till) ∧ X.cell? ⟨w.heap.size, 4, none⟩ = some (.slice am r.months.length cm) ∧ X.cell? ⟨w.heap.size, 5, none⟩ = some (.slice ad r.days.length cd) ∧ X.cell? ⟨w.heap.size, 6, none⟩ = some (.slice aw r.weeks.length cw) ∧ X.cell? ⟨w.heap.size, 7, none⟩ = some (.slice ap r.pick.length cp) ∧ X.cell? ⟨b2, o2 + k, none⟩ = some (.int .i64 x))
              (first | exact HS.out _ (Below.drew hb2) | exact HS.out _ hb4) (first
              | (go_at_call 17; refine (KN.out _ (Below.drew hb2)).mono ?_; rintro e X4 ⟨⟨vx, ve, rfl, hvx⟩, hb4'⟩; have HVX := Lib.hid hvx; clear hvx; have hb4 : Below w3.heap.size w3 X4 := Below.trans (Below.drew hb2) (Below.mono hb4' (Below.size (Below.drew hb2))); clear hb4'))
            rename_i hh4
            clear hh4
            by_cases hn : k + 1 < m
            · obtain ⟨rfl, rfl⟩ := HVX.out hn
              have cy := CC.out _ hb4 (k + 1) hn
              obtain ⟨y, hy⟩ : ∃ y, y = (DAYS r s).getD (k + 1) 0 := ⟨_, rfl⟩
              rw [← hy] at cy ⊢
              clear hy
              go_wp2
              go_roundw
              case rel => exact ⟨k + 1, by omega, by go_num, hb4⟩
              case measure => simp [intOf]; omega
            · go_wp2
              go_roundw
              case rel => exact ⟨k + 1, by omega, by go_num, hb4⟩
              case measure => simp [intOf]; omega
      · obtain rfl : k = m := by omega
        rcases hm0 : ((k : Int) == 0) with _ | _
        · have hk0 : (k : Int) ≠ 0 := by simpa using hm0
          obtain ⟨j, hj⟩ : ∃ j, k = j + 1 := ⟨k - 1, by omega⟩
          clear hk0
          obtain ⟨a', c', e', hc⟩ := id ib
          obtain ⟨rfl, hlen, rfl⟩ : a2 = a' ∧ k = ((DAYS r s).take n.toNat).length ∧ c2 = c' := by simpa using e'
          rcases hc with hc | ⟨b2, o2, rfl, hc⟩
          · have := HM.out; rw [hc] at this; simp at this; omega
          obtain ⟨x, hx⟩ : ∃ x, x = (DAYS r s).getD j 0 := ⟨_, rfl⟩
          have CC : Hid (∀ X, Below w3.heap.size w3 X → X.cell? ⟨b2, o2 + j, none⟩ = some (.int .i64 x)) := Lib.hid (fun X q => by
            obtain ⟨_, iX, _⟩ := QQ.out X q
            obtain ⟨a3, c3, e3, hc3⟩ := iX
            obtain ⟨rfl, _, _⟩ : some (⟨b2, o2, none⟩ : Addr) = a3 ∧ k = ((DAYS r s).take n.toNat).length ∧ c2 = c3 := by simpa using e3
            rcases hc3 with hc3 | ⟨b4, o4, q4, hc3⟩
            · have := HM.out; rw [hc3] at this; simp at this; omega
            · cases q4
              rw [hx, ← (DI.out j (by omega)).1]
              exact hc3 j (by rw [← HM.out]; omega))
          have HS : Hid (∀ X, Below w3.heap.size w3 X → X.cell? ⟨w.heap.size, 0, none⟩ = some (.int .i64 r.freq) ∧ X.cell? ⟨w.heap.size, 1, none⟩ = some (.int .i64 r.every) ∧ X.cell? ⟨w.heap.size, 2, none⟩ = some (.int .i64 r.count) ∧ X.cell? ⟨w.heap.size, 3, none⟩ = some (.int .i64 r.till) ∧ X.cell? ⟨w.heap.size, 4, none⟩ = some (.slice am r.months.length cm) ∧ X.cell? ⟨w.heap.size, 5, none⟩ = some (.slice ad r.days.length cd) ∧ X.cell? ⟨w.heap.size, 6, none⟩ = some (.slice aw r.weeks.length cw) ∧ X.cell? ⟨w.heap.size, 7, none⟩ = some (.slice ap r.pick.length cp) ∧ X.cell? ⟨b2, o2 + j, none⟩ = some (.int .i64 x)) := Lib.hid (fun X q => by
            obtain ⟨u0, u1, u2, u3, u4, u5, u6, u7⟩ := (QQ.out X q).1.box
            exact ⟨u0, u1, u2, u3, u4, u5, u6, u7, CC.out X q⟩)
          have TK : (DAYS r s).take (j + 1) = (DAYS r s).take n.toNat := by
            have lm := LM.out
            rcases Nat.lt_or_ge n.toNat (DAYS r s).length with q | q
            · rw [show j + 1 = n.toNat by omega]
            · rw [List.take_of_length_le (show (DAYS r s).length ≤ j + 1 by omega), List.take_of_length_le q]
          have EB : btL r s s x = (DAYS r s).take n.toNat := by rw [hx, upto_is KS.out (DI.out j (by omega)).2, TK]
          have FB : bf r s s x = 0 := by unfold bf; rw [if_pos KS.out, EB, if_neg (by rw [← HM.out]; omega)]
          have xin := DAYS_in KS.out (show x ∈ DAYS r s by rw [hx]; exact getD_mem (DI.out j (by omega)).2)
          have KB : Hid (∀ X, Below w3.heap.size w3 X → Calls Tryd.prog 18 #[(.agg #[.int .i64 r.freq, .int .i64 r.every, .int .i64 r.count, .int .i64 r.till, .slice am r.months.length cm, .slice ad r.days.length cd, .slice aw r.weeks.length cw, .slice ap r.pick.length cp]), .int .i64 s, .int .i64 s, .int .i64 x] X fun e w' => ∃ v, e = .returned (.tuple #[v, .nilIface]) ∧ Ints w' v ((DAYS r s).take n.toNat) ∧ Below X.heap.size X w') := Lib.hid (fun X q => by
            have bX := (QQ.out X q).2.2
            refine (betw_any r _ s s x X (EV.out _ bX).1 (EV.out _ bX).2 (Or.inl (Int.le_refl _))).mono ?_
            rintro e w' ⟨hb, ⟨z, _⟩ | ⟨_, v, rfl, hi⟩⟩
            · exact absurd FB z
            · exact ⟨v, rfl, by rw [← EB]; exact hi, hb⟩)
          have i1 : (0 : Int) ≤ (j : Int) := by omega
          have i2 : (j : Int) < (k : Int) := by omega
          have i3 : (k : Int) - 1 = (j : Int) := by omega
          have i7 : j < k := by omega
          have i8 : IntKind.i64.wrap (j : Int) = (j : Int) := by rw [IntKind.wrap_i64]; omega
          have i9 : wrap64 (j : Int) = (j : Int) := by unfold wrap64; omega
          clear e' hc hlen ib hx rb bb xin EB FB TK hj hlt
          go_wp2_with fail
          go_region_held3 (fun X => X.cell? ⟨w.heap.size, 0, none⟩ = some (.int .i64 r.freq) ∧ X.cell? ⟨w.heap.size, 1, none⟩ = some (.int .i64 r.every) ∧ X.cell? ⟨w.heap.size, 2, none⟩ = some (.int .i64 r.count) ∧ X.cell? ⟨w.heap.size, 3, none⟩ = some (.int .i64 r.till) ∧ X.cell? ⟨w.heap.size, 4, none⟩ = some (.slice am r.months.length cm) ∧ X.cell? ⟨w.heap.size, 5, none⟩ = some (.slice ad r.days.length cd) ∧ X.cell? ⟨w.heap.size, 6, none⟩ = some (.slice aw r.weeks.length cw) ∧ X.cell? ⟨w.heap.size, 7, none⟩ = some (.slice ap r.pick.length cp) ∧ X.cell? ⟨b2, o2 + j, none⟩ = some (.int .i64 x))
            (first | exact HS.out _ (Below.drew hB) | exact HS.out _ hb2) (first
            | (go_at_call 18; refine (KB.out _ (Below.drew hB)).mono ?_; rintro e X2 ⟨vx, rfl, hix, hb2'⟩; have HIX := Lib.hid hix; clear hix; have hb2 : Below w3.heap.size w3 X2 := Below.trans (Below.drew hB) (Below.mono hb2' (Below.size (Below.drew hB))); clear hb2'))
          rename_i hh2
          clear hh2
          clear i1 i2 i3 i7 i8 i9
          have IX := HIX.out
          obtain ⟨ax, cx, hvx, _⟩ := id IX
          rw [← HM.out] at hvx
          subst hvx
          obtain ⟨_, iX, bX⟩ := QQ.out X2 hb2
          have KI := Lib.hid (sameInts _ _ _ X2 IX iX (by rw [← HM.out]; omega))
          clear IX iX HIX KB HS CC
          go_wp2_with fail
          refine KI.out.mono ?_
          rintro e X3 ⟨rfl, hb3⟩
          have B9 := Lib.hid (bX.trans (hb3.mono bX.size))
          clear hb3 bX KI
          go_wp2
          go_ret
          exact ⟨rfl, B9.out⟩
        · have B9 := Lib.hid bb
          clear rb ib bb hlt
          go_wp2
          go_ret
          exact ⟨rfl, B9.out⟩
end Go.Proofs.YtcillnphabddaacDoor
