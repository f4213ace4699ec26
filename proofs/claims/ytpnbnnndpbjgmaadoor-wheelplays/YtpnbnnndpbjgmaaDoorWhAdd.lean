/-
  What is proved here: what package wheel's Add answers, and what it keeps (a contract over the translation).
-/
import Derived.Test.YtpnbnnndpbjgmaaDoorWhInv
import Derived.Deep.RegionHeld3
namespace Go.Proofs.YtpnbnnndpbjgmaaDoor.Qu
open Go.RowKit

theorem wm_many {w : World} {b : Nat} {now many : Int} {S : Nat → Value} {R : Nat → List Rq} (h : Wm w b now many S R) (m : Int) : Wm (w.setCell ⟨b, 1, none⟩ (.int .i64 m)) b now m S R ∧ Kf (Ft b S) (Ft b S) w (w.setCell ⟨b, 1, none⟩ (.int .i64 m)) := by
  refine ⟨⟨?_, fun k hk => ownsRow_setCell_below (h.own k hk) (by show b < b + 1; omega) _, h.apart⟩, ⟨rfl, rfl, rfl, by simp [World.setCell], fun k _ hF => Below.heap_setCell w _ _ k (fun e => hF (Or.inl e)), fun k q => Or.inl q⟩⟩
  have := h.box.set 1 (.int .i64 m)
  rw [hf_many] at this
  exact this
theorem wm_now {w : World} {b : Nat} {now many : Int} {S : Nat → Value} {R : Nat → List Rq} (h : Wm w b now many S R) (m : Int) : Wm (w.setCell ⟨b, 0, none⟩ (.int .i64 m)) b m many S R ∧ Kf (Ft b S) (Ft b S) w (w.setCell ⟨b, 0, none⟩ (.int .i64 m)) := by
  refine ⟨⟨?_, fun k hk => ownsRow_setCell_below (h.own k hk) (by show b < b + 1; omega) _, h.apart⟩, ⟨rfl, rfl, rfl, by simp [World.setCell], fun k _ hF => Below.heap_setCell w _ _ k (fun e => hF (Or.inl e)), fun k q => Or.inl q⟩⟩
  have := h.box.set 0 (.int .i64 m)
  rw [hf_now] at this
  exact this
theorem put_len1 {M : List Rq} {r : Rq} (h : Rs M) (hr : r ∉ M) : (put M r).length = M.length + 1 := by
  have h1 := nd_len (P := put M r) (M := r :: M) (rs_nd (put_rs h)) (fun z hz => by
    rcases (put_mem hr).1 hz with q | q
    · exact List.mem_cons_of_mem _ q
    · rw [q]; exact List.mem_cons_self)
  have h2 := nd_len (P := r :: M) (M := put M r) (List.nodup_cons.2 ⟨hr, rs_nd h⟩) (fun z hz => by
    rcases List.mem_cons.1 hz with q | q
    · rw [q]; exact (put_mem hr).2 (Or.inr rfl)
    · exact (put_mem hr).2 (Or.inl q))
  simp only [List.length_cons] at h1 h2
  omega
/-- What Add tells. -/
def waf (now : Int) (M : List Rq) (r : Rq) : Int := if ist r.1 = false then 1 else if r.1 ≤ now then 6 else if hasQ M r = true then 7 else if 400 ≤ M.length then 4 else 0
/-- What there is behind an Add. -/
def wad (now : Int) (M : List Rq) (r : Rq) : List Rq := if waf now M r = 0 then put M r else M
/-- What a change of a wheel's rings leaves. -/
def WaA (b : Nat) (S : Nat → Value) (now : Int) (w : World) (f : Int) (N : List Rq) (e : Ending) (w' : World) : Prop := e = .returned (fault f) ∧ ∃ S', Wl w' b S' now N ∧ Kf (Ft b S) (Ft b S') w w'
theorem ist_in {t : Int} (h : ist t = true) : 1 ≤ t ∧ t ≤ 157785119 := of_decide_eq_true h
set_option maxHeartbeats 4000000 in
set_option maxRecDepth 100000 in
theorem wadd_any (w : World) (b : Nat) (S : Nat → Value) (now : Int) (M : List Rq) (r : Rq) (h : Wl w b S now M) :
    Calls Tryd.prog 9 #[.pointer (some ⟨b, 0, none⟩), agQ r] w (WaA b S now w (waf now M r) (wad now M r)) := by
  obtain ⟨R, hm, hi⟩ := h
  obtain ⟨W0, hW0⟩ : ∃ W0, W0 = w.alloc (.cells #[.int .i64 r.1, .string r.2.1, .int .i64 r.2.2.1, .int .i64 r.2.2.2.1, .int .i64 r.2.2.2.2] 34) := ⟨_, rfl⟩
  have b0 : Below w.heap.size w W0 := by rw [hW0]; exact (Below.refl _ _).alloc (Nat.le_refl _) _
  have BT : Hid (∀ X, Below W0.heap.size W0 X → Below w.heap.size w X) := Lib.hid (fun X q => b0.trans (q.mono b0.size))
  have HW := Lib.hid hW0
  have x0 : QBx W0 w.heap.size r := by rw [hW0]; exact QBx.new w r _
  have m0 := hm.onB b0
  have HX : Hid (∀ X, Below W0.heap.size W0 X → QBx X w.heap.size r ∧ b < X.heap.size ∧ X.cell? ⟨b, 0, none⟩ = some (.int .i64 now) ∧ X.cell? ⟨b, 1, none⟩ = some (.int .i64 (M.length : Int))) := Lib.hid (fun X q => ⟨x0.on q, (m0.onB q).box.lt, (m0.onB q).box.cnow, (m0.onB q).box.cmany⟩)
  obtain ⟨⟨r1, r2, r3, r4, r5⟩, bl0, cn0, cm0⟩ := HX.out W0 (Below.refl _ _)
  have bl : w.heap.size < W0.heap.size := cell_in r1
  have KT : Hid (∀ X, Calls Tryd.prog 17 #[.int .i64 r.1] X fun e w' => e = .returned (.bool (ist r.1)) ∧ w' = X) := Lib.hid (fun X => isTime_any _ X)
  have SAME : Hid (∀ k, waf now M r = k → ¬ k = 0 → ∀ X, Below w.heap.size w X → WaA b S now w k (wad now M r) (.returned (fault k)) X) := Lib.hid (fun k hk h0 X q => ⟨rfl, S, ⟨R, by
    unfold wad
    rw [if_neg (by rw [hk]; exact h0)]
    exact ⟨hm.onB q, hi⟩⟩, Kf.of_below q⟩)
  rcases hT : ist r.1 with _ | _
  · have e1 : waf now M r = 1 := by unfold waf; rw [if_pos hT]
    have N1 := Lib.hid (SAME.out 1 e1 (by decide) W0 b0)
    rw [e1]
    rw [hT] at KT
    generalize WaA b S now w 1 (wad now M r) = PP at N1 ⊢
    clear hm hi hW0 b0 hT e1 SAME HX m0 x0 cn0 cm0
    go_enter Tryd.func9, Tryd.ntmps9
    go_upto_region 1 with fail
    rw [← HW.out]
    go_wp2_with (go_at_call 17; refine (KT.out _).mono ?_; rintro e w2 ⟨rfl, hw⟩; replace hw := hw.symm; subst hw)
    exact N1.out
  obtain ⟨t1, t2⟩ := ist_in hT
  rw [hT] at KT
  by_cases hN : r.1 ≤ now
  · have e1 : waf now M r = 6 := by unfold waf; rw [if_neg (by rw [hT]; decide), if_pos hN]
    have N1 := Lib.hid (SAME.out 6 e1 (by decide))
    have d1 : decide (r.1 ≤ now) = true := decide_eq_true hN
    rw [e1]
    generalize WaA b S now w 6 (wad now M r) = PP at N1 ⊢
    clear hm hi hW0 hT e1 SAME HX m0 x0 cm0
    go_enter Tryd.func9, Tryd.ntmps9
    go_upto_region 1 with fail
    rw [← HW.out]
    go_upto_region 3 with (go_at_call 17; refine (KT.out _).mono ?_; rintro e w2 ⟨rfl, hw⟩; replace hw := hw.symm; subst hw)
    go_quiet (fail)
    have N2 := Lib.hid (N1.out (W0.drewN nq) (below_drewN b0 _))
    clear N1 b0
    go_wp2
    exact N2.out
  have KS : Hid (∀ X, Below W0.heap.size W0 X → Calls Tryd.prog 20 #[.pointer (some ⟨b, 0, none⟩), .int .i64 r.1] X (SpA now r.1 X)) := Lib.hid (fun X q => spot_any X b now _ S r.1 (m0.onB q).box hi.n1 hi.n2 t1 t2)
  have d1 : decide (r.1 ≤ now) = false := decide_eq_false hN
  have KC : Hid (∀ l s : Nat, Sp now.toNat r.1.toNat l s → l < 5 → s < 64 → ∀ X, Below W0.heap.size W0 X → X.cell? ⟨b, 2 + l * 64 + s, none⟩ = some (S (l * 64 + s)) ∧ Calls Tryd.prog 21 #[S (l * 64 + s), agQ r] X fun e w' => e = .returned (.bool (hasQ M r)) ∧ Below X.heap.size X w') := Lib.hid (fun l s hs hl5 hs6 X q => by
    have hk : l * 64 + s < 320 := by omega
    have mX := m0.onB q
    refine ⟨by have := mX.box.cslot hk; rwa [← Nat.add_assoc] at this, ?_⟩
    refine (contains_any (R (l * 64 + s)) r _ X (mX.own _ hk).rd (hi.row hk)).mono (fun e w' ⟨he, hb⟩ => ⟨by rw [he, hi.has hk hs], hb⟩))
  have KL : Hid (hasQ M r = false → M.length < 400 → waf now M r = 0 → ∀ X, Below W0.heap.size W0 X → Calls Tryd.prog 22 #[.pointer (some ⟨b, 0, none⟩), agQ r] X fun e w4 => e = .returned (.tuple #[]) ∧ b < w4.heap.size ∧ w4.cell? ⟨b, 1, none⟩ = some (.int .i64 (M.length : Int)) ∧ w4.frozen? ⟨b, 1, none⟩ = false ∧ Hid (WaA b S now w 0 (wad now M r) (.returned (fault 0)) (w4.setCell ⟨b, 1, none⟩ (.int .i64 ((M.length : Int) + 1))))) := Lib.hid (fun hB hF hW X q => by
    refine (lay_any X b now _ S R r (m0.onB q) hi.n1 hi.n2 t1 t2 (fun k hk => hi.row hk)).mono (fun e w4 ⟨he, l, s, v', hs, hl5, hs6, m4, f4⟩ => ?_)
    have hr := hasQ_not.1 hB
    obtain ⟨m5, f5⟩ := wm_many m4 ((M.length : Int) + 1)
    have wl : Wl (w4.setCell ⟨b, 1, none⟩ (.int .i64 ((M.length : Int) + 1))) b (upd S (l * 64 + s) v') now (put M r) := ⟨upd R (l * 64 + s) (R (l * 64 + s) ++ [r]), by
      rw [put_len1 hi.rs hr]
      exact m5, hi.add (by omega) hs (by omega) t2 hr hF⟩
    refine ⟨he, m4.box.lt, m4.box.cmany, m4.box.frozen _, Lib.hid ⟨rfl, _, ?_, ((Kf.of_below (b0.trans (q.mono b0.size))).trans f4).trans f5⟩⟩
    unfold wad
    rw [if_pos hW]
    exact wl)
  have W7 : Hid (hasQ M r = true → waf now M r = 7) := Lib.hid (fun hB => by unfold waf; rw [if_neg (by rw [hT]; decide), if_neg hN, if_pos hB])
  have W4 : Hid (hasQ M r = false → 400 ≤ M.length → waf now M r = 4) := Lib.hid (fun hB hF => by unfold waf; rw [if_neg (by rw [hT]; decide), if_neg hN, if_neg (by rw [hB]; decide), if_pos hF])
  have W0_ : Hid (hasQ M r = false → M.length < 400 → waf now M r = 0) := Lib.hid (fun hB hF => by unfold waf; rw [if_neg (by rw [hT]; decide), if_neg hN, if_neg (by rw [hB]; decide), if_neg (by omega)])
  have HM : Hid (∀ X, Below W0.heap.size W0 X → b < X.heap.size ∧ X.cell? ⟨b, 1, none⟩ = some (.int .i64 (M.length : Int)) ∧ QBx X w.heap.size r) := Lib.hid (fun X q => ⟨(HX.out X q).2.1, (HX.out X q).2.2.2, (HX.out X q).1⟩)
  generalize hasQ M r = C at KC KL W7 W4 W0_
  generalize waf now M r = FA at KL W7 W4 W0_ SAME ⊢
  generalize WaA b S now w = PP at KL SAME ⊢
  generalize wad now M r = MM at KL SAME ⊢
  clear hm hi hW0 hT HX m0 x0 cm0 b0 t1 t2
  generalize hn : M.length = n at *
  clear hn
  go_enter Tryd.func9, Tryd.ntmps9
  go_upto_region 1 with fail
  rw [← HW.out]
  go_upto_region 3 with (go_at_call 17; refine (KT.out _).mono ?_; rintro e w2 ⟨rfl, hw⟩; replace hw := hw.symm; subst hw)
  go_quiet (fail)
  have B1 : Hid (Below W0.heap.size W0 (W0.drewN nq)) := Lib.hid (below_drewN (Below.refl _ _) _)
  generalize W0.drewN nq = W1 at B1 ⊢
  obtain ⟨blb1, _, y1, y2, y3, y4, y5⟩ := HM.out W1 B1.out
  have bl1 : w.heap.size < W1.heap.size := cell_in y1
  clear r1 r2 r3 r4 r5 bl0 cn0 bl KT HW
  go_upto_region 6 with (go_at_call 20; refine (KS.out _ B1.out).mono ?_; rintro e w3 ⟨l, s, hs, hl5, hs6, rfl, hb⟩)
  have B3 : Hid (Below W0.heap.size W0 w3) := Lib.hid (B1.out.trans (hb.mono B1.out.size))
  have KC2 := Lib.hid (KC.out l s hs.out hl5 hs6)
  clear y1 y2 y3 y4 y5 blb1 bl1 hb B1 KC KS hs
  generalize S (l * 64 + s) = sv at KC2
  have HS : Hid (∀ X, Below w3.heap.size w3 X → (fun X => X.cell? ⟨b, 2 + l * 64 + s, none⟩ = some sv ∧ X.cell? ⟨w.heap.size, 0, none⟩ = some (.int .i64 r.1) ∧ X.cell? ⟨w.heap.size, 1, none⟩ = some (.string r.2.1) ∧ X.cell? ⟨w.heap.size, 2, none⟩ = some (.int .i64 r.2.2.1) ∧ X.cell? ⟨w.heap.size, 3, none⟩ = some (.int .i64 r.2.2.2.1) ∧ X.cell? ⟨w.heap.size, 4, none⟩ = some (.int .i64 r.2.2.2.2)) X) := Lib.hid (fun X q => by
    have q2 : Below W0.heap.size W0 X := B3.out.trans (q.mono B3.out.size)
    exact ⟨(KC2.out X q2).1, (HM.out X q2).2.2⟩)
  have KC3 : Hid (∀ X, Below w3.heap.size w3 X → Calls Tryd.prog 21 #[sv, agQ r] X fun e w' => e = .returned (.bool C) ∧ Below w3.heap.size w3 w') := Lib.hid (fun X q => (KC2.out X (B3.out.trans (q.mono B3.out.size))).2.mono (fun e w' ⟨h1, h2⟩ => ⟨h1, q.trans (h2.mono q.size)⟩))
  obtain ⟨c0, x1, x2, x3, x4, x5⟩ := HS.out w3 (Below.refl _ _)
  have bl0 : b < w3.heap.size := cell_in c0
  have bl1 : w.heap.size < w3.heap.size := cell_in x1
  have hl5i : (l : Int) < 5 := by omega
  have hs6i : (s : Int) < 64 := by omega
  go_region_held3 (fun X => X.cell? ⟨b, 2 + l * 64 + s, none⟩ = some sv ∧ X.cell? ⟨w.heap.size, 0, none⟩ = some (.int .i64 r.1) ∧ X.cell? ⟨w.heap.size, 1, none⟩ = some (.string r.2.1) ∧ X.cell? ⟨w.heap.size, 2, none⟩ = some (.int .i64 r.2.2.1) ∧ X.cell? ⟨w.heap.size, 3, none⟩ = some (.int .i64 r.2.2.2.1) ∧ X.cell? ⟨w.heap.size, 4, none⟩ = some (.int .i64 r.2.2.2.2))
    (first | exact HS.out _ (Below.drew (Below.refl _ w3)) | exact HS.out _ hb6)
    (first | (go_at_call 21; refine (KC3.out _ (Below.drew (Below.refl _ w3))).mono ?_; rintro e w4 ⟨rfl, hb6⟩))
  have B4 : Hid (Below W0.heap.size W0 w4) := Lib.hid (B3.out.trans (hb6.mono B3.out.size))
  obtain ⟨blb4, cm4, z1, z2, z3, z4, z5⟩ := HM.out w4 B4.out
  have bl4 : w.heap.size < w4.heap.size := cell_in z1
  have BW := Lib.hid (BT.out w4 B4.out)
  clear c0 x1 x2 x3 x4 x5 bl0 bl1 HS KC3 KC2 hb6 hl5i hs6i hl5 hs6
  rcases C with _ | _
  · by_cases hF : 400 ≤ n
    · have F1 := W4.out rfl hF
      have N1 : Hid (PP FA MM (.returned (fault 4)) w4) := Lib.hid (by have := SAME.out 4 F1 (by decide) w4 BW.out; rw [F1]; exact this)
      have hF2 : (400 : Int) ≤ (n : Int) := by omega
      clear F1
      go_wp2
      exact N1.out
    · have F1 := W0_.out rfl (by omega)
      have K4 := Lib.hid (KL.out rfl (by omega) F1 w4 B4.out)
      have HF := Lib.hid F1
      have hF2 : ¬ (400 : Int) ≤ (n : Int) := by omega
      have hF3 : n < 400 := by omega
      clear F1 hF
      go_wp2_with (go_at_call 22; refine K4.out.mono ?_; rintro e w5 ⟨rfl, bl5, cm5, fr5, FI⟩)
      have F2 := FI.out
      rw [HF.out]
      exact F2
  · have F1 := W7.out rfl
    have N1 : Hid (PP FA MM (.returned (fault 7)) w4) := Lib.hid (by have := SAME.out 7 F1 (by decide) w4 BW.out; rw [F1]; exact this)
    clear F1
    go_wp2
    exact N1.out
end Go.Proofs.YtpnbnnndpbjgmaaDoor.Qu
