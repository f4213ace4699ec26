/-
  What is proved here: what package wheel's Drop answers, and what it keeps (a contract over the translation).
-/
import Derived.Test.YtpnbnnndpbjgmaaDoorWhAdd
import Derived.Test.YtpnbnnndpbjgmaaDoorQuDel
namespace Go.Proofs.YtpnbnnndpbjgmaaDoor.Qu
open Go.RowKit

/-- What Delete and the store behind it leave. -/
theorem drop_step {w X : World} {b l s p : Nat} {S : Nat → Value} {R : Nat → List Rq} {now : Int} {M : List Rq} {r : Rq} (hm : Wm X b now M.length S R) (hi : Iv now R M) (q : Below w.heap.size w X) (hl5 : l < 5) (hs6 : s < 64) (hp : p < (R (l * 64 + s)).length) (he : (R (l * 64 + s)).getD p zq = r) :
    Calls Tryd.prog 24 #[S (l * 64 + s), .int .i64 p, .int .i64 ((p : Int) + 1)] X fun e w3 => ∃ a n c, e = .returned (.slice a n c) ∧ w3.cell? ⟨b, 2 + l * 64 + s, none⟩ = some (S (l * 64 + s)) ∧ w3.frozen? ⟨b, 2 + l * 64 + s, none⟩ = false ∧ b < w3.heap.size ∧ Hid (∃ W4, W4 = w3.setCell ⟨b, 2 + l * 64 + s, none⟩ (.slice a n c) ∧ b < W4.heap.size ∧ W4.cell? ⟨b, 1, none⟩ = some (.int .i64 (M.length : Int)) ∧ W4.frozen? ⟨b, 1, none⟩ = false ∧ WaA b S now w 0 (drp M r) (.returned (fault 0)) (W4.setCell ⟨b, 1, none⟩ (.int .i64 ((M.length : Int) - 1)))) := by
  have hk : l * 64 + s < 320 := by omega
  have hr : r ∈ M := (hi.mem r).2 ⟨_, hk, by rw [← he]; exact getD_mem hp⟩
  have hp1 : (0 : Nat) < M.length := List.length_pos_of_mem hr
  refine (delete_any (R (l * 64 + s)) p (b + 1) _ X (hm.own _ hk) hp).mono (fun e w3 ⟨v', e1, o3, p3, g3⟩ => ?_)
  obtain ⟨a, c, rfl, _⟩ := o3.rd
  have hb2 : some b ≠ (S (l * 64 + s)).ownBlock := fun e => by have := ((hm.own _ hk).lt b e.symm).1; omega
  have box3 : Wb w3 b now M.length S := hm.box.on (g3.block b hm.box.lt hb2)
  have cs3 := box3.cslot hk
  obtain ⟨m4, f4⟩ := wm_store hm hk g3 o3 (fun g hg => Or.inl (p3.symm.trans hg))
  rw [← Nat.add_assoc] at cs3 m4 f4
  obtain ⟨m5, f5⟩ := wm_many m4 ((M.length : Int) - 1)
  refine ⟨a, _, c, e1, cs3, box3.frozen _, box3.lt, Lib.hid ⟨_, rfl, m4.box.lt, m4.box.cmany, m4.box.frozen _, rfl, _, ⟨_, ?_, hi.drop hk hp he⟩, ((Kf.of_below q).trans f4).trans f5⟩⟩
  have el : ((M.length : Int) - 1) = ((drp M r).length : Int) := by
    rw [hi.drop_len hr]
    omega
  rw [← el]
  exact m5
set_option maxHeartbeats 4000000 in
set_option maxRecDepth 100000 in
theorem wdrop_any (w : World) (b : Nat) (S : Nat → Value) (now : Int) (M : List Rq) (r : Rq) (h : Wl w b S now M) :
    Calls Tryd.prog 11 #[.pointer (some ⟨b, 0, none⟩), agQ r] w (WaA b S now w (df M r) (drp M r)) := by
  obtain ⟨R, hm, hi⟩ := h
  obtain ⟨W0, hW0⟩ : ∃ W0, W0 = w.alloc (.cells #[.int .i64 r.1, .string r.2.1, .int .i64 r.2.2.1, .int .i64 r.2.2.2.1, .int .i64 r.2.2.2.2] 34) := ⟨_, rfl⟩
  have b0 : Below w.heap.size w W0 := by rw [hW0]; exact (Below.refl _ _).alloc (Nat.le_refl _) _
  have BT : Hid (∀ X, Below W0.heap.size W0 X → Below w.heap.size w X) := Lib.hid (fun X q => b0.trans (q.mono b0.size))
  have HW := Lib.hid hW0
  have x0 : QBx W0 w.heap.size r := by rw [hW0]; exact QBx.new w r _
  have m0 := hm.onB b0
  have KT : Hid (∀ X, Calls Tryd.prog 17 #[.int .i64 r.1] X fun e w' => e = .returned (.bool (ist r.1)) ∧ w' = X) := Lib.hid (fun X => isTime_any _ X)
  have SAME : Hid (r ∉ M → ∀ X, Below w.heap.size w X → WaA b S now w (df M r) (drp M r) (.returned (fault 5)) X) := Lib.hid (fun hr X q => by
    have e5 : df M r = 5 := by unfold df; rw [if_neg (by rw [hasQ_not.2 hr]; decide)]
    rw [e5, drp_none hi.rs hr]
    exact ⟨rfl, S, ⟨R, hm.onB q, hi⟩, Kf.of_below q⟩)
  have HX : Hid (∀ X, Below W0.heap.size W0 X → QBx X w.heap.size r ∧ b < X.heap.size) := Lib.hid (fun X q => ⟨x0.on q, (m0.onB q).box.lt⟩)
  obtain ⟨r1, r2, r3, r4, r5⟩ := x0
  have bl : w.heap.size < W0.heap.size := cell_in r1
  rcases hT : ist r.1 with _ | _
  · have hr : r ∉ M := fun q => by
      have a := hi.in_ q
      have n1 := hi.n1
      have : ¬ (1 ≤ r.1 ∧ r.1 ≤ 157785119) := of_decide_eq_false hT
      omega
    have N1 := Lib.hid (SAME.out hr W0 b0)
    rw [hT] at KT
    generalize WaA b S now w (df M r) (drp M r) = PP at N1 ⊢
    clear hm hi hW0 b0 hT SAME HX m0 hr
    go_enter Tryd.func11, Tryd.ntmps11
    go_upto_region 1 with fail
    rw [← HW.out]
    go_wp2_with (go_at_call 17; refine (KT.out _).mono ?_; rintro e w2 ⟨rfl, hw⟩; replace hw := hw.symm; subst hw)
    exact N1.out
  obtain ⟨t1, t2⟩ := ist_in hT
  rw [hT] at KT
  have KS : Hid (Calls Tryd.prog 20 #[.pointer (some ⟨b, 0, none⟩), .int .i64 r.1] W0 (SpA now r.1 W0)) := Lib.hid (spot_any W0 b now _ S r.1 m0.box hi.n1 hi.n2 t1 t2)
  have KC : Hid (∀ l s : Nat, Sp now.toNat r.1.toNat l s → l < 5 → s < 64 → ∀ X, Below W0.heap.size W0 X → X.cell? ⟨b, 2 + l * 64 + s, none⟩ = some (S (l * 64 + s)) ∧ Calls Tryd.prog 23 #[S (l * 64 + s), agQ r] X fun e w' => ∃ p : Int, e = .returned (.int .i64 p) ∧ ((p = -1 ∧ r ∉ M) ∨ ∃ k : Nat, p = k ∧ k < 1000000 ∧ Hid (k < (R (l * 64 + s)).length ∧ (R (l * 64 + s)).getD k zq = r)) ∧ Below X.heap.size X w') := Lib.hid (fun l s hs hl5 hs6 X q => by
    have hk : l * 64 + s < 320 := by omega
    have mX := m0.onB q
    refine ⟨by have := mX.box.cslot hk; rwa [← Nat.add_assoc] at this, ?_⟩
    refine (index_any (R (l * 64 + s)) r _ X (mX.own _ hk).rd (hi.row hk)).mono (fun e w' ⟨p, he, hp, hb⟩ => ⟨p, he, ?_, hb⟩)
    rcases hp with ⟨rfl, h2⟩ | ⟨k, rfl, h2, h3, _⟩
    · rw [hi.has hk hs] at h2
      exact Or.inl ⟨rfl, hasQ_not.1 h2⟩
    · exact Or.inr ⟨k, rfl, by have := hi.row hk; omega, Lib.hid ⟨h2, h3⟩⟩)
  have KD : Hid (∀ l s p : Nat, l < 5 → s < 64 → p < (R (l * 64 + s)).length → (R (l * 64 + s)).getD p zq = r → ∀ X, Below W0.heap.size W0 X → Calls Tryd.prog 24 #[S (l * 64 + s), .int .i64 p, .int .i64 ((p : Int) + 1)] X fun e w3 => ∃ a n c, e = .returned (.slice a n c) ∧ w3.cell? ⟨b, 2 + l * 64 + s, none⟩ = some (S (l * 64 + s)) ∧ w3.frozen? ⟨b, 2 + l * 64 + s, none⟩ = false ∧ b < w3.heap.size ∧ Hid (∃ W4, W4 = w3.setCell ⟨b, 2 + l * 64 + s, none⟩ (.slice a n c) ∧ b < W4.heap.size ∧ W4.cell? ⟨b, 1, none⟩ = some (.int .i64 (M.length : Int)) ∧ W4.frozen? ⟨b, 1, none⟩ = false ∧ WaA b S now w (df M r) (drp M r) (.returned (fault 0)) (W4.setCell ⟨b, 1, none⟩ (.int .i64 ((M.length : Int) - 1))))) := Lib.hid (fun l s p hl5 hs6 hp he X q => by
    have e0 : df M r = 0 := by
      unfold df
      rw [if_pos (hasQ_iff.2 ((hi.mem r).2 ⟨_, (by omega : l * 64 + s < 320), by rw [← he]; exact getD_mem hp⟩))]
    rw [e0]
    exact drop_step (m0.onB q) hi (b0.trans (q.mono b0.size)) hl5 hs6 hp he)
  have M4 : M.length ≤ 400 := hi.len
  generalize WaA b S now w (df M r) (drp M r) = PP at SAME KD ⊢
  clear hm hi hW0 hT m0 b0 t1 t2
  generalize M.length = n at *
  go_enter Tryd.func11, Tryd.ntmps11
  go_upto_region 1 with fail
  rw [← HW.out]
  go_upto_region 4 with (first
    | (go_at_call 17; refine (KT.out _).mono ?_; rintro e w2 ⟨rfl, hw⟩; replace hw := hw.symm; subst hw)
    | (go_at_call 20; refine KS.out.mono ?_; rintro e w3 ⟨l, s, hs, hl5, hs6, rfl, hb3⟩))
  have B3 := Lib.hid hb3
  obtain ⟨c3, KI⟩ := KC.out l s hs.out hl5 hs6 w3 hb3
  have K3 := Lib.hid KI
  obtain ⟨⟨y1, y2, y3, y4, y5⟩, blb⟩ := HX.out w3 hb3
  have bl3 : w.heap.size < w3.heap.size := cell_in y1
  have KD2 := Lib.hid (fun p => KD.out l s p hl5 hs6)
  have hl5i : (l : Int) < 5 := by omega
  have hs6i : (s : Int) < 64 := by omega
  clear KI KC KS KT KD r1 r2 r3 r4 r5 bl hb3 HW hs
  generalize S (l * 64 + s) = sv at *
  go_upto_region 6 with (go_at_call 23; refine K3.out.mono ?_; rintro e w4 ⟨p, rfl, hp, hb4⟩)
  have B4 : Hid (Below W0.heap.size W0 w4) := Lib.hid (B3.out.trans (hb4.mono B3.out.size))
  clear y1 y2 y3 y4 y5 bl3 c3 K3 B3 blb hb4
  rcases hp with ⟨rfl, hr⟩ | ⟨k, rfl, hk6, HK⟩
  · have N1 := Lib.hid (SAME.out hr w4 (BT.out w4 B4.out))
    clear hr
    go_wp2
    exact N1.out
  · have K5 := Lib.hid (KD2.out k HK.out.1 HK.out.2)
    have blb4 := (HX.out w4 B4.out).2
    have q0 : IntKind.i64.wrap ((k : Int) + 1) = (k : Int) + 1 := by rw [IntKind.wrap_i64]; omega
    go_upto_region 8 with fail
    have K6 := Lib.hid (K5.out w4.drew (Below.drew B4.out))
    clear K5
    go_region_with (first | (go_at_call 24; refine K6.out.mono ?_; rintro e w5 ⟨a, m, cp, rfl, c5, f5, bl5, FI⟩))
    all_goals
      obtain ⟨W6, hW6, bl6, c6, f6, F6⟩ := FI.out
      rw [← hW6]
      have F7 := Lib.hid F6
      clear hW6 F6 FI c5 f5 bl5 K6 blb4 KD2 HX SAME
      go_wp2
      exact F7.out
end Go.Proofs.YtpnbnnndpbjgmaaDoor.Qu
