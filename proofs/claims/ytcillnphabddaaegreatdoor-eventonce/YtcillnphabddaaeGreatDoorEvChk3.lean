/-
  What is proved here: what package event's Check answers of any event (a contract over the translation).
-/
import Derived.Test.YtcillnphabddaaeGreatDoorEvChk2
namespace Go.Proofs.YtcillnphabddaaeGreatDoor
open Go.RowKit Cal Txt

theorem amF_at : ∀ (l : List (Int × Bool × Int × Int)) (k : Nat), k < l.length → (∀ j, j < k → alF (l.getD j (0, false, 0, 0)) = 0) → ¬ alF (l.getD k (0, false, 0, 0)) = 0 → amF l = alF (l.getD k (0, false, 0, 0))
  | [], k, h, _, _ => by simp at h
  | x :: l, 0, _, _, g => if_neg g
  | x :: l, k + 1, h, f, g => by
    unfold amF
    rw [if_pos (show alF x = 0 from f 0 (by omega))]
    exact amF_at l k (by simpa using h) (fun j hj => f (j + 1) (by omega)) g
theorem amF_end : ∀ (l : List (Int × Bool × Int × Int)), (∀ j, j < l.length → alF (l.getD j (0, false, 0, 0)) = 0) → amF l = 0
  | [], _ => rfl
  | x :: l, f => by
    unfold amF
    rw [if_pos (show alF x = 0 from f 0 (by simp))]
    exact amF_end l (fun j hj => f (j + 1) (by simpa using hj))
theorem evF_2 {e : Evt} (h : (nmB e.name && txB e.text) = false) : evF e = 2 := if_pos h
theorem evF_1 {e : Evt} (h : (nmB e.name && txB e.text) = true) (k : (ist e.start && decide (0 ≤ e.len ∧ e.len ≤ 100000)) = false) : evF e = 1 := by
  unfold evF; rw [if_neg (by rw [h]; decide), if_pos k]
theorem evF_r {e : Evt} (h : (nmB e.name && txB e.text) = true) (k : (ist e.start && decide (0 ≤ e.len ∧ e.len ≤ 100000)) = true) : evF e = if ¬ ruF e = 0 then ruF e else if ¬ liF e = 0 then liF e else amF e.alm := by
  unfold evF; rw [if_neg (by rw [h]; decide), if_neg (by rw [k]; decide)]
theorem liF_alm {e : Evt} (h : liF e = 0) : e.alm.length ≤ 4 := by
  rcases Nat.lt_or_ge 4 e.alm.length with g | g
  · rw [liF_full (Or.inr (Or.inr (Or.inr g)))] at h; cases h
  · exact g
set_option maxRecDepth 100000 in
set_option maxHeartbeats 4000000 in
theorem echeck_any (e : Evt) (s : Evs) (w : World) (hv : EvB w e s) :
    Calls Tryz.prog 6 #[.agg (ecells e s)] w fun x w' => x = .returned (fault (evF e)) ∧ Below w.heap.size w w' := by
  have H2 := Lib.hid (@evF_2 e)
  have H1 := Lib.hid (@evF_1 e)
  have HR := Lib.hid (@evF_r e)
  generalize evF e = F at H2 H1 HR ⊢
  have B0 := (Below.refl w.heap.size w).alloc (Nat.le_refl _) (.cells (ecells e s) 29)
  have HV := Lib.hid (fun W (q : Below w.heap.size w W) => hv.on q)
  have KR := Lib.hid (fun W (q : Below w.heap.size w W) => checkRule_any e s W (hv.on q))
  have KL := Lib.hid (fun W (q : Below w.heap.size w W) => checkLists_any e s W (hv.on q))
  have R0 := Lib.hid (EBox.new w e s 29)
  have HB0 := Lib.hid B0
  generalize ruF e = RF at HR KR
  have HL := Lib.hid (@liF_alm e)
  generalize liF e = LF at HR KL HL
  obtain ⟨nm, tx, st, ln, rp, ru, mo, no, ch, al⟩ := e
  obtain ⟨vm, vd, vw, vp, vo, vn, vc, va⟩ := s
  dsimp only [ecells] at H2 H1 HR R0 KR KL HB0 HL ⊢
  obtain ⟨aa, ca, e4, _⟩ := hv.2.2.2.2.2.2.2
  rename_i y7
  clear y7 B0 hv
  dsimp only at e4
  subst e4
  go_enter Tryz.func6, Tryz.ntmps6
  go_wp2_with fail
  generalize w.alloc (.cells #[.string nm, .string tx, .int .i64 st, .int .i64 ln, .bool rp, .int .i64 ru.freq, .int .i64 ru.every, .int .i64 ru.count, .int .i64 ru.till, vm, vd, vw, vp, vo, vn, vc, .slice aa al.length ca] 29) = w0 at HB0 R0 ⊢
  -- the name
  refine (isName_any nm _).mono ?_
  rintro x w1 ⟨rfl, hb⟩
  have HB1 := Lib.hid (HB0.out.trans (hb.mono HB0.out.size))
  have R1 := Lib.hid (R0.out.on hb)
  clear hb HB0 R0
  rcases h1 : nmB nm with _ | _
  · have N : Hid (F = 2) := Lib.hid (H2.out (by rw [h1]; rfl))
    clear H2 H1 HR KR KL HV
    go_wp2
    go_ret
    exact ⟨by rw [N.out]; rfl, HB1.out⟩
  have rl := R1.out.lt
  have c1 := R1.out.1.2.1
  dsimp only at c1
  go_wp2_with fail
  clear c1 rl
  refine (isText_any tx _).mono ?_
  rintro x w2 ⟨rfl, hb⟩
  have HB2 := Lib.hid (HB1.out.trans (hb.mono HB1.out.size))
  have R2 := Lib.hid (R1.out.on hb)
  clear hb HB1 R1
  rcases h2 : txB tx with _ | _
  · have N : Hid (F = 2) := Lib.hid (H2.out (by rw [h1, h2]; rfl))
    clear H2 H1 HR KR KL HV
    go_wp2
    go_ret
    exact ⟨by rw [N.out]; rfl, HB2.out⟩
  have q1 := H1.out (by rw [h1, h2]; rfl)
  have qR := HR.out (by rw [h1, h2]; rfl)
  have G1 := Lib.hid q1
  have GR := Lib.hid qR
  clear H2 H1 HR q1 qR h1
  have rl := R2.out.lt
  have c2 := R2.out.1.2.2.1
  have c3 := R2.out.1.2.2.2.1
  dsimp only at c2 c3
  go_wp2_with fail
  refine (isTime_any st _).mono ?_
  rintro x w3 ⟨rfl, hw⟩
  replace hw := hw.symm
  subst hw
  rcases h3 : ist st with _ | _
  · have N : Hid (F = 1) := Lib.hid (G1.out (by rw [h3]; rfl))
    clear G1 GR KR KL HV
    go_wp2
    go_ret
    exact ⟨by rw [N.out]; rfl, HB2.out⟩
  go_wp2_with fail
  refine (isFrom_any 0 ln 100000 _).mono ?_
  rintro x w3 ⟨rfl, hw⟩
  replace hw := hw.symm
  subst hw
  rcases h4 : decide (0 ≤ ln ∧ ln ≤ 100000) with _ | _
  · have N : Hid (F = 1) := Lib.hid (G1.out (by rw [h3, h4]; rfl))
    clear G1 GR KR KL HV
    go_wp2
    go_ret
    exact ⟨by rw [N.out]; rfl, HB2.out⟩
  have qR := GR.out (by rw [h3, h4]; rfl)
  have GG := Lib.hid qR
  clear GR G1 qR h3 h4 h2 c2 c3 rl
  -- the rule
  have rl := R2.out.lt
  obtain ⟨⟨a0, a1, a2, a3, a4⟩, ⟨b0, b1, b2, b3, b4, b5, b6, b7⟩, c0, c1, c2, c3⟩ := R2.out
  dsimp only at a0 a1 a2 a3 a4 b0 b1 b2 b3 b4 b5 b6 b7 c0 c1 c2 c3
  go_wp2_with fail
  clear a0 a1 a2 a3 a4 b0 b1 b2 b3 b4 b5 b6 b7 c0 c1 c2 c3 rl
  refine (KR.out _ HB2.out).mono ?_
  rintro x w3 ⟨rfl, hb⟩
  have HB3 := Lib.hid (HB2.out.trans (hb.mono HB2.out.size))
  have R3 := Lib.hid (R2.out.on hb)
  clear hb HB2 R2 KR
  by_cases hr : RF = 0
  case neg =>
    have N : Hid (F = RF) := Lib.hid (GG.out.trans (if_pos hr))
    rw [fault_ne hr]
    have HF := Lib.hid hr
    clear hr GG KL HV
    go_wp2
    go_ret
    exact ⟨by rw [N.out, fault_ne HF.out]; rfl, HB3.out⟩
  have G2 := Lib.hid (GG.out.trans (if_neg (fun q => q hr)))
  rw [hr, fault_0]
  clear hr GG
  have rl := R3.out.lt
  obtain ⟨⟨a0, a1, a2, a3, a4⟩, ⟨b0, b1, b2, b3, b4, b5, b6, b7⟩, c0, c1, c2, c3⟩ := R3.out
  dsimp only at a0 a1 a2 a3 a4 b0 b1 b2 b3 b4 b5 b6 b7 c0 c1 c2 c3
  go_wp2_with fail
  clear a0 a1 a2 a3 a4 b0 b1 b2 b3 b4 b5 b6 b7 c0 c1 c2 c3 rl
  refine (KL.out _ HB3.out).mono ?_
  rintro x w4 ⟨rfl, hb⟩
  have HB4 := Lib.hid (HB3.out.trans (hb.mono HB3.out.size))
  have R4 := Lib.hid (R3.out.on hb)
  clear hb HB3 R3 KL
  by_cases hr : LF = 0
  case neg =>
    have N : Hid (F = LF) := Lib.hid (G2.out.trans (if_pos hr))
    rw [fault_ne hr]
    have HF := Lib.hid hr
    clear hr G2 HV
    go_wp2
    go_ret
    exact ⟨by rw [N.out, fault_ne HF.out]; rfl, HB4.out⟩
  have al4 : al.length ≤ 4 := HL.out hr
  have G3 : Hid (F = amF al) := Lib.hid (G2.out.trans (if_neg (fun q => q hr)))
  rw [hr, fault_0]
  clear hr G2
  have rl := R4.out.lt
  have c3 := R4.out.2.2.2.2.2
  dsimp only at c3
  go_wp2_with fail
  clear c3 rl
  have HVa := Lib.hid (fun W (q : Below w.heap.size w W) => (HV.out W q).2.2.2.2.2.2.2)
  clear HV R4
  dsimp only at HVa
  go_loopw [43] (fun i wr => ∃ k : Nat, k ≤ al.length ∧ i = .int .i64 k ∧ (∀ j, j < k → alF (al.getD j (0, false, 0, 0)) = 0) ∧ Below w.heap.size w wr) (fun i _ => al.length - (intOf i).toNat)
  case atStart => exact ⟨0, Nat.zero_le _, rfl, fun j hj => absurd hj (Nat.not_lt_zero _), HB4.out⟩
  case round =>
    obtain ⟨k, hk, rfl, hf, hB⟩ := hrel
    have HF := Lib.hid hf
    clear hf HB4
    by_cases hlt : k < al.length
    · obtain ⟨a', c', e', hc⟩ := HVa.out wr hB
      rcases hc with hc | ⟨b, off, ea, hc⟩
      · rw [hc] at hlt; simp at hlt
      obtain ⟨rfl, rfl⟩ : aa = a' ∧ ca = c' := by simpa using e'
      subst ea
      obtain ⟨k0, k1, k2, k3⟩ := hc k hlt
      obtain ⟨x, hx⟩ : ∃ x, x = al.getD k (0, false, 0, 0) := ⟨_, rfl⟩
      have NA := Lib.hid (fun q => amF_at al k hlt HF.out q)
      have NZ := Lib.hid (fun (q : alF x = 0) => show ∀ j, j < k + 1 → alF (al.getD j (0, false, 0, 0)) = 0 from fun j hj => by
        rcases Nat.lt_or_ge j k with g | g
        · exact HF.out j g
        · rw [show j = k by omega, ← hx]; exact q)
      rw [← hx] at k0 k1 k2 k3 NA
      obtain ⟨o, bb, rr, tt⟩ := x
      dsimp only at k0 k1 k2 k3
      have hB1 := hB.alloc hB.size (.cells #[.int .i64 o, .bool bb, .int .i64 rr, .int .i64 tt] 42)
      have KB := Lib.hid hB1
      clear hc hx e' hB1 hB HF
      go_wp2_with fail
      clear k0 k1 k2 k3
      refine (ealarm_any o bb rr tt _).mono ?_
      rintro y w5 ⟨rfl, hb⟩
      have KB2 := Lib.hid (KB.out.trans (hb.mono KB.out.size))
      clear hb KB
      by_cases hz : alF (o, bb, rr, tt) = 0
      · have N := Lib.hid (NZ.out hz)
        rw [hz, fault_0]
        clear hz NA NZ
        go_wp2
        go_roundw
        case rel => exact ⟨k + 1, by omega, by go_num, N.out, KB2.out⟩
        case measure => simp [intOf]; omega
      · have N : Hid (F = alF (o, bb, rr, tt)) := Lib.hid (G3.out.trans (NA.out hz))
        rw [fault_ne hz]
        have HZ := Lib.hid hz
        clear hz NA NZ
        go_wp2
        go_ret
        exact ⟨by rw [N.out, fault_ne HZ.out]; rfl, KB2.out⟩
    · have N : Hid (F = 0) := Lib.hid (G3.out.trans (amF_end al (fun j hj => HF.out j (by omega))))
      go_wp2
      go_ret
      exact ⟨by rw [N.out]; rfl, hB⟩
end Go.Proofs.YtcillnphabddaaeGreatDoor
