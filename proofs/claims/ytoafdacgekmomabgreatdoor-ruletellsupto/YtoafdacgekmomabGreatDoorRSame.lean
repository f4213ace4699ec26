/-
  What is proved here: what chimesame's Ints, Nths and Rule answer of what is the same (contracts over the translation).
-/
import Derived.Test.YtoafdacgekmomabGreatDoorRpParse
namespace Go.Proofs.YtoafdacgekmomabGreatDoor
open Go.RowKit Cal Txt

set_option maxRecDepth 100000 in
set_option maxHeartbeats 2000000 in
theorem sameInts (l : List Int) (va vb : Value) (w : World) (ha : Ints w va l) (hb : Ints w vb l) (hl : l.length ≤ 2000000) :
    Calls Tryz.prog 34 #[va, vb] w fun e w' => e = .returned (.bool true) ∧ Below w.heap.size w w' := by
  have HA := Lib.hid ha
  have HBb := Lib.hid hb
  obtain ⟨aa, ca, rfl, xa⟩ := ha
  obtain ⟨ab, cb, rfl, xb⟩ := hb
  clear xa xb
  go_enter Tryz.func34, Tryz.ntmps34
  go_wp2
  go_loopw [5] (fun i wr => ∃ k : Nat, k ≤ l.length ∧ i = .int .i64 k ∧ Below w.heap.size w wr) (fun i _ => l.length - (intOf i).toNat)
  case atStart => exact ⟨0, Nat.zero_le _, rfl, Below.refl _ _⟩
  case round =>
    obtain ⟨k, hk, rfl, hB⟩ := hrel
    by_cases hlt : k < l.length
    · obtain ⟨a', c', e', hc⟩ := HA.out.on hB
      obtain ⟨rfl, rfl⟩ : aa = a' ∧ ca = c' := by simpa using e'
      obtain ⟨a2, c2, e2, hd⟩ := HBb.out.on hB
      obtain ⟨rfl, rfl⟩ : ab = a2 ∧ cb = c2 := by simpa using e2
      rcases hc with hc | ⟨b, off, rfl, hc⟩
      · rw [hc] at hlt; simp at hlt
      rcases hd with hd | ⟨b2, off2, rfl, hd⟩
      · rw [hd] at hlt; simp at hlt
      have q1 := hc k hlt
      have q2 := hd k hlt
      obtain ⟨x, hx⟩ : ∃ x, x = l.getD k 0 := ⟨_, rfl⟩
      rw [← hx] at q1 q2
      clear hx hc hd e' e2
      go_wp2_with fail
      go_quiet (fail)
      go_wp2
      go_roundw
      case rel => exact ⟨k + 1, by omega, by go_num, below_drewN hB _⟩
      case measure => simp [intOf]; omega
    · go_wp2
      go_ret
      exact ⟨rfl, hB⟩
set_option maxRecDepth 100000 in
set_option maxHeartbeats 2000000 in
theorem sameNths (l : List (Int × Int)) (va vb : Value) (w : World) (ha : Nths w va l) (hb : Nths w vb l) (hl : l.length ≤ 2000000) :
    Calls Tryz.prog 35 #[va, vb] w fun e w' => e = .returned (.bool true) ∧ Below w.heap.size w w' := by
  have HA := Lib.hid ha
  have HBb := Lib.hid hb
  obtain ⟨aa, ca, rfl, xa⟩ := ha
  obtain ⟨ab, cb, rfl, xb⟩ := hb
  clear xa xb
  go_enter Tryz.func35, Tryz.ntmps35
  go_wp2
  go_loopw [5] (fun i wr => ∃ k : Nat, k ≤ l.length ∧ i = .int .i64 k ∧ Below w.heap.size w wr) (fun i _ => l.length - (intOf i).toNat)
  case atStart => exact ⟨0, Nat.zero_le _, rfl, Below.refl _ _⟩
  case round =>
    obtain ⟨k, hk, rfl, hB⟩ := hrel
    by_cases hlt : k < l.length
    · obtain ⟨a', c', e', hc⟩ := HA.out.on hB
      obtain ⟨rfl, rfl⟩ : aa = a' ∧ ca = c' := by simpa using e'
      obtain ⟨a2, c2, e2, hd⟩ := HBb.out.on hB
      obtain ⟨rfl, rfl⟩ : ab = a2 ∧ cb = c2 := by simpa using e2
      rcases hc with hc | ⟨b, off, rfl, hc⟩
      · rw [hc] at hlt; simp at hlt
      rcases hd with hd | ⟨b2, off2, rfl, hd⟩
      · rw [hd] at hlt; simp at hlt
      obtain ⟨q1, q3⟩ := hc k hlt
      obtain ⟨q2, q4⟩ := hd k hlt
      obtain ⟨x, hx⟩ : ∃ x, x = (l.getD k (0, 0)).1 := ⟨_, rfl⟩
      obtain ⟨y, hy⟩ : ∃ y, y = (l.getD k (0, 0)).2 := ⟨_, rfl⟩
      rw [← hx] at q1 q2
      rw [← hy] at q3 q4
      clear hx hy hc hd e' e2
      go_wp2_with fail
      go_quiet (fail)
      go_wp2
      go_roundw
      case rel => exact ⟨k + 1, by omega, by go_num, below_drewN hB _⟩
      case measure => simp [intOf]; omega
    · go_wp2
      go_ret
      exact ⟨rfl, hB⟩
set_option maxRecDepth 100000 in
set_option maxHeartbeats 4000000 in
theorem sameRule (r : Rl) (va vb : Value) (w : World) (ha : RuleIn w va r) (hb : RuleIn w vb r) (h2 : ok2 r = true) :
    Calls Tryz.prog 12 #[va, vb] w fun e w' => e = .returned (.bool true) ∧ Below w.heap.size w w' := by
  obtain ⟨l1, l2, l3, l4⟩ := ok2_yes h2
  clear h2
  obtain ⟨vm, vd, vw, vp, rfl, m1, d1, k1, p1⟩ := ha
  obtain ⟨um, ud, uw, up, rfl, m2, d2, k2, p2⟩ := hb
  have HM := Lib.hid (And.intro m1 m2)
  have HD := Lib.hid (And.intro d1 d2)
  have HK := Lib.hid (And.intro k1 k2)
  have HP := Lib.hid (And.intro p1 p2)
  obtain ⟨am, cm, rfl, _⟩ := m1
  obtain ⟨ad, cd, rfl, _⟩ := d1
  obtain ⟨aw, cw, rfl, _⟩ := k1
  obtain ⟨ap, cp, rfl, _⟩ := p1
  obtain ⟨bm, em, rfl, _⟩ := m2
  obtain ⟨bd, ed, rfl, _⟩ := d2
  obtain ⟨bk, ek, rfl, _⟩ := k2
  obtain ⟨bp, ep, rfl, _⟩ := p2
  have R1 := Lib.hid (RBox.new w r.freq r.every r.count r.till (.slice am r.months.length cm) (.slice ad r.days.length cd) (.slice aw r.weeks.length cw) (.slice ap r.pick.length cp) 25)
  have A0 : Below w.heap.size w (w.alloc (.cells #[.int .i64 r.freq, .int .i64 r.every, .int .i64 r.count, .int .i64 r.till, .slice am r.months.length cm, .slice ad r.days.length cd, .slice aw r.weeks.length cw, .slice ap r.pick.length cp] 25)) := (Below.refl _ _).alloc (Nat.le_refl _) _
  have A1 : Below (w.alloc (.cells #[.int .i64 r.freq, .int .i64 r.every, .int .i64 r.count, .int .i64 r.till, .slice am r.months.length cm, .slice ad r.days.length cd, .slice aw r.weeks.length cw, .slice ap r.pick.length cp] 25)).heap.size (w.alloc (.cells #[.int .i64 r.freq, .int .i64 r.every, .int .i64 r.count, .int .i64 r.till, .slice am r.months.length cm, .slice ad r.days.length cd, .slice aw r.weeks.length cw, .slice ap r.pick.length cp] 25))
    ((w.alloc (.cells #[.int .i64 r.freq, .int .i64 r.every, .int .i64 r.count, .int .i64 r.till, .slice am r.months.length cm, .slice ad r.days.length cd, .slice aw r.weeks.length cw, .slice ap r.pick.length cp] 25)).alloc (.cells #[.int .i64 r.freq, .int .i64 r.every, .int .i64 r.count, .int .i64 r.till, .slice bm r.months.length em, .slice bd r.days.length ed, .slice bk r.weeks.length ek, .slice bp r.pick.length ep] 25)) := (Below.refl _ _).alloc (Nat.le_refl _) _
  have X1 := Lib.hid (R1.out.on A1)
  have X2 := Lib.hid (RBox.new (w.alloc (.cells #[.int .i64 r.freq, .int .i64 r.every, .int .i64 r.count, .int .i64 r.till, .slice am r.months.length cm, .slice ad r.days.length cd, .slice aw r.weeks.length cw, .slice ap r.pick.length cp] 25)) r.freq r.every r.count r.till (.slice bm r.months.length em) (.slice bd r.days.length ed) (.slice bk r.weeks.length ek) (.slice bp r.pick.length ep) 25)
  have e1 : (w.alloc (.cells #[.int .i64 r.freq, .int .i64 r.every, .int .i64 r.count, .int .i64 r.till, .slice am r.months.length cm, .slice ad r.days.length cd, .slice aw r.weeks.length cw, .slice ap r.pick.length cp] 25)).heap.size = w.heap.size + 1 := by simp
  have HB := Lib.hid (A0.trans (A1.mono A0.size))
  rw [e1] at X2
  clear R1 A0 A1 e1
  go_enter Tryz.func12, Tryz.ntmps12
  go_wp2_with fail
  generalize ((w.alloc (.cells #[.int .i64 r.freq, .int .i64 r.every, .int .i64 r.count, .int .i64 r.till, .slice am r.months.length cm, .slice ad r.days.length cd, .slice aw r.weeks.length cw, .slice ap r.pick.length cp] 25)).alloc (.cells #[.int .i64 r.freq, .int .i64 r.every, .int .i64 r.count, .int .i64 r.till, .slice bm r.months.length em, .slice bd r.days.length ed, .slice bk r.weeks.length ek, .slice bp r.pick.length ep] 25)) = W at X1 X2 HB ⊢
  refine (sameInts _ _ _ _ (HM.out.1.on HB.out) (HM.out.2.on HB.out) (by omega)).mono ?_
  rintro e w1 ⟨rfl, hx⟩
  have Y1 := Lib.hid (X1.out.on hx)
  have Y2 := Lib.hid (X2.out.on hx)
  have B1 := Lib.hid (HB.out.trans (hx.mono HB.out.size))
  clear hx X1 X2 HB
  obtain ⟨a0, a1, a2, a3, a4, a5, a6, a7⟩ := id Y1.out
  obtain ⟨b0, b1, b2, b3, b4, b5, b6, b7⟩ := id Y2.out
  go_wp2_with fail
  clear a0 a1 a2 a3 a4 a5 a6 a7 b0 b1 b2 b3 b4 b5 b6 b7
  refine (sameInts _ _ _ _ (HD.out.1.on B1.out) (HD.out.2.on B1.out) (by omega)).mono ?_
  rintro e w2 ⟨rfl, hx⟩
  have Z1 := Lib.hid (Y1.out.on hx)
  have Z2 := Lib.hid (Y2.out.on hx)
  have B2 := Lib.hid (B1.out.trans (hx.mono B1.out.size))
  clear hx Y1 Y2 B1
  obtain ⟨a0, a1, a2, a3, a4, a5, a6, a7⟩ := id Z1.out
  obtain ⟨b0, b1, b2, b3, b4, b5, b6, b7⟩ := id Z2.out
  go_wp2_with fail
  clear a0 a1 a2 a3 a4 a5 a6 a7 b0 b1 b2 b3 b4 b5 b6 b7
  refine (sameNths _ _ _ _ (HK.out.1.on B2.out) (HK.out.2.on B2.out) (by omega)).mono ?_
  rintro e w3 ⟨rfl, hx⟩
  have V1 := Lib.hid (Z1.out.on hx)
  have V2 := Lib.hid (Z2.out.on hx)
  have B3 := Lib.hid (B2.out.trans (hx.mono B2.out.size))
  clear hx Z1 Z2 B2
  obtain ⟨a0, a1, a2, a3, a4, a5, a6, a7⟩ := id V1.out
  obtain ⟨b0, b1, b2, b3, b4, b5, b6, b7⟩ := id V2.out
  go_wp2_with fail
  clear a0 a1 a2 a3 a4 a5 a6 a7 b0 b1 b2 b3 b4 b5 b6 b7
  refine (sameInts _ _ _ _ (HP.out.1.on B3.out) (HP.out.2.on B3.out) (by omega)).mono ?_
  rintro e w4 ⟨rfl, hx⟩
  obtain ⟨a0, a1, a2, a3, a4, a5, a6, a7⟩ := V1.out.on hx
  obtain ⟨b0, b1, b2, b3, b4, b5, b6, b7⟩ := V2.out.on hx
  have B4 := B3.out.trans (hx.mono B3.out.size)
  clear hx V1 V2 B3
  go_wp2
  go_ret
  exact ⟨ret_bool (by simp), B4⟩
end Go.Proofs.YtoafdacgekmomabGreatDoor
