/-
  What is proved here: what chimesame's Ints, Nths and Rule answer of what is the same (contracts over the translation).
  What is proved here: what chimesame's Event answers of what is the same (a contract over the translation).
-/
import Derived.Test.YtpplfcfhjpfckaaGreatDoorRpParse
import Derived.Test.YtpplfcfhjpfckaaGreatDoorQJ
namespace Go.Proofs.YtpplfcfhjpfckaaGreatDoor
open Go.RowKit Cal Txt

set_option maxRecDepth 100000 in
set_option maxHeartbeats 2000000 in
theorem sameInts (l : List Int) (va vb : Value) (w : World) (ha : Ints w va l) (hb : Ints w vb l) (hl : l.length ≤ 2000000) :
    Calls Tryz.prog 15 #[va, vb] w fun e w' => e = .returned (.bool true) ∧ Below w.heap.size w w' := by
  have HA := Lib.hid ha
  have HBb := Lib.hid hb
  obtain ⟨aa, ca, rfl, xa⟩ := ha
  obtain ⟨ab, cb, rfl, xb⟩ := hb
  clear xa xb
  go_enter Tryz.func15, Tryz.ntmps15
  go_wp2
  go_loopw [5] (fun i wr => ∃ k : Nat, k ≤ l.length ∧ i = .int .i64 k ∧ Below w.heap.size w wr) (fun i _ => l.length - (intOf i).toNat)
  case atStart => exact ⟨0, Nat.zero_le _, rfl, Below.refl _ _⟩
  case round =>
    obtain ⟨k, hk, rfl, hB⟩ := hrel
    by_cases hlt : k < l.length
    · obtain ⟨a', c', e', hc⟩ := HA.out.on hB
      obtain ⟨rfl, rfl⟩ : aa = a' ∧ ca = c' := by simpa using e'
      obtain ⟨a2, c2, e2, hd⟩ := HBb.out.on hB
      obtain ⟨rfl, rfl⟩ : ab = a2 ∧ cb = c2 := by simpa using e2
      rcases hc with hc | ⟨b, off, rfl, hc⟩
      · rw [hc] at hlt; simp at hlt
      rcases hd with hd | ⟨b2, off2, rfl, hd⟩
      · rw [hd] at hlt; simp at hlt
      have q1 := hc k hlt
      have q2 := hd k hlt
      obtain ⟨x, hx⟩ : ∃ x, x = l.getD k 0 := ⟨_, rfl⟩
      rw [← hx] at q1 q2
      clear hx hc hd e' e2
      go_wp2_with fail
      go_quiet (fail)
      go_wp2
      go_roundw
      case rel => exact ⟨k + 1, by omega, by go_num, below_drewN hB _⟩
      case measure => simp [intOf]; omega
    · go_wp2
      go_ret
      exact ⟨rfl, hB⟩
set_option maxRecDepth 100000 in
set_option maxHeartbeats 2000000 in
theorem sameNths (l : List (Int × Int)) (va vb : Value) (w : World) (ha : Nths w va l) (hb : Nths w vb l) (hl : l.length ≤ 2000000) :
    Calls Tryz.prog 33 #[va, vb] w fun e w' => e = .returned (.bool true) ∧ Below w.heap.size w w' := by
  have HA := Lib.hid ha
  have HBb := Lib.hid hb
  obtain ⟨aa, ca, rfl, xa⟩ := ha
  obtain ⟨ab, cb, rfl, xb⟩ := hb
  clear xa xb
  go_enter Tryz.func33, Tryz.ntmps33
  go_wp2
  go_loopw [5] (fun i wr => ∃ k : Nat, k ≤ l.length ∧ i = .int .i64 k ∧ Below w.heap.size w wr) (fun i _ => l.length - (intOf i).toNat)
  case atStart => exact ⟨0, Nat.zero_le _, rfl, Below.refl _ _⟩
  case round =>
    obtain ⟨k, hk, rfl, hB⟩ := hrel
    by_cases hlt : k < l.length
    · obtain ⟨a', c', e', hc⟩ := HA.out.on hB
      obtain ⟨rfl, rfl⟩ : aa = a' ∧ ca = c' := by simpa using e'
      obtain ⟨a2, c2, e2, hd⟩ := HBb.out.on hB
      obtain ⟨rfl, rfl⟩ : ab = a2 ∧ cb = c2 := by simpa using e2
      rcases hc with hc | ⟨b, off, rfl, hc⟩
      · rw [hc] at hlt; simp at hlt
      rcases hd with hd | ⟨b2, off2, rfl, hd⟩
      · rw [hd] at hlt; simp at hlt
      obtain ⟨q1, q3⟩ := hc k hlt
      obtain ⟨q2, q4⟩ := hd k hlt
      obtain ⟨x, hx⟩ : ∃ x, x = (l.getD k (0, 0)).1 := ⟨_, rfl⟩
      obtain ⟨y, hy⟩ : ∃ y, y = (l.getD k (0, 0)).2 := ⟨_, rfl⟩
      rw [← hx] at q1 q2
      rw [← hy] at q3 q4
      clear hx hy hc hd e' e2
      go_wp2_with fail
      go_quiet (fail)
      go_wp2
      go_roundw
      case rel => exact ⟨k + 1, by omega, by go_num, below_drewN hB _⟩
      case measure => simp [intOf]; omega
    · go_wp2
      go_ret
      exact ⟨rfl, hB⟩
set_option maxRecDepth 100000 in
set_option maxHeartbeats 4000000 in
theorem sameRule (r : Rl) (va vb : Value) (w : World) (ha : RuleIn w va r) (hb : RuleIn w vb r) (h2 : ok2 r = true) :
    Calls Tryz.prog 14 #[va, vb] w fun e w' => e = .returned (.bool true) ∧ Below w.heap.size w w' := by
  obtain ⟨l1, l2, l3, l4⟩ := ok2_yes h2
  clear h2
  obtain ⟨vm, vd, vw, vp, rfl, m1, d1, k1, p1⟩ := ha
  obtain ⟨um, ud, uw, up, rfl, m2, d2, k2, p2⟩ := hb
  have HM := Lib.hid (And.intro m1 m2)
  have HD := Lib.hid (And.intro d1 d2)
  have HK := Lib.hid (And.intro k1 k2)
  have HP := Lib.hid (And.intro p1 p2)
  obtain ⟨am, cm, rfl, _⟩ := m1
  obtain ⟨ad, cd, rfl, _⟩ := d1
  obtain ⟨aw, cw, rfl, _⟩ := k1
  obtain ⟨ap, cp, rfl, _⟩ := p1
  obtain ⟨bm, em, rfl, _⟩ := m2
  obtain ⟨bd, ed, rfl, _⟩ := d2
  obtain ⟨bk, ek, rfl, _⟩ := k2
  obtain ⟨bp, ep, rfl, _⟩ := p2
  have R1 := Lib.hid (RBox.new w r.freq r.every r.count r.till (.slice am r.months.length cm) (.slice ad r.days.length cd) (.slice aw r.weeks.length cw) (.slice ap r.pick.length cp) 25)
  have A0 : Below w.heap.size w (w.alloc (.cells #[.int .i64 r.freq, .int .i64 r.every, .int .i64 r.count, .int .i64 r.till, .slice am r.months.length cm, .slice ad r.days.length cd, .slice aw r.weeks.length cw, .slice ap r.pick.length cp] 25)) := (Below.refl _ _).alloc (Nat.le_refl _) _
  have A1 : Below (w.alloc (.cells #[.int .i64 r.freq, .int .i64 r.every, .int .i64 r.count, .int .i64 r.till, .slice am r.months.length cm, .slice ad r.days.length cd, .slice aw r.weeks.length cw, .slice ap r.pick.length cp] 25)).heap.size (w.alloc (.cells #[.int .i64 r.freq, .int .i64 r.every, .int .i64 r.count, .int .i64 r.till, .slice am r.months.length cm, .slice ad r.days.length cd, .slice aw r.weeks.length cw, .slice ap r.pick.length cp] 25))
    ((w.alloc (.cells #[.int .i64 r.freq, .int .i64 r.every, .int .i64 r.count, .int .i64 r.till, .slice am r.months.length cm, .slice ad r.days.length cd, .slice aw r.weeks.length cw, .slice ap r.pick.length cp] 25)).alloc (.cells #[.int .i64 r.freq, .int .i64 r.every, .int .i64 r.count, .int .i64 r.till, .slice bm r.months.length em, .slice bd r.days.length ed, .slice bk r.weeks.length ek, .slice bp r.pick.length ep] 25)) := (Below.refl _ _).alloc (Nat.le_refl _) _
  have X1 := Lib.hid (R1.out.on A1)
  have X2 := Lib.hid (RBox.new (w.alloc (.cells #[.int .i64 r.freq, .int .i64 r.every, .int .i64 r.count, .int .i64 r.till, .slice am r.months.length cm, .slice ad r.days.length cd, .slice aw r.weeks.length cw, .slice ap r.pick.length cp] 25)) r.freq r.every r.count r.till (.slice bm r.months.length em) (.slice bd r.days.length ed) (.slice bk r.weeks.length ek) (.slice bp r.pick.length ep) 25)
  have e1 : (w.alloc (.cells #[.int .i64 r.freq, .int .i64 r.every, .int .i64 r.count, .int .i64 r.till, .slice am r.months.length cm, .slice ad r.days.length cd, .slice aw r.weeks.length cw, .slice ap r.pick.length cp] 25)).heap.size = w.heap.size + 1 := by simp
  have HB := Lib.hid (A0.trans (A1.mono A0.size))
  rw [e1] at X2
  clear R1 A0 A1 e1
  go_enter Tryz.func14, Tryz.ntmps14
  go_wp2_with fail
  generalize ((w.alloc (.cells #[.int .i64 r.freq, .int .i64 r.every, .int .i64 r.count, .int .i64 r.till, .slice am r.months.length cm, .slice ad r.days.length cd, .slice aw r.weeks.length cw, .slice ap r.pick.length cp] 25)).alloc (.cells #[.int .i64 r.freq, .int .i64 r.every, .int .i64 r.count, .int .i64 r.till, .slice bm r.months.length em, .slice bd r.days.length ed, .slice bk r.weeks.length ek, .slice bp r.pick.length ep] 25)) = W at X1 X2 HB ⊢
  refine (sameInts _ _ _ _ (HM.out.1.on HB.out) (HM.out.2.on HB.out) (by omega)).mono ?_
  rintro e w1 ⟨rfl, hx⟩
  have Y1 := Lib.hid (X1.out.on hx)
  have Y2 := Lib.hid (X2.out.on hx)
  have B1 := Lib.hid (HB.out.trans (hx.mono HB.out.size))
  clear hx X1 X2 HB
  obtain ⟨a0, a1, a2, a3, a4, a5, a6, a7⟩ := id Y1.out
  obtain ⟨b0, b1, b2, b3, b4, b5, b6, b7⟩ := id Y2.out
  go_wp2_with fail
  clear a0 a1 a2 a3 a4 a5 a6 a7 b0 b1 b2 b3 b4 b5 b6 b7
  refine (sameInts _ _ _ _ (HD.out.1.on B1.out) (HD.out.2.on B1.out) (by omega)).mono ?_
  rintro e w2 ⟨rfl, hx⟩
  have Z1 := Lib.hid (Y1.out.on hx)
  have Z2 := Lib.hid (Y2.out.on hx)
  have B2 := Lib.hid (B1.out.trans (hx.mono B1.out.size))
  clear hx Y1 Y2 B1
  obtain ⟨a0, a1, a2, a3, a4, a5, a6, a7⟩ := id Z1.out
  obtain ⟨b0, b1, b2, b3, b4, b5, b6, b7⟩ := id Z2.out
  go_wp2_with fail
  clear a0 a1 a2 a3 a4 a5 a6 a7 b0 b1 b2 b3 b4 b5 b6 b7
  refine (sameNths _ _ _ _ (HK.out.1.on B2.out) (HK.out.2.on B2.out) (by omega)).mono ?_
  rintro e w3 ⟨rfl, hx⟩
  have V1 := Lib.hid (Z1.out.on hx)
  have V2 := Lib.hid (Z2.out.on hx)
  have B3 := Lib.hid (B2.out.trans (hx.mono B2.out.size))
  clear hx Z1 Z2 B2
  obtain ⟨a0, a1, a2, a3, a4, a5, a6, a7⟩ := id V1.out
  obtain ⟨b0, b1, b2, b3, b4, b5, b6, b7⟩ := id V2.out
  go_wp2_with fail
  clear a0 a1 a2 a3 a4 a5 a6 a7 b0 b1 b2 b3 b4 b5 b6 b7
  refine (sameInts _ _ _ _ (HP.out.1.on B3.out) (HP.out.2.on B3.out) (by omega)).mono ?_
  rintro e w4 ⟨rfl, hx⟩
  obtain ⟨a0, a1, a2, a3, a4, a5, a6, a7⟩ := V1.out.on hx
  obtain ⟨b0, b1, b2, b3, b4, b5, b6, b7⟩ := V2.out.on hx
  have B4 := B3.out.trans (hx.mono B3.out.size)
  clear hx V1 V2 B3
  go_wp2
  go_ret
  exact ⟨ret_bool (by simp), B4⟩
end Go.Proofs.YtpplfcfhjpfckaaGreatDoor
namespace Go.Proofs.YtpplfcfhjpfckaaGreatDoor
open Go.RowKit Cal Txt

set_option maxRecDepth 100000 in
set_option maxHeartbeats 4000000 in
theorem sameEvent (e : Evt) (s u : Evs) (w : World) (ha : EvB w e s) (hb : EvB w e u) (h2 : ok2 e.rule = true) (l1 : e.more.length ≤ 100) (l2 : e.nots.length ≤ 100) (l3 : e.chg.length ≤ 100) (l4 : e.alm.length ≤ 100) :
    Calls Tryz.prog 6 #[.agg (ecells e s), .agg (ecells e u)] w fun x w' => x = .returned (.bool true) ∧ Below w.heap.size w w' := by
  have KR := Lib.hid (fun W (q : Below w.heap.size w W) => sameRule e.rule (rval e s) (rval e u) W (ha.on q).rule (hb.on q).rule h2)
  have KM := Lib.hid (fun W (q : Below w.heap.size w W) => sameInts e.more s.vo u.vo W (ha.on q).2.2.2.2.1 (hb.on q).2.2.2.2.1 (by omega))
  have KN := Lib.hid (fun W (q : Below w.heap.size w W) => sameInts e.nots s.vn u.vn W (ha.on q).2.2.2.2.2.1 (hb.on q).2.2.2.2.2.1 (by omega))
  have HC := Lib.hid (And.intro ha.2.2.2.2.2.2.1 hb.2.2.2.2.2.2.1)
  have HA := Lib.hid (And.intro ha.2.2.2.2.2.2.2 hb.2.2.2.2.2.2.2)
  obtain ⟨W0, hW0⟩ : ∃ W0, W0 = (w.alloc (.cells (ecells e s) 29)).alloc (.cells (ecells e u) 29) := ⟨_, rfl⟩
  have B1 : Below w.heap.size w (w.alloc (.cells (ecells e s) 29)) := (Below.refl _ _).alloc (Nat.le_refl _) _
  have B0 : Below w.heap.size w W0 := by rw [hW0]; exact B1.alloc B1.size _
  have R1 : EBox W0 w.heap.size e s := by rw [hW0]; exact (EBox.new w e s 29).on ((Below.refl _ _).alloc (Nat.le_refl _) _)
  have R2 : EBox W0 (w.heap.size + 1) e u := by rw [hW0]; have := EBox.new (w.alloc (.cells (ecells e s) 29)) e u 29; rwa [World.size_alloc] at this
  have HW0 := Lib.hid hW0
  have HB := Lib.hid B0
  have HR := Lib.hid (And.intro R1 R2)
  obtain ⟨ac, cc, q7, _⟩ := id HC.out.1
  obtain ⟨bc, dc, p7, _⟩ := id HC.out.2
  obtain ⟨aa, ca, q8, _⟩ := id HA.out.1
  obtain ⟨ba, da, p8, _⟩ := id HA.out.2
  have Q := Lib.hid (And.intro (And.intro q7 p7) (And.intro q8 p8))
  clear hW0 B1 B0 R1 R2 h2 ha hb q7 p7 q8 p8
  go_enter Tryz.func6, Tryz.ntmps6
  go_wp2_with fail
  rw [← HW0.out]
  refine (KR.out W0 HB.out).mono ?_
  rintro x w1 ⟨rfl, hx⟩
  have HB1 := Lib.hid (HB.out.trans (hx.mono HB.out.size))
  have HR1 := Lib.hid (And.intro (HR.out.1.on hx) (HR.out.2.on hx))
  clear hx HR HB KR HW0
  have l7 := HR1.out.1.lt
  have l8 := HR1.out.2.lt
  obtain ⟨_, _, a13, a14, a15, a16⟩ := id HR1.out.1
  obtain ⟨_, _, b13, b14, b15, b16⟩ := id HR1.out.2
  go_wp2_with fail
  refine (KM.out w1 HB1.out).mono ?_
  rintro x w2 ⟨rfl, hx⟩
  have HB2 := Lib.hid (HB1.out.trans (hx.mono HB1.out.size))
  have HR2 := Lib.hid (And.intro (HR1.out.1.on hx) (HR1.out.2.on hx))
  clear hx HR1 HB1 KM a13 a14 a15 a16 b13 b14 b15 b16 l7 l8
  have l7 := HR2.out.1.lt
  have l8 := HR2.out.2.lt
  obtain ⟨_, _, a13, a14, a15, a16⟩ := id HR2.out.1
  obtain ⟨_, _, b13, b14, b15, b16⟩ := id HR2.out.2
  go_wp2_with fail
  refine (KN.out w2 HB2.out).mono ?_
  rintro x w3 ⟨rfl, hx⟩
  have HB3 := Lib.hid (HB2.out.trans (hx.mono HB2.out.size))
  have HR3 := Lib.hid (And.intro (HR2.out.1.on hx) (HR2.out.2.on hx))
  clear hx HR2 HB2 KN a13 a14 a15 a16 b13 b14 b15 b16 l7 l8
  have l7 := HR3.out.1.lt
  have l8 := HR3.out.2.lt
  obtain ⟨⟨a0, a1, a2, a3, a4⟩, _, a13, a14, a15, a16⟩ := id HR3.out.1
  obtain ⟨⟨b0, b1, b2, b3, b4⟩, _, b13, b14, b15, b16⟩ := id HR3.out.2
  obtain ⟨⟨q7, p7⟩, q8, p8⟩ := Q.out
  rw [q7] at a15
  rw [p7] at b15
  rw [q8] at a16
  rw [p8] at b16
  clear q7 p7 q8 p8
  go_wp2
  clear a0 a1 a2 a3 a4 a13 a14 a15 a16 b0 b1 b2 b3 b4 b13 b14 b15 b16 l7 l8
  go_loopw [8] (fun i wr => ∃ k : Nat, k ≤ e.chg.length ∧ i = .int .i64 k ∧ Below w3.heap.size w3 wr) (fun i _ => e.chg.length - (intOf i).toNat)
  case atStart => exact ⟨0, Nat.zero_le _, rfl, Below.refl _ _⟩
  case round =>
    obtain ⟨k, hk, rfl, hB⟩ := hrel
    have hBB := HB3.out.trans (hB.mono HB3.out.size)
    have l7 := HR3.out.1.lt
    have l8 := HR3.out.2.lt
    have s7 := hB.size
    obtain ⟨_, _, _, _, a15, a16⟩ := HR3.out.1.on hB
    obtain ⟨_, _, _, _, b15, b16⟩ := HR3.out.2.on hB
    obtain ⟨⟨q7, p7⟩, q8, p8⟩ := Q.out
    rw [q7] at a15
    rw [p7] at b15
    rw [q8] at a16
    rw [p8] at b16
    by_cases hlt : k < e.chg.length
    · obtain ⟨a', c', e', hc⟩ := HC.out.1.on hBB
      rw [q7] at e'
      obtain ⟨rfl, rfl⟩ : ac = a' ∧ cc = c' := by simpa using e'
      obtain ⟨a2, c2, e2, hd⟩ := HC.out.2.on hBB
      rw [p7] at e2
      obtain ⟨rfl, rfl⟩ : bc = a2 ∧ dc = c2 := by simpa using e2
      rcases hc with hc | ⟨b, off, rfl, hc⟩
      · rw [hc] at hlt; simp at hlt
      rcases hd with hd | ⟨b2, off2, rfl, hd⟩
      · rw [hd] at hlt; simp at hlt
      obtain ⟨q1, q3⟩ := hc k hlt
      obtain ⟨q2, q4⟩ := hd k hlt
      obtain ⟨x, hx⟩ : ∃ x, x = (e.chg.getD k (0, 0)).1 := ⟨_, rfl⟩
      obtain ⟨y, hy⟩ : ∃ y, y = (e.chg.getD k (0, 0)).2 := ⟨_, rfl⟩
      rw [← hx] at q1 q2
      rw [← hy] at q3 q4
      clear hx hy hc hd e' e2 q7 p7 q8 p8 Q HC HA HB3 HR3 hBB
      go_wp2_with fail
      go_quiet (fail)
      go_wp2
      go_roundw
      case rel => exact ⟨k + 1, by omega, by go_num, below_drewN hB _⟩
      case measure => simp [intOf]; omega
    · clear q7 p7 q8 p8 HC
      go_wp2
      have HB4 := Lib.hid hBB
      have HR4 := Lib.hid (And.intro (HR3.out.1.on hB) (HR3.out.2.on hB))
      clear a15 a16 b15 b16 l7 l8 s7 hBB hB HR3 HB3
      go_loopw [9] (fun i wq => ∃ k : Nat, k ≤ e.alm.length ∧ i = .int .i64 k ∧ Below wr.heap.size wr wq) (fun i _ => e.alm.length - (intOf i).toNat)
      case atStart => exact ⟨0, Nat.zero_le _, rfl, Below.refl _ _⟩
      case round =>
        obtain ⟨m, hm, rfl, hB⟩ := hrel
        have hBB := HB4.out.trans (hB.mono HB4.out.size)
        have l7 := HR4.out.1.lt
        have l8 := HR4.out.2.lt
        have s7 := hB.size
        obtain ⟨_, _, _, _, _, a16⟩ := HR4.out.1.on hB
        obtain ⟨_, _, _, _, _, b16⟩ := HR4.out.2.on hB
        obtain ⟨_, q8, p8⟩ := Q.out
        rw [q8] at a16
        rw [p8] at b16
        by_cases hlt2 : m < e.alm.length
        · obtain ⟨a', c', e', hc⟩ := HA.out.1.on hBB
          rw [q8] at e'
          obtain ⟨rfl, rfl⟩ : aa = a' ∧ ca = c' := by simpa using e'
          obtain ⟨a2, c2, e2, hd⟩ := HA.out.2.on hBB
          rw [p8] at e2
          obtain ⟨rfl, rfl⟩ : ba = a2 ∧ da = c2 := by simpa using e2
          rcases hc with hc | ⟨b, off, rfl, hc⟩
          · rw [hc] at hlt2; simp at hlt2
          rcases hd with hd | ⟨b2, off2, rfl, hd⟩
          · rw [hd] at hlt2; simp at hlt2
          obtain ⟨q1, q3, q5, q7⟩ := hc m hlt2
          obtain ⟨q2, q4, q6, q8'⟩ := hd m hlt2
          obtain ⟨x, hx⟩ : ∃ x, x = (e.alm.getD m (0, false, 0, 0)).1 := ⟨_, rfl⟩
          obtain ⟨y, hy⟩ : ∃ y, y = (e.alm.getD m (0, false, 0, 0)).2.1 := ⟨_, rfl⟩
          obtain ⟨x2, hx2⟩ : ∃ x, x = (e.alm.getD m (0, false, 0, 0)).2.2.1 := ⟨_, rfl⟩
          obtain ⟨y2, hy2⟩ : ∃ x, x = (e.alm.getD m (0, false, 0, 0)).2.2.2 := ⟨_, rfl⟩
          rw [← hx] at q1 q2
          rw [← hy] at q3 q4
          rw [← hx2] at q5 q6
          rw [← hy2] at q7 q8'
          clear hx hy hx2 hy2 hc hd e' e2 q8 p8 Q HA HB4 HR4 hBB
          go_wp2_with fail
          go_quiet (fail)
          go_wp2
          go_roundw
          case rel => exact ⟨m + 1, by omega, by go_num, below_drewN hB _⟩
          case measure => simp [intOf]; omega
        · clear q8 p8 HA
          go_wp2
          go_ret
          exact ⟨rfl, hBB⟩
end Go.Proofs.YtpplfcfhjpfckaaGreatDoor
