/-
  What is proved here: the walk of chimelaw1.RuleTells: it returns true for every rule and every text that is not too long, and turns nothing that was there; tables and words are asked as premises.
-/
import Derived.Test.YtoafdacgekmomabGreatDoorRSame
import Derived.Test.YtoafdacgekmomabGreatDoorRBack
import Derived.Test.YtoafdacgekmomabGreatDoorRefReadR
import Derived.Test.YtoafdacgekmomabGreatDoorRefShowR
import Derived.Test.YtoafdacgekmomabGreatDoorQL
import Derived.Deep.CutRange
namespace Go.Proofs.YtoafdacgekmomabGreatDoor
open Go.RowKit Cal Txt

/-- The rule of nothing. -/
def rz : Rl := ⟨0, 0, 0, 0, [], [], [], []⟩
/-- The rule that is told of a text. -/
def rq (l : List UInt8) : Rl := match rr l with
  | none => rz
  | some r => if rf r = 0 then r else rz
theorem rq_bad {l : List UInt8} (h : ¬ pe l = 0) : rq l = rz := by
  unfold pe at h; unfold rq
  split
  · rfl
  · rename_i r e
    rw [e] at h
    rw [if_neg h]
theorem rq_good {l : List UInt8} {r : Rl} (h : rr l = some r) (hf : rf r = 0) : rq l = r ∧ pe l = 0 := by
  unfold rq pe; rw [h]; exact ⟨if_pos hf, hf⟩
theorem rq_ok2 (l : List UInt8) : ok2 (rq l) = true := by
  by_cases h : pe l = 0
  · unfold pe at h; unfold rq
    split at h
    · cases h
    · rename_i r e
      rw [e]
      show ok2 (if rf r = 0 then r else rz) = true
      rw [if_pos h]; exact (rf_good h).2.2.1
  · rw [rq_bad h]; rfl
theorem rz_in (w : World) : RuleIn w (.agg #[.int .i64 0, .int .i64 0, .int .i64 0, .int .i64 0, .slice none 0 0, .slice none 0 0, .slice none 0 0, .slice none 0 0]) rz :=
  ⟨_, _, _, _, rfl, ⟨none, 0, rfl, Or.inl rfl⟩, ⟨none, 0, rfl, Or.inl rfl⟩, ⟨none, 0, rfl, Or.inl rfl⟩, none, 0, rfl, Or.inl rfl⟩
theorem RuleIn.form {w : World} {v : Value} {r : Rl} (h : RuleIn w v r) : ∃ am ad aw ap cm cd cw cp, v = .agg #[.int .i64 r.freq, .int .i64 r.every, .int .i64 r.count, .int .i64 r.till, .slice am r.months.length cm, .slice ad r.days.length cd, .slice aw r.weeks.length cw, .slice ap r.pick.length cp] := by
  obtain ⟨vm, vd, vw, vp, rfl, m1, d1, k1, p1⟩ := h
  obtain ⟨am, cm, rfl, _⟩ := m1
  obtain ⟨ad, cd, rfl, _⟩ := d1
  obtain ⟨aw, cw, rfl, _⟩ := k1
  obtain ⟨ap, cp, rfl, _⟩ := p1
  exact ⟨am, ad, aw, ap, cm, cd, cw, cp, rfl⟩
theorem read_form {w w' : World} {l : List UInt8} {e : Ending} (h : ReadA w l e w') : Below w.heap.size w w' ∧ ∃ v, e = .returned (.tuple #[v, .int .i64 (pe l)]) ∧ RuleIn w' v (rq l) := by
  obtain ⟨hb, ⟨hp, he⟩ | ⟨r, v, hr, hf, he, hv⟩⟩ := h
  · exact ⟨hb, _, he, by rw [rq_bad hp]; exact rz_in w'⟩
  · obtain ⟨e1, e2⟩ := rq_good hr hf
    exact ⟨hb, v, by rw [he, e2], by rw [e1]; exact hv⟩
theorem parse_form {w w' : World} {l : List UInt8} {e : Ending} (h : ParseA w l e w') : Below w.heap.size w w' ∧ ∃ v, e = .returned (.tuple #[v, fault (pe l)]) ∧ RuleIn w' v (rq l) := by
  obtain ⟨hb, ⟨hp, he⟩ | ⟨r, v, hr, hf, he, hv⟩⟩ := h
  · exact ⟨hb, _, by rw [he, fault_some hp], by rw [rq_bad hp]; exact rz_in w'⟩
  · obtain ⟨e1, e2⟩ := rq_good hr hf
    exact ⟨hb, v, by rw [he, e2, fault_zero rfl], by rw [e1]; exact hv⟩
set_option maxRecDepth 100000 in
set_option maxHeartbeats 8000000 in
theorem rtells_walk (r : Rl) (am ad aw ap : Option Addr) (cm cd cw cp : Nat) (s : ByteArray) (w : World) (hK : KeepP w) (hG : ErrTy w) (hs : s.size ≤ 2000000)
    (hm : Ints w (.slice am r.months.length cm) r.months) (hd : Ints w (.slice ad r.days.length cd) r.days) (hw : Nths w (.slice aw r.weeks.length cw) r.weeks) (hp : Ints w (.slice ap r.pick.length cp) r.pick) :
    Calls Tryz.prog 3 #[.agg #[.int .i64 r.freq, .int .i64 r.every, .int .i64 r.count, .int .i64 r.till, .slice am r.months.length cm, .slice ad r.days.length cd, .slice aw r.weeks.length cw, .slice ap r.pick.length cp], .string s] w fun e w' => e = .returned (.bool true) ∧ Below w.heap.size w w' := by
  have hv : RuleIn w (.agg #[.int .i64 r.freq, .int .i64 r.every, .int .i64 r.count, .int .i64 r.till, .slice am r.months.length cm, .slice ad r.days.length cd, .slice aw r.weeks.length cw, .slice ap r.pick.length cp]) r := ⟨_, _, _, _, rfl, hm, hd, hw, hp⟩
  have HV := Lib.hid (fun W (q : Below w.heap.size w W) => hv.on q)
  have HL := Lib.hid (fun W (q : Below w.heap.size w W) => And.intro (hm.on q) (And.intro (hd.on q) (And.intro (hw.on q) (hp.on q))))
  have hKW : Hid (∀ W, Below w.heap.size w W → KeepP W) := Lib.hid (fun W q => hK.below q)
  have hGW : Hid (∀ W, Below w.heap.size w W → ErrTy W) := Lib.hid (fun W q => hG.below q)
  have B0 : Below w.heap.size w (w.alloc (.cells #[.int .i64 r.freq, .int .i64 r.every, .int .i64 r.count, .int .i64 r.till, .slice am r.months.length cm, .slice ad r.days.length cd, .slice aw r.weeks.length cw, .slice ap r.pick.length cp] 25)) := (Below.refl _ _).alloc (Nat.le_refl _) _
  have HR := Lib.hid (RBox.new w r.freq r.every r.count r.till (.slice am r.months.length cm) (.slice ad r.days.length cd) (.slice aw r.weeks.length cw) (.slice ap r.pick.length cp) 25)
  have HB := Lib.hid B0
  clear B0 hv hK hG hm hd hw hp
  go_enter Tryz.func3, Tryz.ntmps3
  go_wp2_with fail
  generalize w.alloc (.cells #[.int .i64 r.freq, .int .i64 r.every, .int .i64 r.count, .int .i64 r.till, .slice am r.months.length cm, .slice ad r.days.length cd, .slice aw r.weeks.length cw, .slice ap r.pick.length cp] 25) = W0 at HR HB ⊢
  refine (refRule_any r _ _ _ _ _ (HL.out _ HB.out).1 (HL.out _ HB.out).2.1 (HL.out _ HB.out).2.2.1 (HL.out _ HB.out).2.2.2).mono ?_
  rintro e w1 ⟨rfl, hx⟩
  have B1 := Lib.hid (HB.out.trans (hx.mono HB.out.size))
  have R1 := Lib.hid (HR.out.on hx)
  clear hx HB HR
  obtain ⟨q0, q1, q2, q3, q4, q5, q6, q7⟩ := R1.out
  have ql := R1.out.lt
  go_wp2_with fail
  clear q0 q1 q2 q3 q4 q5 q6 q7 ql
  refine (check_any r _ _ (HV.out _ B1.out)).mono ?_
  rintro e w2 ⟨rfl, hx⟩
  have B2 := Lib.hid (B1.out.trans (hx.mono B1.out.size))
  have R2 := Lib.hid (R1.out.on hx)
  clear hx B1 R1
  go_wp2_with fail
  refine (errT_fault (rf r) _ (hGW.out _ B2.out)).mono ?_
  rintro e w3 ⟨rfl, hx⟩
  have B3 := Lib.hid (B2.out.trans (hx.mono B2.out.size))
  have R3 := Lib.hid (R2.out.on hx)
  clear hx B2 R2
  have HZ : Hid (∃ t : List UInt8, t = if rf r = 0 then rt r else []) := Lib.hid ⟨_, rfl⟩
  obtain ⟨t, ht⟩ := HZ.out
  have HT := Lib.hid ht
  clear HZ ht
  go_upto_if 22 with fail
  go_cut [7] from 15 to 63 (fun s7 wx => s7 = .string (tb t) ∧ Below w.heap.size w wx ∧ RBox wx w.heap.size r.freq r.every r.count r.till (.slice am r.months.length cm) (.slice ad r.days.length cd) (.slice aw r.weeks.length cw) (.slice ap r.pick.length cp))
  case first =>
    rcases hz : (rf r == 0) with _ | _
    · have hz' : ¬ rf r = 0 := by simpa using hz
      have E := Lib.hid (HT.out.trans (if_neg hz'))
      clear hz'
      go_wp2_with fail
      go_meet
      case rel => exact ⟨by rw [E.out]; rfl, B3.out, R3.out⟩
    · have hz' : rf r = 0 := by simpa using hz
      have E := Lib.hid (HT.out.trans (if_pos hz'))
      have KS := Lib.hid (showRule_walk r am ad aw ap cm cd cw cp _ (HL.out _ B3.out).1 (HL.out _ B3.out).2.1 (HL.out _ B3.out).2.2.1 (HL.out _ B3.out).2.2.2 hz')
      clear hz'
      obtain ⟨q0, q1, q2, q3, q4, q5, q6, q7⟩ := R3.out
      have ql := R3.out.lt
      go_wp2_with fail
      clear q0 q1 q2 q3 q4 q5 q6 q7 ql
      refine KS.out.mono ?_
      rintro e w4 ⟨rfl, hx⟩
      have B4 := Lib.hid (B3.out.trans (hx.mono B3.out.size))
      have R4 := Lib.hid (R3.out.on hx)
      clear hx
      go_wp2_with fail
      go_meet
      case rel => exact ⟨by rw [E.out], B4.out, R4.out⟩
  case rest =>
  obtain ⟨rfl, hB4, hR4⟩ := hcut
  have B4 := Lib.hid hB4
  have R4 := Lib.hid hR4
  have KP := Lib.hid (KeepP.print (hKW.out _ B4.out) (HV.out _ B4.out))
  rw [← HT.out] at KP
  obtain ⟨q0, q1, q2, q3, q4, q5, q6, q7⟩ := R4.out
  have ql := R4.out.lt
  clear hB4 hR4 B3 R3
  go_wp2_with fail
  clear q0 q1 q2 q3 q4 q5 q6 q7 ql
  refine KP.out.mono ?_
  rintro e w5 ⟨rfl, hx⟩
  have B5 := Lib.hid (B4.out.trans (hx.mono B4.out.size))
  clear hx B4 R4 KP
  go_wp2_with fail
  refine (errT_fault (rf r) _ (hGW.out _ B5.out)).mono ?_
  rintro e w6 ⟨rfl, hx⟩
  have B6 := Lib.hid (B5.out.trans (hx.mono B5.out.size))
  clear hx B5
  go_wp2_with fail
  refine (readRule_any s _ hs).mono ?_
  intro e w7 hra
  obtain ⟨hx, vx, rfl, hvx⟩ := read_form hra
  have O2 := Lib.hid (rq_ok2 s.data.toList)
  obtain ⟨E, hE⟩ : ∃ E, E = pe s.data.toList := ⟨_, rfl⟩
  obtain ⟨R, hR⟩ : ∃ R, R = rq s.data.toList := ⟨_, rfl⟩
  have PF : Hid (∀ W W' e, ParseA W s.data.toList e W' → Below W.heap.size W W' ∧ ∃ v, e = .returned (.tuple #[v, fault E]) ∧ RuleIn W' v R) := Lib.hid (fun W W' e h => by rw [hE, hR]; exact parse_form h)
  rw [← hR] at hvx O2
  rw [← hE]
  clear hR hE
  have HX := Lib.hid (fun W (q : Below w7.heap.size w7 W) => hvx.on q)
  obtain ⟨xm, xd, xk, xp, ym, yd, yk, yp, rfl⟩ := hvx.form
  have B7' := B6.out.trans (hx.mono B6.out.size)
  have A7 : Below w7.heap.size w7 (w7.alloc (.cells #[.int .i64 R.freq, .int .i64 R.every, .int .i64 R.count, .int .i64 R.till, .slice xm R.months.length ym, .slice xd R.days.length yd, .slice xk R.weeks.length yk, .slice xp R.pick.length yp] 25)) := (Below.refl _ _).alloc (Nat.le_refl _) _
  have B7 := Lib.hid (B7'.trans (A7.mono B7'.size))
  have E7 := Lib.hid A7
  have R7 := Lib.hid (RBox.new w7 R.freq R.every R.count R.till (.slice xm R.months.length ym) (.slice xd R.days.length yd) (.slice xk R.weeks.length yk) (.slice xp R.pick.length yp) 25)
  have KP := Lib.hid (parse_any s _ (hKW.out _ B7.out) hs)
  clear hx B6 hra hvx A7 B7'
  go_wp2_with fail
  generalize w7.alloc (.cells #[.int .i64 R.freq, .int .i64 R.every, .int .i64 R.count, .int .i64 R.till, .slice xm R.months.length ym, .slice xd R.days.length yd, .slice xk R.weeks.length yk, .slice xp R.pick.length yp] 25) = W7 at B7 E7 R7 KP ⊢
  refine KP.out.mono ?_
  intro e w8 hpa
  obtain ⟨hx, vy, rfl, hvy⟩ := PF.out _ _ _ hpa
  have HY := Lib.hid (fun W (q : Below w8.heap.size w8 W) => hvy.on q)
  obtain ⟨um, ud, uk, up, vm, vd, vk, vp, rfl⟩ := hvy.form
  have B8' := B7.out.trans (hx.mono B7.out.size)
  have A8 : Below w8.heap.size w8 (w8.alloc (.cells #[.int .i64 R.freq, .int .i64 R.every, .int .i64 R.count, .int .i64 R.till, .slice um R.months.length vm, .slice ud R.days.length vd, .slice uk R.weeks.length vk, .slice up R.pick.length vp] 25)) := (Below.refl _ _).alloc (Nat.le_refl _) _
  have B8 := Lib.hid (B8'.trans (A8.mono B8'.size))
  have E8x' := E7.out.trans (hx.mono E7.out.size)
  have E8x := Lib.hid (E8x'.trans (A8.mono E8x'.size))
  have E8 := Lib.hid A8
  have R8x := Lib.hid ((R7.out.on hx).on A8)
  have R8 := Lib.hid (RBox.new w8 R.freq R.every R.count R.till (.slice um R.months.length vm) (.slice ud R.days.length vd) (.slice uk R.weeks.length vk) (.slice up R.pick.length vp) 25)
  have KE := Lib.hid (errT_fault E _ (hGW.out _ B8.out))
  clear hx B7 E7 R7 KP hpa hvy A8 B8' E8x' PF
  go_wp2_with fail
  generalize w8.alloc (.cells #[.int .i64 R.freq, .int .i64 R.every, .int .i64 R.count, .int .i64 R.till, .slice um R.months.length vm, .slice ud R.days.length vd, .slice uk R.weeks.length vk, .slice up R.pick.length vp] 25) = W8 at B8 E8x E8 R8x R8 KE ⊢
  refine KE.out.mono ?_
  rintro e w9 ⟨rfl, hx⟩
  have B9 := Lib.hid (B8.out.trans (hx.mono B8.out.size))
  have KS := Lib.hid (sameRule R _ _ w9 (HY.out _ (E8.out.trans (hx.mono E8.out.size))) (HX.out _ (E8x.out.trans (hx.mono E8x.out.size))) O2.out)
  have R9x := R8x.out.on hx
  have R9 := R8.out.on hx
  obtain ⟨x0, x1, x2, x3, x4, x5, x6, x7⟩ := R9x
  obtain ⟨y0, y1, y2, y3, y4, y5, y6, y7⟩ := R9
  clear hx B8 E8x E8 R8x R8 KE HX HY O2
  go_wp2_with fail
  clear x0 x1 x2 x3 x4 x5 x6 x7 y0 y1 y2 y3 y4 y5 y6 y7
  refine KS.out.mono ?_
  rintro e w10 ⟨rfl, hx⟩
  have B10 := Lib.hid (B9.out.trans (hx.mono B9.out.size))
  clear hx KS B9
  go_wp2
  go_ret
  exact ⟨ret_bool (by simp), B10.out⟩
/-- The law, of any rule in memory. -/
theorem rtells (r : Rl) (v : Value) (s : ByteArray) (w : World) (hv : RuleIn w v r) (hK : KeepP w) (hG : ErrTy w) (hs : s.size ≤ 2000000) :
    Calls Tryz.prog 3 #[v, .string s] w fun e w' => e = .returned (.bool true) ∧ Below w.heap.size w w' := by
  obtain ⟨vm, vd, vw, vp, rfl, hm, hd, hw, hp⟩ := hv
  obtain ⟨am, cm, rfl, _⟩ := id hm
  obtain ⟨ad, cd, rfl, _⟩ := id hd
  obtain ⟨aw, cw, rfl, _⟩ := id hw
  obtain ⟨ap, cp, rfl, _⟩ := id hp
  exact rtells_walk r am ad aw ap cm cd cw cp s w hK hG hs hm hd hw hp
end Go.Proofs.YtoafdacgekmomabGreatDoor
