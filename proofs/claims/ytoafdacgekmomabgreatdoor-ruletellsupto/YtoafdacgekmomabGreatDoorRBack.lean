/-
  What is proved here: the walk of chimelaw1.RuleBack: it returns true for every rule and every text that is not too long, and turns nothing that was there; tables and words are asked as premises.
-/
import Derived.Test.YtoafdacgekmomabGreatDoorRSame
namespace Go.Proofs.YtoafdacgekmomabGreatDoor
open Go.RowKit Cal Txt

/-- The rule of the law's fact. -/
def rc : Rl := ⟨3, 2, 0, 0, [], [], [(3, 2), (-1, 5)], [-1]⟩
theorem dd (n : Nat) (h : n < 10) : Lib.decDigits n = [UInt8.ofNat (48 + n)] := by rw [Lib.decDigits, dif_pos h]
theorem rc_text : rt rc = [109, 111, 110, 116, 104, 108, 121, 32, 101, 118, 101, 114, 121, 32, 50, 32, 111, 110, 32, 51, 116, 117, 44, 45, 49, 102, 114, 32, 112, 105, 99, 107, 32, 45, 49] := by
  have n2 : nt 2 = [50] := by unfold nt; rw [if_neg (by decide)]; exact dd 2 (by decide)
  have n3 : nt 3 = [51] := by unfold nt; rw [if_neg (by decide)]; exact dd 3 (by decide)
  have n1 : nt (-1) = [45, 49] := by unfold nt; rw [if_pos (by decide)]; exact congrArg (45 :: ·) (dd 1 (by decide))
  rw [← tk_rt rc rfl]
  have p0 : pt rc 0 = [50] := by show unt 2 1 = _; unfold unt; rw [if_neg (by decide), n2]
  have p5 : pt rc 5 = [51, 116, 117, 44, 45, 49, 102, 114] := by
    show joinBy 44 [wt (3, 2), wt (-1, 5)] = _
    have w1 : wt (3, 2) = [51, 116, 117] := by show (if (3 : Int) = 0 then [] else nt 3) ++ dn 2 = _; rw [if_neg (by decide), n3]; rfl
    have w2 : wt (-1, 5) = [45, 49, 102, 114] := by show (if (-1 : Int) = 0 then [] else nt (-1)) ++ dn 5 = _; rw [if_neg (by decide), n1]; rfl
    rw [w1, w2]; rfl
  have p6 : pt rc 6 = [45, 49] := n1
  rw [← show tk rc 6 ++ (if pt rc 6 = [] then [] else 32 :: kw 6 ++ 32 :: pt rc 6) = tk rc 7 from rfl, p6]
  rw [← show tk rc 5 ++ (if pt rc 5 = [] then [] else 32 :: kw 5 ++ 32 :: pt rc 5) = tk rc 6 from rfl, p5]
  rw [tk_same (show pt rc 4 = [] from rfl), tk_same (show pt rc 3 = [] from rfl), tk_same (show pt rc 2 = [] from rfl), tk_same (show pt rc 1 = [] from rfl)]
  rw [← show tk rc 0 ++ (if pt rc 0 = [] then [] else 32 :: kw 0 ++ 32 :: pt rc 0) = tk rc 1 from rfl, p0]
  rfl
/-- What has nothing wrong can be written. -/
theorem syn_good {r : Rl} (h : rf r = 0) : Syn r := by
  obtain ⟨o1, o2, o3, o4, o5, o6⟩ := rf_good h
  obtain ⟨⟨a1, a2⟩, ⟨b1, b2⟩, ⟨c1, c2⟩, d1, d2⟩ := of_decide_eq_true o1
  obtain ⟨⟨⟨g1, g2⟩, g3⟩, g4⟩ : ((r.months.all monP = true ∧ r.days.all plaP = true) ∧ r.weeks.all wkP = true) ∧ r.pick.all plaP = true := by simpa [itemsB] using o4
  refine ⟨⟨a1, a2⟩, by omega, by omega, by omega, fun n hn => ?_, fun n hn => ?_, fun x hx => ?_, fun n hn => ?_⟩
  · have := of_decide_eq_true (List.all_eq_true.1 g1 n hn); omega
  · have := of_decide_eq_true (List.all_eq_true.1 g2 n hn); omega
  · have := of_decide_eq_true (List.all_eq_true.1 g3 x hx); exact ⟨by omega, this.1, this.2.1⟩
  · have := of_decide_eq_true (List.all_eq_true.1 g4 n hn); omega
theorem rc_good : rf rc = 0 := by decide
theorem rc_read : rr [109, 111, 110, 116, 104, 108, 121, 32, 101, 118, 101, 114, 121, 32, 50, 32, 111, 110, 32, 51, 116, 117, 44, 45, 49, 102, 114, 32, 112, 105, 99, 107, 32, 45, 49] = some rc := by
  rw [← rc_text]; exact rr_rt rc (syn_good rc_good)
theorem rt_size {r : Rl} (h : rf r = 0) : (tb (rt r)).size ≤ 2000000 := by
  obtain ⟨o1, o2, o3, o4, o5, o6⟩ := rf_good h
  have hwk : wkB r.weeks = true := by rw [itemsB_eq] at o4; simp at o4; exact o4.2
  have := tk_len o1 o3 o4 7
  rw [tb_size, ← tk_rt r hwk]
  omega
theorem KeepP.print {W : World} (h : KeepP W) {r : Rl} {v : Value} (hv : RuleIn W v r) :
    Calls Tryz.prog 9 #[v] W fun e w' => e = .returned (.tuple #[.string (tb (if rf r = 0 then rt r else [])), fault (rf r)]) ∧ Below W.heap.size W w' :=
  rprint_any r v W hv h.tab h.pow h.frw h.paw h.wdw
set_option maxRecDepth 100000 in
set_option maxHeartbeats 8000000 in
theorem rback_walk (r : Rl) (am ad aw ap : Option Addr) (cm cd cw cp : Nat) (s : ByteArray) (w : World) (hK : KeepP w) (hs : s.size ≤ 2000000)
    (hm : Ints w (.slice am r.months.length cm) r.months) (hd : Ints w (.slice ad r.days.length cd) r.days) (hw : Nths w (.slice aw r.weeks.length cw) r.weeks) (hp : Ints w (.slice ap r.pick.length cp) r.pick) :
    Calls Tryz.prog 4 #[.agg #[.int .i64 r.freq, .int .i64 r.every, .int .i64 r.count, .int .i64 r.till, .slice am r.months.length cm, .slice ad r.days.length cd, .slice aw r.weeks.length cw, .slice ap r.pick.length cp], .string s] w fun e w' => e = .returned (.bool true) ∧ Below w.heap.size w w' := by
  have hv : RuleIn w (.agg #[.int .i64 r.freq, .int .i64 r.every, .int .i64 r.count, .int .i64 r.till, .slice am r.months.length cm, .slice ad r.days.length cd, .slice aw r.weeks.length cw, .slice ap r.pick.length cp]) r := ⟨_, _, _, _, rfl, hm, hd, hw, hp⟩
  have HV := Lib.hid (fun W (q : Below w.heap.size w W) => hv.on q)
  have hKW : Hid (∀ W, Below w.heap.size w W → KeepP W) := Lib.hid (fun W q => hK.below q)
  have B0 : Below w.heap.size w (w.alloc (.cells #[.int .i64 r.freq, .int .i64 r.every, .int .i64 r.count, .int .i64 r.till, .slice am r.months.length cm, .slice ad r.days.length cd, .slice aw r.weeks.length cw, .slice ap r.pick.length cp] 25)) := (Below.refl _ _).alloc (Nat.le_refl _) _
  have HR := Lib.hid (RBox.new w r.freq r.every r.count r.till (.slice am r.months.length cm) (.slice ad r.days.length cd) (.slice aw r.weeks.length cw) (.slice ap r.pick.length cp) 25)
  have HB := Lib.hid B0
  have KF := Lib.hid (parse_any ⟨#[109, 111, 110, 116, 104, 108, 121, 32, 101, 118, 101, 114, 121, 32, 50, 32, 111, 110, 32, 51, 116, 117, 44, 45, 49, 102, 114, 32, 112, 105, 99, 107, 32, 45, 49]⟩ _ (hK.below B0) (by decide))
  clear B0 hv hK hm hd hw hp
  go_enter Tryz.func4, Tryz.ntmps4
  go_wp2_with fail
  refine KF.out.mono ?_
  rintro e w1 ⟨hx, hv⟩
  rcases hv with ⟨hp, _⟩ | ⟨r1, v1, hr1, hf1, rfl, hv1⟩
  · exact absurd (show pe (⟨#[109, 111, 110, 116, 104, 108, 121, 32, 101, 118, 101, 114, 121, 32, 50, 32, 111, 110, 32, 51, 116, 117, 44, 45, 49, 102, 114, 32, 112, 105, 99, 107, 32, 45, 49]⟩ : ByteArray).data.toList = 0 from by rw [pe_some rc_read]; exact rc_good) hp
  obtain rfl : r1 = rc := Option.some.inj (hr1.symm.trans rc_read)
  obtain ⟨um, ud, uw, up, rfl, m1, d1, k1, p1⟩ := hv1
  obtain ⟨bm, em, rfl, _⟩ := m1
  obtain ⟨bd, ed, rfl, _⟩ := d1
  obtain ⟨bk, ek, rfl, hk⟩ := k1
  obtain ⟨bp, ep, rfl, _⟩ := p1
  rcases hk with hk | ⟨g, off, rfl, hk⟩
  · exact absurd hk (by decide)
  have cg : w1.cell? ⟨g, off, none⟩ = some (.int .i64 3) := (hk 0 (by decide)).1
  have gl : g < w1.heap.size := cell_lt cg
  have HB1 := Lib.hid (HB.out.trans (hx.mono HB.out.size))
  have HR1 := Lib.hid (HR.out.on hx)
  clear hk hr1 hf1 hx HB HR KF
  have A1 : Below w1.heap.size w1 (w1.alloc (.cells #[.int .i64 3, .int .i64 2, .int .i64 0, .int .i64 0, .slice bm 0 em, .slice bd 0 ed, .slice (some ⟨g, off, none⟩) 2 ek, .slice bp 1 ep] 25)) := (Below.refl _ _).alloc (Nat.le_refl _) _
  have HR2 := HR1.out.on A1
  have BB := Lib.hid (HB1.out.trans (A1.mono HB1.out.size))
  have KP := Lib.hid (KeepP.print (hKW.out _ BB.out) (HV.out _ BB.out))
  obtain ⟨q0, q1, q2, q3, q4, q5, q6, q7⟩ := HR1.out
  have ql := HR1.out.lt
  clear A1 HB1 HR1
  dsimp only [rc, List.length]
  go_wp2_with fail
  generalize w1.alloc (.cells #[.int .i64 3, .int .i64 2, .int .i64 0, .int .i64 0, .slice bm 0 em, .slice bd 0 ed, .slice (some ⟨g, off, none⟩) 2 ek, .slice bp 1 ep] 25) = W1 at HR2 BB KP ⊢
  clear q0 q1 q2 q3 q4 q5 q6 q7 ql cg gl
  by_cases hz : rf r = 0
  · have HZ := Lib.hid hz
    have O2 := Lib.hid (rf_good hz).2.2.1
    have RZ := Lib.hid (rt_size hz)
    have RD : Hid (rr (tb (rt r)).data.toList = some r) := Lib.hid (by rw [tb_data]; exact rr_rt r (syn_good hz))
    rw [hz, if_pos rfl, fault_zero rfl] at KP
    clear hz
    have HR3 := Lib.hid HR2
    clear HR2
    refine KP.out.mono ?_
    rintro e w2 ⟨rfl, hx⟩
    have B2 := Lib.hid (BB.out.trans (hx.mono BB.out.size))
    have HR4 := Lib.hid (HR3.out.on hx)
    clear hx BB HR3 KP
    go_wp2_with fail
    refine (parse_any (tb (rt r)) _ (hKW.out _ B2.out) RZ.out).mono ?_
    rintro e w3 ⟨hx, hv⟩
    rcases hv with ⟨hp, _⟩ | ⟨r3, v3, hr3, hf3, rfl, hv3⟩
    · exact absurd (show pe (tb (rt r)).data.toList = 0 from by rw [pe_some RD.out]; exact HZ.out) hp
    obtain rfl : r3 = r := Option.some.inj (hr3.symm.trans RD.out)
    have B3 := Lib.hid (B2.out.trans (hx.mono B2.out.size))
    have HR5 := Lib.hid (HR4.out.on hx)
    have HV3 := Lib.hid hv3
    obtain ⟨um, ud, uw, up, rfl, m1, d1, k1, p1⟩ := hv3
    obtain ⟨xm, ym, rfl, _⟩ := m1
    obtain ⟨xd, yd, rfl, _⟩ := d1
    obtain ⟨xk, yk, rfl, _⟩ := k1
    obtain ⟨xp, yp, rfl, _⟩ := p1
    clear hx hr3 hf3 B2 HR4 RD RZ
    have A3 : Below w3.heap.size w3 (w3.alloc (.cells #[.int .i64 r3.freq, .int .i64 r3.every, .int .i64 r3.count, .int .i64 r3.till, .slice xm r3.months.length ym, .slice xd r3.days.length yd, .slice xk r3.weeks.length yk, .slice xp r3.pick.length yp] 25)) := (Below.refl _ _).alloc (Nat.le_refl _) _
    have B4 := Lib.hid (B3.out.trans (A3.mono B3.out.size))
    have KS := Lib.hid (sameRule r3 _ _ _ (HV3.out.on A3) (HV.out _ B4.out) O2.out)
    obtain ⟨q0, q1, q2, q3, q4, q5, q6, q7⟩ := HR5.out
    have ql := HR5.out.lt
    clear A3 B3
    go_wp2_with fail
    generalize w3.alloc (.cells #[.int .i64 r3.freq, .int .i64 r3.every, .int .i64 r3.count, .int .i64 r3.till, .slice xm r3.months.length ym, .slice xd r3.days.length yd, .slice xk r3.weeks.length yk, .slice xp r3.pick.length yp] 25) = W3 at B4 KS ⊢
    clear q0 q1 q2 q3 q4 q5 q6 q7 ql HR5
    refine KS.out.mono ?_
    rintro e w4 ⟨rfl, hx⟩
    have BB := Lib.hid (B4.out.trans (hx.mono B4.out.size))
    clear hx B4 KS HV3
    go_wp2_with fail
    refine (parse_any s _ (hKW.out _ BB.out) hs).mono ?_
    rintro e wa ⟨hx, hv⟩
    have BC := Lib.hid (BB.out.trans (hx.mono BB.out.size))
    clear hx BB
    rcases hv with ⟨hp, rfl⟩ | ⟨r2, v2, hr2, hf2, rfl, hv2⟩
    · have hne := hp
      clear hp
      go_wp2
      go_ret
      exact ⟨rfl, BC.out.alloc BC.out.size _⟩
    · have RS := Lib.hid (rt_rr hr2).1
      have HF2 := Lib.hid hf2
      have HV2 := Lib.hid hv2
      obtain ⟨um, ud, uw, up, rfl, m1, d1, k1, p1⟩ := hv2
      obtain ⟨bm, em, rfl, _⟩ := m1
      obtain ⟨bd, ed, rfl, _⟩ := d1
      obtain ⟨bk, ek, rfl, _⟩ := k1
      obtain ⟨bp, ep, rfl, _⟩ := p1
      clear hr2 hf2
      have A2 : Below wa.heap.size wa (wa.alloc (.cells #[.int .i64 r2.freq, .int .i64 r2.every, .int .i64 r2.count, .int .i64 r2.till, .slice bm r2.months.length em, .slice bd r2.days.length ed, .slice bk r2.weeks.length ek, .slice bp r2.pick.length ep] 25)) := (Below.refl _ _).alloc (Nat.le_refl _) _
      have BD := Lib.hid (BC.out.trans (A2.mono BC.out.size))
      have KQ := Lib.hid (KeepP.print (hKW.out _ BD.out) (HV2.out.on A2))
      rw [HF2.out, if_pos rfl, RS.out, fault_zero rfl] at KQ
      clear A2 BC
      go_wp2_with fail
      refine KQ.out.mono ?_
      rintro e wb ⟨rfl, hx⟩
      have BE := BD.out.trans (hx.mono BD.out.size)
      have es : ((tb s.data.toList).toList == s.toList) = true := by rw [Lib.toList_data, Lib.toList_data, tb_data]; simp
      clear hx KQ
      go_wp2
      go_ret
      exact ⟨ret_bool (by simp), BE⟩
  · rw [if_neg hz, fault_some hz] at KP
    have HZ := Lib.hid hz
    clear hz HR2
    refine KP.out.mono ?_
    rintro e w2 ⟨rfl, hx⟩
    have B2 := Lib.hid (BB.out.trans (hx.mono BB.out.size))
    clear hx BB KP
    have BB := B2
    clear B2
    go_wp2_with fail
    refine (parse_any s _ (hKW.out _ BB.out) hs).mono ?_
    rintro e wa ⟨hx, hv⟩
    have BC := Lib.hid (BB.out.trans (hx.mono BB.out.size))
    clear hx BB
    rcases hv with ⟨hp, rfl⟩ | ⟨r2, v2, hr2, hf2, rfl, hv2⟩
    · have hne := hp
      clear hp
      go_wp2
      go_ret
      exact ⟨rfl, BC.out.alloc BC.out.size _⟩
    · have RS := Lib.hid (rt_rr hr2).1
      have HF2 := Lib.hid hf2
      have HV2 := Lib.hid hv2
      obtain ⟨um, ud, uw, up, rfl, m1, d1, k1, p1⟩ := hv2
      obtain ⟨bm, em, rfl, _⟩ := m1
      obtain ⟨bd, ed, rfl, _⟩ := d1
      obtain ⟨bk, ek, rfl, _⟩ := k1
      obtain ⟨bp, ep, rfl, _⟩ := p1
      clear hr2 hf2
      have A2 : Below wa.heap.size wa (wa.alloc (.cells #[.int .i64 r2.freq, .int .i64 r2.every, .int .i64 r2.count, .int .i64 r2.till, .slice bm r2.months.length em, .slice bd r2.days.length ed, .slice bk r2.weeks.length ek, .slice bp r2.pick.length ep] 25)) := (Below.refl _ _).alloc (Nat.le_refl _) _
      have BD := Lib.hid (BC.out.trans (A2.mono BC.out.size))
      have KQ := Lib.hid (KeepP.print (hKW.out _ BD.out) (HV2.out.on A2))
      rw [HF2.out, if_pos rfl, RS.out, fault_zero rfl] at KQ
      clear A2 BC
      go_wp2_with fail
      refine KQ.out.mono ?_
      rintro e wb ⟨rfl, hx⟩
      have BE := BD.out.trans (hx.mono BD.out.size)
      have es : ((tb s.data.toList).toList == s.toList) = true := by rw [Lib.toList_data, Lib.toList_data, tb_data]; simp
      clear hx KQ
      go_wp2
      go_ret
      exact ⟨ret_bool (by simp), BE⟩
/-- The law, of any rule in memory. -/
theorem rback (r : Rl) (v : Value) (s : ByteArray) (w : World) (hv : RuleIn w v r) (hK : KeepP w) (hs : s.size ≤ 2000000) :
    Calls Tryz.prog 4 #[v, .string s] w fun e w' => e = .returned (.bool true) ∧ Below w.heap.size w w' := by
  obtain ⟨vm, vd, vw, vp, rfl, hm, hd, hw, hp⟩ := hv
  obtain ⟨am, cm, rfl, _⟩ := id hm
  obtain ⟨ad, cd, rfl, _⟩ := id hd
  obtain ⟨aw, cw, rfl, _⟩ := id hw
  obtain ⟨ap, cp, rfl, _⟩ := id hp
  exact rback_walk r am ad aw ap cm cd cw cp s w hK hs hm hd hw hp
end Go.Proofs.YtoafdacgekmomabGreatDoor
