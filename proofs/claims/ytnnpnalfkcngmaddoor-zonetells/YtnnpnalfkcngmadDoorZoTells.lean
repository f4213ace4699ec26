/-
  What is proved here: the walk of chimelaw1.ZoneTells: it returns true for every zone and two numbers, and turns nothing that was there; that the program's own type of errors is the one that is listed is asked as a premise.
-/
import Derived.Test.YtnnpnalfkcngmadDoorZoRef2
import Derived.Test.YtnnpnalfkcngmadDoorErrT
import Derived.Test.YtnnpnalfkcngmadDoorSmInts
namespace Go.Proofs.YtnnpnalfkcngmadDoor
open Go.RowKit Cal Txt Zo

theorem errT_no (f : Int) (w : World) (hg : ErrTy w) (h : ¬ f = 0) : Calls Tryd.prog 9 #[.iface 53 (.int .i64 f), .int .i64 f] w fun e w' => e = .returned (.bool true) ∧ Below w.heap.size w w' := by
  have := errT_fault f w hg
  rwa [zfault_ne h] at this
theorem zt_bad {a : Int} {l : List (Int × Int)} (t : Int) (h : ¬ zf a l = 0) : zt a l t = zf a l := if_neg h
theorem zt_no {a : Int} {l : List (Int × Int)} {t : Int} (h : zf a l = 0) (g : ¬ (1 ≤ t ∧ t ≤ 157785119)) : zt a l t = 1 := by unfold zt; rw [if_pos h, if_neg (fun q : isT t = true => g (of_decide_eq_true q))]
theorem zt_yes {a : Int} {l : List (Int × Int)} {t : Int} (h : zf a l = 0) (g : 1 ≤ t ∧ t ≤ 157785119) : zt a l t = 0 := by unfold zt; rw [if_pos h, if_pos (show isT t = true from decide_eq_true g)]
theorem none_ints (w : World) : Ints w (.slice none 0 0) [] := ⟨none, 0, rfl, Or.inl rfl⟩
set_option maxRecDepth 100000 in
set_option maxHeartbeats 8000000 in
/-- A zone with a fault. -/
theorem ztells_bad (a : Int) (l : List (Int × Int)) (v : Value) (u t : Int) (w : World) (hv : ZoneIn w v a l) (hG : ErrTy w) (F : Int) (hF : zf a l = F) (hn : ¬ F = 0) :
    Calls Tryd.prog 4 #[v, .int .i64 u, .int .i64 t] w fun e w' => e = .returned (.bool true) ∧ Below w.heap.size w w' := by
  have HV := Lib.hid (fun W (q : Below w.heap.size w W) => hv.on q)
  have HG := Lib.hid (fun W (q : Below w.heap.size w W) => hG.below q)
  obtain ⟨sa, sc, rfl⟩ := hv.form
  have B0 := Lib.hid ((Below.refl w.heap.size w).alloc (Nat.le_refl _) (.cells #[.int .i64 a, .slice sa l.length sc] 34))
  have Z0 := Lib.hid (ZBox.new w a (.slice sa l.length sc) 34)
  clear hv hG
  have E0 : (F == 0) = false := by simpa using hn
  have HN := Lib.hid hn
  have ZT : Hid (∀ x, zt a l x = F) := Lib.hid (fun x => by rw [zt_bad x (by rw [hF]; exact hn), hF])
  have ZL : Hid (zl a l u = F) := Lib.hid (by unfold zl; rw [if_neg (by rw [ZT.out]; exact hn), ZT.out])
  have ZW : Hid (zw a l t = F) := Lib.hid (by unfold zw; rw [if_neg (by rw [ZT.out]; exact hn), ZT.out])
  have K := Lib.hid (refZone_any a l _ _ (HV.out _ B0.out))
  rw [hF] at K
  go_enter Tryd.func4, Tryd.ntmps4
  go_wp2_with fail
  generalize w.alloc (.cells #[.int .i64 a, .slice sa l.length sc] 34) = w0 at B0 Z0 K ⊢
  refine K.out.mono ?_
  rintro e w1 ⟨rfl, hb⟩
  have B1 := Lib.hid (B0.out.trans (hb.mono B0.out.size))
  have Z1 := Lib.hid (Z0.out.on hb)
  clear hb K B0 Z0
  have zlt := Z1.out.lt
  obtain ⟨q1, q2⟩ := Z1.out
  clear hn
  have K := Lib.hid (zcheck_any a l _ w1 (HV.out _ B1.out))
  rw [hF, zfault_ne HN.out] at K
  go_wp2_with fail
  refine K.out.mono ?_
  rintro e w2 ⟨rfl, hb⟩
  have B2 := Lib.hid (B1.out.trans (hb.mono B1.out.size))
  have Z2 := Lib.hid (Z1.out.on hb)
  clear q1 q2 zlt hb K B1 Z1 
  have zlt := Z2.out.lt
  obtain ⟨q1, q2⟩ := Z2.out
  have K := Lib.hid (errT_no F w2 (HG.out _ B2.out) HN.out)
  go_wp2_with fail
  refine K.out.mono ?_
  rintro e w3 ⟨rfl, hb⟩
  have B3 := Lib.hid (B2.out.trans (hb.mono B2.out.size))
  have Z3 := Lib.hid (Z2.out.on hb)
  clear q1 q2 zlt hb K B2 Z2 
  have zlt := Z3.out.lt
  obtain ⟨q1, q2⟩ := Z3.out
  go_wp2_with fail
  refine (zrefTime _ _).mono ?_
  rintro e w4 ⟨rfl, hw⟩
  replace hw := hw.symm
  subst hw
  have K := Lib.hid (zahead_any a l _ u w3 (HV.out _ B3.out))
  rw [ZT.out, NumA_no HN.out] at K
  go_wp2_with fail
  refine K.out.mono ?_
  rintro e w4 ⟨rfl, hb⟩
  have B4 := Lib.hid (B3.out.trans (hb.mono B3.out.size))
  have Z4 := Lib.hid (Z3.out.on hb)
  clear q1 q2 zlt hb K B3 Z3 
  have zlt := Z4.out.lt
  obtain ⟨q1, q2⟩ := Z4.out
  have K := Lib.hid (errT_no F w4 (HG.out _ B4.out) HN.out)
  go_wp2_with fail
  refine K.out.mono ?_
  rintro e w5 ⟨rfl, hb⟩
  have B5 := Lib.hid (B4.out.trans (hb.mono B4.out.size))
  have Z5 := Lib.hid (Z4.out.on hb)
  clear q1 q2 zlt hb K B4 Z4 
  have zlt := Z5.out.lt
  obtain ⟨q1, q2⟩ := Z5.out
  have K := Lib.hid (zlocal_any a l _ u w5 (HV.out _ B5.out))
  rw [ZL.out, NumA_no HN.out] at K
  go_wp2_with fail
  refine K.out.mono ?_
  rintro e w6 ⟨rfl, hb⟩
  have B6 := Lib.hid (B5.out.trans (hb.mono B5.out.size))
  have Z6 := Lib.hid (Z5.out.on hb)
  clear q1 q2 zlt hb K B5 Z5 
  have zlt := Z6.out.lt
  obtain ⟨q1, q2⟩ := Z6.out
  have K := Lib.hid (errT_no F w6 (HG.out _ B6.out) HN.out)
  go_wp2_with fail
  refine K.out.mono ?_
  rintro e w7 ⟨rfl, hb⟩
  have B7 := Lib.hid (B6.out.trans (hb.mono B6.out.size))
  have Z7 := Lib.hid (Z6.out.on hb)
  clear q1 q2 zlt hb K B6 Z6 
  have zlt := Z7.out.lt
  obtain ⟨q1, q2⟩ := Z7.out
  go_wp2_with fail
  refine (zrefTime _ _).mono ?_
  rintro e w8 ⟨rfl, hw⟩
  replace hw := hw.symm
  subst hw
  have K := Lib.hid (ztwice_any a l _ t w7 (HV.out _ B7.out))
  rw [ZT.out] at K
  go_wp2_with fail
  refine K.out.mono ?_
  rintro e w8 ⟨hb, ⟨_, rfl⟩ | ⟨hz, _⟩⟩
  case inr => exact absurd hz HN.out
  have B8 := Lib.hid (B7.out.trans (hb.mono B7.out.size))
  have Z8 := Lib.hid (Z7.out.on hb)
  clear q1 q2 zlt hb K B7 Z7 
  have zlt := Z8.out.lt
  obtain ⟨q1, q2⟩ := Z8.out
  have K := Lib.hid (errT_no F w8 (HG.out _ B8.out) HN.out)
  go_wp2_with fail
  refine K.out.mono ?_
  rintro e w9 ⟨rfl, hb⟩
  have B9 := Lib.hid (B8.out.trans (hb.mono B8.out.size))
  have Z9 := Lib.hid (Z8.out.on hb)
  clear q1 q2 zlt hb K B8 Z8 
  have zlt := Z9.out.lt
  obtain ⟨q1, q2⟩ := Z9.out
  have K := Lib.hid (sameInts [] (.slice none 0 0) (.slice none 0 0) w9 (none_ints _) (none_ints _) (by decide))
  go_wp2_with fail
  refine K.out.mono ?_
  rintro e w10 ⟨rfl, hb⟩
  have B10 := Lib.hid (B9.out.trans (hb.mono B9.out.size))
  have Z10 := Lib.hid (Z9.out.on hb)
  clear q1 q2 zlt hb K B9 Z9 
  have zlt := Z10.out.lt
  obtain ⟨q1, q2⟩ := Z10.out
  have K := Lib.hid (zworld_any a l _ t w10 (HV.out _ B10.out))
  rw [ZW.out, NumA_no HN.out] at K
  go_wp2_with fail
  refine K.out.mono ?_
  rintro e w11 ⟨rfl, hb⟩
  have B11 := Lib.hid (B10.out.trans (hb.mono B10.out.size))
  have Z11 := Lib.hid (Z10.out.on hb)
  clear q1 q2 zlt hb K B10 Z10 
  have zlt := Z11.out.lt
  obtain ⟨q1, q2⟩ := Z11.out
  have K := Lib.hid (errT_no F w11 (HG.out _ B11.out) HN.out)
  go_wp2_with fail
  refine K.out.mono ?_
  rintro e w12 ⟨rfl, hb⟩
  have B12 := Lib.hid (B11.out.trans (hb.mono B11.out.size))
  have Z12 := Lib.hid (Z11.out.on hb)
  clear q1 q2 zlt hb K B11 Z11 
  have zlt := Z12.out.lt
  obtain ⟨q1, q2⟩ := Z12.out
  clear q1 q2 zlt
  go_wp2
  go_ret
  exact ⟨rfl, B12.out⟩
set_option maxRecDepth 100000 in
set_option maxHeartbeats 8000000 in
/-- The first number is no time. -/
theorem ztells_none (a : Int) (l : List (Int × Int)) (v : Value) (u t : Int) (w : World) (hv : ZoneIn w v a l) (hG : ErrTy w) (hF0 : zf a l = 0) (hU : ¬ (1 ≤ u ∧ u ≤ 157785119)) :
    Calls Tryd.prog 4 #[v, .int .i64 u, .int .i64 t] w fun e w' => e = .returned (.bool true) ∧ Below w.heap.size w w' := by
  have HV := Lib.hid (fun W (q : Below w.heap.size w W) => hv.on q)
  have HG := Lib.hid (fun W (q : Below w.heap.size w W) => hG.below q)
  obtain ⟨sa, sc, rfl⟩ := hv.form
  have B0 := Lib.hid ((Below.refl w.heap.size w).alloc (Nat.le_refl _) (.cells #[.int .i64 a, .slice sa l.length sc] 34))
  have Z0 := Lib.hid (ZBox.new w a (.slice sa l.length sc) 34)
  clear hv hG
  have hF := Lib.hid hF0
  clear hF0
  have K := Lib.hid (refZone_any a l _ _ (HV.out _ B0.out))
  rw [hF.out] at K
  go_enter Tryd.func4, Tryd.ntmps4
  go_wp2_with fail
  generalize w.alloc (.cells #[.int .i64 a, .slice sa l.length sc] 34) = w0 at B0 Z0 K ⊢
  refine K.out.mono ?_
  rintro e w1 ⟨rfl, hb⟩
  have B1 := Lib.hid (B0.out.trans (hb.mono B0.out.size))
  have Z1 := Lib.hid (Z0.out.on hb)
  clear hb K B0 Z0
  have zlt := Z1.out.lt
  obtain ⟨q1, q2⟩ := Z1.out
  have K := Lib.hid (zcheck_any a l _ w1 (HV.out _ B1.out))
  rw [hF.out, show fault 0 = .nilIface from rfl] at K
  go_wp2_with fail
  refine K.out.mono ?_
  rintro e w2 ⟨rfl, hb⟩
  have B2 := Lib.hid (B1.out.trans (hb.mono B1.out.size))
  have Z2 := Lib.hid (Z1.out.on hb)
  clear q1 q2 zlt hb K B1 Z1 
  have zlt := Z2.out.lt
  obtain ⟨q1, q2⟩ := Z2.out
  have K := Lib.hid (errT_nil w2)
  go_wp2_with fail
  refine K.out.mono ?_
  rintro e w3 ⟨rfl, hb⟩
  have B3 := Lib.hid (B2.out.trans (hb.mono B2.out.size))
  have Z3 := Lib.hid (Z2.out.on hb)
  clear q1 q2 zlt hb K B2 Z2 
  have zlt := Z3.out.lt
  obtain ⟨q1, q2⟩ := Z3.out
  have ZU : Hid (zt a l u = 1) := Lib.hid (zt_no hF.out hU)
  have ZL : Hid (zl a l u = 1) := Lib.hid (by unfold zl; rw [if_neg (by rw [ZU.out]; decide), ZU.out])
  go_wp2_with fail
  refine (zrefTime_no _ _ hU).mono ?_
  rintro e w4 ⟨rfl, hw⟩
  replace hw := hw.symm
  subst hw
  have K := Lib.hid (zahead_any a l _ u w3 (HV.out _ B3.out))
  rw [ZU.out, NumA_no (by decide)] at K
  go_wp2_with fail
  refine K.out.mono ?_
  rintro e w4 ⟨rfl, hb⟩
  have B4 := Lib.hid (B3.out.trans (hb.mono B3.out.size))
  have Z4 := Lib.hid (Z3.out.on hb)
  clear q1 q2 zlt hb K B3 Z3 
  have zlt := Z4.out.lt
  obtain ⟨q1, q2⟩ := Z4.out
  have K := Lib.hid (errT_no 1 w4 (HG.out _ B4.out) (by decide))
  go_wp2_with fail
  refine K.out.mono ?_
  rintro e w5 ⟨rfl, hb⟩
  have B5 := Lib.hid (B4.out.trans (hb.mono B4.out.size))
  have Z5 := Lib.hid (Z4.out.on hb)
  clear q1 q2 zlt hb K B4 Z4 
  have zlt := Z5.out.lt
  obtain ⟨q1, q2⟩ := Z5.out
  have K := Lib.hid (zlocal_any a l _ u w5 (HV.out _ B5.out))
  rw [ZL.out, NumA_no (by decide)] at K
  go_wp2_with fail
  refine K.out.mono ?_
  rintro e w6 ⟨rfl, hb⟩
  have B6 := Lib.hid (B5.out.trans (hb.mono B5.out.size))
  have Z6 := Lib.hid (Z5.out.on hb)
  clear q1 q2 zlt hb K B5 Z5 
  have zlt := Z6.out.lt
  obtain ⟨q1, q2⟩ := Z6.out
  have K := Lib.hid (errT_no 1 w6 (HG.out _ B6.out) (by decide))
  go_wp2_with fail
  refine K.out.mono ?_
  rintro e w7 ⟨rfl, hb⟩
  have B7 := Lib.hid (B6.out.trans (hb.mono B6.out.size))
  have Z7 := Lib.hid (Z6.out.on hb)
  clear q1 q2 zlt hb K B6 Z6 
  have zlt := Z7.out.lt
  obtain ⟨q1, q2⟩ := Z7.out
  by_cases hT : 1 ≤ t ∧ t ≤ 157785119
  case neg =>
    have ZT : Hid (zt a l t = 1) := Lib.hid (zt_no hF.out hT)
    have ZW : Hid (zw a l t = 1) := Lib.hid (by unfold zw; rw [if_neg (by rw [ZT.out]; decide), ZT.out])
    go_wp2_with fail
    refine (zrefTime_no _ _ hT).mono ?_
    rintro e w8 ⟨rfl, hw⟩
    replace hw := hw.symm
    subst hw
    have K := Lib.hid (ztwice_any a l _ t w7 (HV.out _ B7.out))
    rw [ZT.out] at K
    go_wp2_with fail
    refine K.out.mono ?_
    rintro e w8 ⟨hb, ⟨_, rfl⟩ | ⟨hz, _⟩⟩
    case inr => exact absurd hz (by decide)
    have B8 := Lib.hid (B7.out.trans (hb.mono B7.out.size))
    have Z8 := Lib.hid (Z7.out.on hb)
    clear q1 q2 zlt hb K B7 Z7 
    have zlt := Z8.out.lt
    obtain ⟨q1, q2⟩ := Z8.out
    have K := Lib.hid (errT_no 1 w8 (HG.out _ B8.out) (by decide))
    go_wp2_with fail
    refine K.out.mono ?_
    rintro e w9 ⟨rfl, hb⟩
    have B9 := Lib.hid (B8.out.trans (hb.mono B8.out.size))
    have Z9 := Lib.hid (Z8.out.on hb)
    clear q1 q2 zlt hb K B8 Z8 
    have zlt := Z9.out.lt
    obtain ⟨q1, q2⟩ := Z9.out
    have K := Lib.hid (sameInts [] (.slice none 0 0) (.slice none 0 0) w9 (none_ints _) (none_ints _) (by decide))
    go_wp2_with fail
    refine K.out.mono ?_
    rintro e w10 ⟨rfl, hb⟩
    have B10 := Lib.hid (B9.out.trans (hb.mono B9.out.size))
    have Z10 := Lib.hid (Z9.out.on hb)
    clear q1 q2 zlt hb K B9 Z9 
    have zlt := Z10.out.lt
    obtain ⟨q1, q2⟩ := Z10.out
    have K := Lib.hid (zworld_any a l _ t w10 (HV.out _ B10.out))
    rw [ZW.out, NumA_no (by decide)] at K
    go_wp2_with fail
    refine K.out.mono ?_
    rintro e w11 ⟨rfl, hb⟩
    have B11 := Lib.hid (B10.out.trans (hb.mono B10.out.size))
    have Z11 := Lib.hid (Z10.out.on hb)
    clear q1 q2 zlt hb K B10 Z10 
    have zlt := Z11.out.lt
    obtain ⟨q1, q2⟩ := Z11.out
    have K := Lib.hid (errT_no 1 w11 (HG.out _ B11.out) (by decide))
    go_wp2_with fail
    refine K.out.mono ?_
    rintro e w12 ⟨rfl, hb⟩
    have B12 := Lib.hid (B11.out.trans (hb.mono B11.out.size))
    have Z12 := Lib.hid (Z11.out.on hb)
    clear q1 q2 zlt hb K B11 Z11 
    have zlt := Z12.out.lt
    obtain ⟨q1, q2⟩ := Z12.out
    clear q1 q2 zlt
    go_wp2
    go_ret
    exact ⟨rfl, B12.out⟩
  have ZT : Hid (zt a l t = 0) := Lib.hid (zt_yes hF.out hT)
  have LT : (twi a l t).length ≤ 21 := by have h1 := twi_len a l t; have h2 := (zf_open hF.out).1; omega
  obtain ⟨n, hn⟩ : ∃ n, n = (twi a l t).length := ⟨_, rfl⟩
  have HN := Lib.hid hn
  rw [← hn] at LT
  clear hn
  go_wp2_with fail
  refine (zrefTime_yes _ _ hT).mono ?_
  rintro e w8 ⟨rfl, hw⟩
  replace hw := hw.symm
  subst hw
  have K := Lib.hid (refTwice_any a l _ t w7 (HV.out _ B7.out) hF.out hT.1 hT.2)
  go_wp2_with fail
  refine K.out.mono ?_
  rintro e w8 ⟨va, rfl, hx, hb⟩
  obtain ⟨xa, xc, ex, _⟩ := id hx
  rw [← HN.out] at ex
  subst ex
  have IA8 := Lib.hid hx
  clear hx
  have B8 := Lib.hid (B7.out.trans (hb.mono B7.out.size))
  have Z8 := Lib.hid (Z7.out.on hb)
  clear q1 q2 zlt hb K B7 Z7 
  have zlt := Z8.out.lt
  obtain ⟨q1, q2⟩ := Z8.out
  rcases h0 : ((n : Int) == 0) with _ | _
  · have ZW : Hid (zw a l t = 0) := Lib.hid (by unfold zw; rw [if_pos ZT.out, if_neg (by rw [← HN.out]; have := beq_eq_false_iff_ne.1 h0; omega)])
    obtain ⟨x, hx⟩ : ∃ x, x = (twi a l t).getD 0 0 := ⟨_, rfl⟩
    have HX := Lib.hid hx
    clear hx
    have np : (0 : Int) < (n : Int) := by have := beq_eq_false_iff_ne.1 h0; omega
    obtain ⟨xa2, xc2, ex2, hc⟩ := id IA8.out
    obtain ⟨rfl, rfl⟩ : xa = xa2 ∧ xc = xc2 := by
      have e3 : (n : Nat) = (twi a l t).length := HN.out
      simp only [Value.slice.injEq] at ex2
      exact ⟨ex2.1, ex2.2.2⟩
    rcases hc with hc | ⟨b, off, rfl, hc⟩
    · have := HN.out; rw [hc] at this; simp at this; omega
    have c0 := hc 0 (by rw [← HN.out]; omega)
    rw [← HX.out, Nat.add_zero] at c0
    clear hc ex2
    have K := Lib.hid (ztwice_any a l _ t w8 (HV.out _ B8.out))
    rw [ZT.out] at K
    go_wp2_with fail
    refine K.out.mono ?_
    rintro e w9 ⟨hb, ⟨hz, _⟩ | ⟨_, vb, rfl, hx⟩⟩
    case inl => exact absurd rfl hz
    obtain ⟨ya, yc, ey, _⟩ := id hx
    rw [← HN.out] at ey
    subst ey
    have IB9 := Lib.hid hx
    clear hx
    have B9 := Lib.hid (B8.out.trans (hb.mono B8.out.size))
    have Z9 := Lib.hid (Z8.out.on hb)
    have IA9 := Lib.hid (IA8.out.on hb)
    clear c0 q1 q2 zlt hb K B8 Z8 IA8
    have zlt := Z9.out.lt
    obtain ⟨q1, q2⟩ := Z9.out
    have K := Lib.hid (errT_nil w9)
    go_wp2_with fail
    refine K.out.mono ?_
    rintro e w10 ⟨rfl, hb⟩
    have B10 := Lib.hid (B9.out.trans (hb.mono B9.out.size))
    have Z10 := Lib.hid (Z9.out.on hb)
    have IA10 := Lib.hid (IA9.out.on hb)
    have IB10 := Lib.hid (IB9.out.on hb)
    clear q1 q2 zlt hb K B9 Z9 IA9 IB9
    have zlt := Z10.out.lt
    obtain ⟨q1, q2⟩ := Z10.out
    have KS := Lib.hid (sameInts (twi a l t) _ _ w10 IB10.out IA10.out (by rw [← HN.out]; omega))
    go_wp2_with fail
    refine KS.out.mono ?_
    rintro e w11 ⟨rfl, hb⟩
    have B11 := Lib.hid (B10.out.trans (hb.mono B10.out.size))
    have Z11 := Lib.hid (Z10.out.on hb)
    clear q1 q2 zlt hb KS B10 Z10 IA10 IB10
    have zlt := Z11.out.lt
    obtain ⟨q1, q2⟩ := Z11.out
    have K := Lib.hid (zworld_any a l _ t w11 (HV.out _ B11.out))
    rw [NumA_yes ZW.out, ← HX.out] at K
    go_wp2_with fail
    refine K.out.mono ?_
    rintro e w12 ⟨rfl, hb⟩
    have B12 := Lib.hid (B11.out.trans (hb.mono B11.out.size))
    have Z12 := Lib.hid (Z11.out.on hb)
    clear q1 q2 zlt hb K B11 Z11 
    have zlt := Z12.out.lt
    obtain ⟨q1, q2⟩ := Z12.out
    have K := Lib.hid (errT_nil w12)
    go_wp2_with fail
    refine K.out.mono ?_
    rintro e w13 ⟨rfl, hb⟩
    have B13 := Lib.hid (B12.out.trans (hb.mono B12.out.size))
    have Z13 := Lib.hid (Z12.out.on hb)
    clear q1 q2 zlt hb K B12 Z12 
    have zlt := Z13.out.lt
    obtain ⟨q1, q2⟩ := Z13.out
    clear q1 q2 zlt
    go_wp2
    go_ret
    exact ⟨rfl, B13.out⟩
  · have ZW : Hid (zw a l t = 8) := Lib.hid (by unfold zw; rw [if_pos ZT.out, if_pos (by rw [← HN.out]; have := beq_iff_eq.1 h0; omega)])
    have K := Lib.hid (ztwice_any a l _ t w8 (HV.out _ B8.out))
    rw [ZT.out] at K
    go_wp2_with fail
    refine K.out.mono ?_
    rintro e w9 ⟨hb, ⟨hz, _⟩ | ⟨_, vb, rfl, hx⟩⟩
    case inl => exact absurd rfl hz
    obtain ⟨ya, yc, ey, _⟩ := id hx
    rw [← HN.out] at ey
    subst ey
    have IB9 := Lib.hid hx
    clear hx
    have B9 := Lib.hid (B8.out.trans (hb.mono B8.out.size))
    have Z9 := Lib.hid (Z8.out.on hb)
    have IA9 := Lib.hid (IA8.out.on hb)
    clear q1 q2 zlt hb K B8 Z8 IA8
    have zlt := Z9.out.lt
    obtain ⟨q1, q2⟩ := Z9.out
    have K := Lib.hid (errT_nil w9)
    go_wp2_with fail
    refine K.out.mono ?_
    rintro e w10 ⟨rfl, hb⟩
    have B10 := Lib.hid (B9.out.trans (hb.mono B9.out.size))
    have Z10 := Lib.hid (Z9.out.on hb)
    have IA10 := Lib.hid (IA9.out.on hb)
    have IB10 := Lib.hid (IB9.out.on hb)
    clear q1 q2 zlt hb K B9 Z9 IA9 IB9
    have zlt := Z10.out.lt
    obtain ⟨q1, q2⟩ := Z10.out
    have KS := Lib.hid (sameInts (twi a l t) _ _ w10 IB10.out IA10.out (by rw [← HN.out]; omega))
    go_wp2_with fail
    refine KS.out.mono ?_
    rintro e w11 ⟨rfl, hb⟩
    have B11 := Lib.hid (B10.out.trans (hb.mono B10.out.size))
    have Z11 := Lib.hid (Z10.out.on hb)
    clear q1 q2 zlt hb KS B10 Z10 IA10 IB10
    have zlt := Z11.out.lt
    obtain ⟨q1, q2⟩ := Z11.out
    have K := Lib.hid (zworld_any a l _ t w11 (HV.out _ B11.out))
    rw [ZW.out, NumA_no (by decide)] at K
    go_wp2_with fail
    refine K.out.mono ?_
    rintro e w12 ⟨rfl, hb⟩
    have B12 := Lib.hid (B11.out.trans (hb.mono B11.out.size))
    have Z12 := Lib.hid (Z11.out.on hb)
    clear q1 q2 zlt hb K B11 Z11 
    have zlt := Z12.out.lt
    obtain ⟨q1, q2⟩ := Z12.out
    have K := Lib.hid (errT_no 8 w12 (HG.out _ B12.out) (by decide))
    go_wp2_with fail
    refine K.out.mono ?_
    rintro e w13 ⟨rfl, hb⟩
    have B13 := Lib.hid (B12.out.trans (hb.mono B12.out.size))
    have Z13 := Lib.hid (Z12.out.on hb)
    clear q1 q2 zlt hb K B12 Z12 
    have zlt := Z13.out.lt
    obtain ⟨q1, q2⟩ := Z13.out
    clear q1 q2 zlt
    go_wp2
    go_ret
    exact ⟨rfl, B13.out⟩
set_option maxRecDepth 100000 in
set_option maxHeartbeats 8000000 in
/-- It is a time, but none there. -/
theorem ztells_out (a : Int) (l : List (Int × Int)) (v : Value) (u t : Int) (w : World) (hv : ZoneIn w v a l) (hG : ErrTy w) (hF0 : zf a l = 0) (hU : 1 ≤ u ∧ u ≤ 157785119) (hS : ¬ (1 ≤ u + zah a l (beg u l) ∧ u + zah a l (beg u l) ≤ 157785119)) :
    Calls Tryd.prog 4 #[v, .int .i64 u, .int .i64 t] w fun e w' => e = .returned (.bool true) ∧ Below w.heap.size w w' := by
  have HV := Lib.hid (fun W (q : Below w.heap.size w W) => hv.on q)
  have HG := Lib.hid (fun W (q : Below w.heap.size w W) => hG.below q)
  obtain ⟨sa, sc, rfl⟩ := hv.form
  have B0 := Lib.hid ((Below.refl w.heap.size w).alloc (Nat.le_refl _) (.cells #[.int .i64 a, .slice sa l.length sc] 34))
  have Z0 := Lib.hid (ZBox.new w a (.slice sa l.length sc) 34)
  clear hv hG
  have hF := Lib.hid hF0
  clear hF0
  have K := Lib.hid (refZone_any a l _ _ (HV.out _ B0.out))
  rw [hF.out] at K
  go_enter Tryd.func4, Tryd.ntmps4
  go_wp2_with fail
  generalize w.alloc (.cells #[.int .i64 a, .slice sa l.length sc] 34) = w0 at B0 Z0 K ⊢
  refine K.out.mono ?_
  rintro e w1 ⟨rfl, hb⟩
  have B1 := Lib.hid (B0.out.trans (hb.mono B0.out.size))
  have Z1 := Lib.hid (Z0.out.on hb)
  clear hb K B0 Z0
  have zlt := Z1.out.lt
  obtain ⟨q1, q2⟩ := Z1.out
  have K := Lib.hid (zcheck_any a l _ w1 (HV.out _ B1.out))
  rw [hF.out, show fault 0 = .nilIface from rfl] at K
  go_wp2_with fail
  refine K.out.mono ?_
  rintro e w2 ⟨rfl, hb⟩
  have B2 := Lib.hid (B1.out.trans (hb.mono B1.out.size))
  have Z2 := Lib.hid (Z1.out.on hb)
  clear q1 q2 zlt hb K B1 Z1 
  have zlt := Z2.out.lt
  obtain ⟨q1, q2⟩ := Z2.out
  have K := Lib.hid (errT_nil w2)
  go_wp2_with fail
  refine K.out.mono ?_
  rintro e w3 ⟨rfl, hb⟩
  have B3 := Lib.hid (B2.out.trans (hb.mono B2.out.size))
  have Z3 := Lib.hid (Z2.out.on hb)
  clear q1 q2 zlt hb K B2 Z2 
  have zlt := Z3.out.lt
  obtain ⟨q1, q2⟩ := Z3.out
  have ZU : Hid (zt a l u = 0) := Lib.hid (zt_yes hF.out hU)
  obtain ⟨z, hz⟩ : ∃ z, z = zah a l (beg u l) := ⟨_, rfl⟩
  have ZA := zah_in hF.out (beg_le u l)
  rw [← hz] at ZA hS
  have HZ := Lib.hid hz
  have ZL : Hid (zl a l u = 1) := Lib.hid (by unfold zl; rw [if_pos ZU.out, ← hz, if_neg (fun q : isT (u + z) = true => hS (of_decide_eq_true q))])
  clear hz
  obtain ⟨u1, u2⟩ := id hU
  obtain ⟨za1, za2⟩ := id ZA
  go_wp2_with fail
  refine (zrefTime_yes _ _ hU).mono ?_
  rintro e w4 ⟨rfl, hw⟩
  replace hw := hw.symm
  subst hw
  have K := Lib.hid (refAhead_any a l _ u w3 (HV.out _ B3.out) hF.out)
  rw [← HZ.out] at K
  go_wp2_with fail
  refine K.out.mono ?_
  rintro e w4 ⟨rfl, hb⟩
  have B4 := Lib.hid (B3.out.trans (hb.mono B3.out.size))
  have Z4 := Lib.hid (Z3.out.on hb)
  clear q1 q2 zlt hb K B3 Z3 
  have zlt := Z4.out.lt
  obtain ⟨q1, q2⟩ := Z4.out
  go_wp2_with fail
  refine (zrefTime_no _ _ hS).mono ?_
  rintro e w5 ⟨rfl, hw⟩
  replace hw := hw.symm
  subst hw
  have K := Lib.hid (zahead_any a l _ u w4 (HV.out _ B4.out))
  rw [NumA_yes ZU.out, ← HZ.out] at K
  go_wp2_with fail
  refine K.out.mono ?_
  rintro e w5 ⟨rfl, hb⟩
  have B5 := Lib.hid (B4.out.trans (hb.mono B4.out.size))
  have Z5 := Lib.hid (Z4.out.on hb)
  clear q1 q2 zlt hb K B4 Z4 
  have zlt := Z5.out.lt
  obtain ⟨q1, q2⟩ := Z5.out
  have K := Lib.hid (errT_nil w5)
  go_wp2_with fail
  refine K.out.mono ?_
  rintro e w6 ⟨rfl, hb⟩
  have B6 := Lib.hid (B5.out.trans (hb.mono B5.out.size))
  have Z6 := Lib.hid (Z5.out.on hb)
  clear q1 q2 zlt hb K B5 Z5 
  have zlt := Z6.out.lt
  obtain ⟨q1, q2⟩ := Z6.out
  have K := Lib.hid (zlocal_any a l _ u w6 (HV.out _ B6.out))
  rw [ZL.out, NumA_no (by decide)] at K
  go_wp2_with fail
  refine K.out.mono ?_
  rintro e w7 ⟨rfl, hb⟩
  have B7 := Lib.hid (B6.out.trans (hb.mono B6.out.size))
  have Z7 := Lib.hid (Z6.out.on hb)
  clear q1 q2 zlt hb K B6 Z6 
  have zlt := Z7.out.lt
  obtain ⟨q1, q2⟩ := Z7.out
  have K := Lib.hid (errT_no 1 w7 (HG.out _ B7.out) (by decide))
  go_wp2_with fail
  refine K.out.mono ?_
  rintro e w8 ⟨rfl, hb⟩
  have B8 := Lib.hid (B7.out.trans (hb.mono B7.out.size))
  have Z8 := Lib.hid (Z7.out.on hb)
  clear q1 q2 zlt hb K B7 Z7 
  have zlt := Z8.out.lt
  obtain ⟨q1, q2⟩ := Z8.out
  by_cases hT : 1 ≤ t ∧ t ≤ 157785119
  case neg =>
    have ZT : Hid (zt a l t = 1) := Lib.hid (zt_no hF.out hT)
    have ZW : Hid (zw a l t = 1) := Lib.hid (by unfold zw; rw [if_neg (by rw [ZT.out]; decide), ZT.out])
    go_wp2_with fail
    refine (zrefTime_no _ _ hT).mono ?_
    rintro e w9 ⟨rfl, hw⟩
    replace hw := hw.symm
    subst hw
    have K := Lib.hid (ztwice_any a l _ t w8 (HV.out _ B8.out))
    rw [ZT.out] at K
    go_wp2_with fail
    refine K.out.mono ?_
    rintro e w9 ⟨hb, ⟨_, rfl⟩ | ⟨hz, _⟩⟩
    case inr => exact absurd hz (by decide)
    have B9 := Lib.hid (B8.out.trans (hb.mono B8.out.size))
    have Z9 := Lib.hid (Z8.out.on hb)
    clear q1 q2 zlt hb K B8 Z8 
    have zlt := Z9.out.lt
    obtain ⟨q1, q2⟩ := Z9.out
    have K := Lib.hid (errT_no 1 w9 (HG.out _ B9.out) (by decide))
    go_wp2_with fail
    refine K.out.mono ?_
    rintro e w10 ⟨rfl, hb⟩
    have B10 := Lib.hid (B9.out.trans (hb.mono B9.out.size))
    have Z10 := Lib.hid (Z9.out.on hb)
    clear q1 q2 zlt hb K B9 Z9 
    have zlt := Z10.out.lt
    obtain ⟨q1, q2⟩ := Z10.out
    have K := Lib.hid (sameInts [] (.slice none 0 0) (.slice none 0 0) w10 (none_ints _) (none_ints _) (by decide))
    go_wp2_with fail
    refine K.out.mono ?_
    rintro e w11 ⟨rfl, hb⟩
    have B11 := Lib.hid (B10.out.trans (hb.mono B10.out.size))
    have Z11 := Lib.hid (Z10.out.on hb)
    clear q1 q2 zlt hb K B10 Z10 
    have zlt := Z11.out.lt
    obtain ⟨q1, q2⟩ := Z11.out
    have K := Lib.hid (zworld_any a l _ t w11 (HV.out _ B11.out))
    rw [ZW.out, NumA_no (by decide)] at K
    go_wp2_with fail
    refine K.out.mono ?_
    rintro e w12 ⟨rfl, hb⟩
    have B12 := Lib.hid (B11.out.trans (hb.mono B11.out.size))
    have Z12 := Lib.hid (Z11.out.on hb)
    clear q1 q2 zlt hb K B11 Z11 
    have zlt := Z12.out.lt
    obtain ⟨q1, q2⟩ := Z12.out
    have K := Lib.hid (errT_no 1 w12 (HG.out _ B12.out) (by decide))
    go_wp2_with fail
    refine K.out.mono ?_
    rintro e w13 ⟨rfl, hb⟩
    have B13 := Lib.hid (B12.out.trans (hb.mono B12.out.size))
    have Z13 := Lib.hid (Z12.out.on hb)
    clear q1 q2 zlt hb K B12 Z12 
    have zlt := Z13.out.lt
    obtain ⟨q1, q2⟩ := Z13.out
    clear q1 q2 zlt
    go_wp2
    go_ret
    exact ⟨rfl, B13.out⟩
  have ZT : Hid (zt a l t = 0) := Lib.hid (zt_yes hF.out hT)
  have LT : (twi a l t).length ≤ 21 := by have h1 := twi_len a l t; have h2 := (zf_open hF.out).1; omega
  obtain ⟨n, hn⟩ : ∃ n, n = (twi a l t).length := ⟨_, rfl⟩
  have HN := Lib.hid hn
  rw [← hn] at LT
  clear hn
  go_wp2_with fail
  refine (zrefTime_yes _ _ hT).mono ?_
  rintro e w9 ⟨rfl, hw⟩
  replace hw := hw.symm
  subst hw
  have K := Lib.hid (refTwice_any a l _ t w8 (HV.out _ B8.out) hF.out hT.1 hT.2)
  go_wp2_with fail
  refine K.out.mono ?_
  rintro e w9 ⟨va, rfl, hx, hb⟩
  obtain ⟨xa, xc, ex, _⟩ := id hx
  rw [← HN.out] at ex
  subst ex
  have IA9 := Lib.hid hx
  clear hx
  have B9 := Lib.hid (B8.out.trans (hb.mono B8.out.size))
  have Z9 := Lib.hid (Z8.out.on hb)
  clear q1 q2 zlt hb K B8 Z8 
  have zlt := Z9.out.lt
  obtain ⟨q1, q2⟩ := Z9.out
  rcases h0 : ((n : Int) == 0) with _ | _
  · have ZW : Hid (zw a l t = 0) := Lib.hid (by unfold zw; rw [if_pos ZT.out, if_neg (by rw [← HN.out]; have := beq_eq_false_iff_ne.1 h0; omega)])
    obtain ⟨x, hx⟩ : ∃ x, x = (twi a l t).getD 0 0 := ⟨_, rfl⟩
    have HX := Lib.hid hx
    clear hx
    have np : (0 : Int) < (n : Int) := by have := beq_eq_false_iff_ne.1 h0; omega
    obtain ⟨xa2, xc2, ex2, hc⟩ := id IA9.out
    obtain ⟨rfl, rfl⟩ : xa = xa2 ∧ xc = xc2 := by
      have e3 : (n : Nat) = (twi a l t).length := HN.out
      simp only [Value.slice.injEq] at ex2
      exact ⟨ex2.1, ex2.2.2⟩
    rcases hc with hc | ⟨b, off, rfl, hc⟩
    · have := HN.out; rw [hc] at this; simp at this; omega
    have c0 := hc 0 (by rw [← HN.out]; omega)
    rw [← HX.out, Nat.add_zero] at c0
    clear hc ex2
    have K := Lib.hid (ztwice_any a l _ t w9 (HV.out _ B9.out))
    rw [ZT.out] at K
    go_wp2_with fail
    refine K.out.mono ?_
    rintro e w10 ⟨hb, ⟨hz, _⟩ | ⟨_, vb, rfl, hx⟩⟩
    case inl => exact absurd rfl hz
    obtain ⟨ya, yc, ey, _⟩ := id hx
    rw [← HN.out] at ey
    subst ey
    have IB10 := Lib.hid hx
    clear hx
    have B10 := Lib.hid (B9.out.trans (hb.mono B9.out.size))
    have Z10 := Lib.hid (Z9.out.on hb)
    have IA10 := Lib.hid (IA9.out.on hb)
    clear c0 q1 q2 zlt hb K B9 Z9 IA9
    have zlt := Z10.out.lt
    obtain ⟨q1, q2⟩ := Z10.out
    have K := Lib.hid (errT_nil w10)
    go_wp2_with fail
    refine K.out.mono ?_
    rintro e w11 ⟨rfl, hb⟩
    have B11 := Lib.hid (B10.out.trans (hb.mono B10.out.size))
    have Z11 := Lib.hid (Z10.out.on hb)
    have IA11 := Lib.hid (IA10.out.on hb)
    have IB11 := Lib.hid (IB10.out.on hb)
    clear q1 q2 zlt hb K B10 Z10 IA10 IB10
    have zlt := Z11.out.lt
    obtain ⟨q1, q2⟩ := Z11.out
    have KS := Lib.hid (sameInts (twi a l t) _ _ w11 IB11.out IA11.out (by rw [← HN.out]; omega))
    go_wp2_with fail
    refine KS.out.mono ?_
    rintro e w12 ⟨rfl, hb⟩
    have B12 := Lib.hid (B11.out.trans (hb.mono B11.out.size))
    have Z12 := Lib.hid (Z11.out.on hb)
    clear q1 q2 zlt hb KS B11 Z11 IA11 IB11
    have zlt := Z12.out.lt
    obtain ⟨q1, q2⟩ := Z12.out
    have K := Lib.hid (zworld_any a l _ t w12 (HV.out _ B12.out))
    rw [NumA_yes ZW.out, ← HX.out] at K
    go_wp2_with fail
    refine K.out.mono ?_
    rintro e w13 ⟨rfl, hb⟩
    have B13 := Lib.hid (B12.out.trans (hb.mono B12.out.size))
    have Z13 := Lib.hid (Z12.out.on hb)
    clear q1 q2 zlt hb K B12 Z12 
    have zlt := Z13.out.lt
    obtain ⟨q1, q2⟩ := Z13.out
    have K := Lib.hid (errT_nil w13)
    go_wp2_with fail
    refine K.out.mono ?_
    rintro e w14 ⟨rfl, hb⟩
    have B14 := Lib.hid (B13.out.trans (hb.mono B13.out.size))
    have Z14 := Lib.hid (Z13.out.on hb)
    clear q1 q2 zlt hb K B13 Z13 
    have zlt := Z14.out.lt
    obtain ⟨q1, q2⟩ := Z14.out
    clear q1 q2 zlt
    go_wp2
    go_ret
    exact ⟨rfl, B14.out⟩
  · have ZW : Hid (zw a l t = 8) := Lib.hid (by unfold zw; rw [if_pos ZT.out, if_pos (by rw [← HN.out]; have := beq_iff_eq.1 h0; omega)])
    have K := Lib.hid (ztwice_any a l _ t w9 (HV.out _ B9.out))
    rw [ZT.out] at K
    go_wp2_with fail
    refine K.out.mono ?_
    rintro e w10 ⟨hb, ⟨hz, _⟩ | ⟨_, vb, rfl, hx⟩⟩
    case inl => exact absurd rfl hz
    obtain ⟨ya, yc, ey, _⟩ := id hx
    rw [← HN.out] at ey
    subst ey
    have IB10 := Lib.hid hx
    clear hx
    have B10 := Lib.hid (B9.out.trans (hb.mono B9.out.size))
    have Z10 := Lib.hid (Z9.out.on hb)
    have IA10 := Lib.hid (IA9.out.on hb)
    clear q1 q2 zlt hb K B9 Z9 IA9
    have zlt := Z10.out.lt
    obtain ⟨q1, q2⟩ := Z10.out
    have K := Lib.hid (errT_nil w10)
    go_wp2_with fail
    refine K.out.mono ?_
    rintro e w11 ⟨rfl, hb⟩
    have B11 := Lib.hid (B10.out.trans (hb.mono B10.out.size))
    have Z11 := Lib.hid (Z10.out.on hb)
    have IA11 := Lib.hid (IA10.out.on hb)
    have IB11 := Lib.hid (IB10.out.on hb)
    clear q1 q2 zlt hb K B10 Z10 IA10 IB10
    have zlt := Z11.out.lt
    obtain ⟨q1, q2⟩ := Z11.out
    have KS := Lib.hid (sameInts (twi a l t) _ _ w11 IB11.out IA11.out (by rw [← HN.out]; omega))
    go_wp2_with fail
    refine KS.out.mono ?_
    rintro e w12 ⟨rfl, hb⟩
    have B12 := Lib.hid (B11.out.trans (hb.mono B11.out.size))
    have Z12 := Lib.hid (Z11.out.on hb)
    clear q1 q2 zlt hb KS B11 Z11 IA11 IB11
    have zlt := Z12.out.lt
    obtain ⟨q1, q2⟩ := Z12.out
    have K := Lib.hid (zworld_any a l _ t w12 (HV.out _ B12.out))
    rw [ZW.out, NumA_no (by decide)] at K
    go_wp2_with fail
    refine K.out.mono ?_
    rintro e w13 ⟨rfl, hb⟩
    have B13 := Lib.hid (B12.out.trans (hb.mono B12.out.size))
    have Z13 := Lib.hid (Z12.out.on hb)
    clear q1 q2 zlt hb K B12 Z12 
    have zlt := Z13.out.lt
    obtain ⟨q1, q2⟩ := Z13.out
    have K := Lib.hid (errT_no 8 w13 (HG.out _ B13.out) (by decide))
    go_wp2_with fail
    refine K.out.mono ?_
    rintro e w14 ⟨rfl, hb⟩
    have B14 := Lib.hid (B13.out.trans (hb.mono B13.out.size))
    have Z14 := Lib.hid (Z13.out.on hb)
    clear q1 q2 zlt hb K B13 Z13 
    have zlt := Z14.out.lt
    obtain ⟨q1, q2⟩ := Z14.out
    clear q1 q2 zlt
    go_wp2
    go_ret
    exact ⟨rfl, B14.out⟩
set_option maxRecDepth 100000 in
set_option maxHeartbeats 8000000 in
/-- It is a time, here and there. -/
theorem ztells_in (a : Int) (l : List (Int × Int)) (v : Value) (u t : Int) (w : World) (hv : ZoneIn w v a l) (hG : ErrTy w) (hF0 : zf a l = 0) (hU : 1 ≤ u ∧ u ≤ 157785119) (hS : 1 ≤ u + zah a l (beg u l) ∧ u + zah a l (beg u l) ≤ 157785119) :
    Calls Tryd.prog 4 #[v, .int .i64 u, .int .i64 t] w fun e w' => e = .returned (.bool true) ∧ Below w.heap.size w w' := by
  have HV := Lib.hid (fun W (q : Below w.heap.size w W) => hv.on q)
  have HG := Lib.hid (fun W (q : Below w.heap.size w W) => hG.below q)
  obtain ⟨sa, sc, rfl⟩ := hv.form
  have B0 := Lib.hid ((Below.refl w.heap.size w).alloc (Nat.le_refl _) (.cells #[.int .i64 a, .slice sa l.length sc] 34))
  have Z0 := Lib.hid (ZBox.new w a (.slice sa l.length sc) 34)
  clear hv hG
  have hF := Lib.hid hF0
  clear hF0
  have K := Lib.hid (refZone_any a l _ _ (HV.out _ B0.out))
  rw [hF.out] at K
  go_enter Tryd.func4, Tryd.ntmps4
  go_wp2_with fail
  generalize w.alloc (.cells #[.int .i64 a, .slice sa l.length sc] 34) = w0 at B0 Z0 K ⊢
  refine K.out.mono ?_
  rintro e w1 ⟨rfl, hb⟩
  have B1 := Lib.hid (B0.out.trans (hb.mono B0.out.size))
  have Z1 := Lib.hid (Z0.out.on hb)
  clear hb K B0 Z0
  have zlt := Z1.out.lt
  obtain ⟨q1, q2⟩ := Z1.out
  have K := Lib.hid (zcheck_any a l _ w1 (HV.out _ B1.out))
  rw [hF.out, show fault 0 = .nilIface from rfl] at K
  go_wp2_with fail
  refine K.out.mono ?_
  rintro e w2 ⟨rfl, hb⟩
  have B2 := Lib.hid (B1.out.trans (hb.mono B1.out.size))
  have Z2 := Lib.hid (Z1.out.on hb)
  clear q1 q2 zlt hb K B1 Z1 
  have zlt := Z2.out.lt
  obtain ⟨q1, q2⟩ := Z2.out
  have K := Lib.hid (errT_nil w2)
  go_wp2_with fail
  refine K.out.mono ?_
  rintro e w3 ⟨rfl, hb⟩
  have B3 := Lib.hid (B2.out.trans (hb.mono B2.out.size))
  have Z3 := Lib.hid (Z2.out.on hb)
  clear q1 q2 zlt hb K B2 Z2 
  have zlt := Z3.out.lt
  obtain ⟨q1, q2⟩ := Z3.out
  have ZU : Hid (zt a l u = 0) := Lib.hid (zt_yes hF.out hU)
  obtain ⟨z, hz⟩ : ∃ z, z = zah a l (beg u l) := ⟨_, rfl⟩
  have ZA := zah_in hF.out (beg_le u l)
  rw [← hz] at ZA hS
  have HZ := Lib.hid hz
  have ZL : Hid (zl a l u = 0) := Lib.hid (by unfold zl; rw [if_pos ZU.out, ← hz, if_pos (show isT (u + z) = true from decide_eq_true hS)])
  clear hz
  obtain ⟨u1, u2⟩ := id hU
  obtain ⟨za1, za2⟩ := id ZA
  go_wp2_with fail
  refine (zrefTime_yes _ _ hU).mono ?_
  rintro e w4 ⟨rfl, hw⟩
  replace hw := hw.symm
  subst hw
  have K := Lib.hid (refAhead_any a l _ u w3 (HV.out _ B3.out) hF.out)
  rw [← HZ.out] at K
  go_wp2_with fail
  refine K.out.mono ?_
  rintro e w4 ⟨rfl, hb⟩
  have B4 := Lib.hid (B3.out.trans (hb.mono B3.out.size))
  have Z4 := Lib.hid (Z3.out.on hb)
  clear q1 q2 zlt hb K B3 Z3 
  have zlt := Z4.out.lt
  obtain ⟨q1, q2⟩ := Z4.out
  go_wp2_with fail
  refine (zrefTime_yes _ _ hS).mono ?_
  rintro e w5 ⟨rfl, hw⟩
  replace hw := hw.symm
  subst hw
  have K := Lib.hid (zahead_any a l _ u w4 (HV.out _ B4.out))
  rw [NumA_yes ZU.out, ← HZ.out] at K
  go_wp2_with fail
  refine K.out.mono ?_
  rintro e w5 ⟨rfl, hb⟩
  have B5 := Lib.hid (B4.out.trans (hb.mono B4.out.size))
  have Z5 := Lib.hid (Z4.out.on hb)
  clear q1 q2 zlt hb K B4 Z4 
  have zlt := Z5.out.lt
  obtain ⟨q1, q2⟩ := Z5.out
  have K := Lib.hid (errT_nil w5)
  go_wp2_with fail
  refine K.out.mono ?_
  rintro e w6 ⟨rfl, hb⟩
  have B6 := Lib.hid (B5.out.trans (hb.mono B5.out.size))
  have Z6 := Lib.hid (Z5.out.on hb)
  clear q1 q2 zlt hb K B5 Z5 
  have zlt := Z6.out.lt
  obtain ⟨q1, q2⟩ := Z6.out
  have K := Lib.hid (zlocal_any a l _ u w6 (HV.out _ B6.out))
  rw [NumA_yes ZL.out, ← HZ.out] at K
  go_wp2_with fail
  refine K.out.mono ?_
  rintro e w7 ⟨rfl, hb⟩
  have B7 := Lib.hid (B6.out.trans (hb.mono B6.out.size))
  have Z7 := Lib.hid (Z6.out.on hb)
  clear q1 q2 zlt hb K B6 Z6 
  have zlt := Z7.out.lt
  obtain ⟨q1, q2⟩ := Z7.out
  have K := Lib.hid (errT_nil w7)
  go_wp2_with fail
  refine K.out.mono ?_
  rintro e w8 ⟨rfl, hb⟩
  have B8 := Lib.hid (B7.out.trans (hb.mono B7.out.size))
  have Z8 := Lib.hid (Z7.out.on hb)
  clear q1 q2 zlt hb K B7 Z7 
  have zlt := Z8.out.lt
  obtain ⟨q1, q2⟩ := Z8.out
  by_cases hT : 1 ≤ t ∧ t ≤ 157785119
  case neg =>
    have ZT : Hid (zt a l t = 1) := Lib.hid (zt_no hF.out hT)
    have ZW : Hid (zw a l t = 1) := Lib.hid (by unfold zw; rw [if_neg (by rw [ZT.out]; decide), ZT.out])
    go_wp2_with fail
    refine (zrefTime_no _ _ hT).mono ?_
    rintro e w9 ⟨rfl, hw⟩
    replace hw := hw.symm
    subst hw
    have K := Lib.hid (ztwice_any a l _ t w8 (HV.out _ B8.out))
    rw [ZT.out] at K
    go_wp2_with fail
    refine K.out.mono ?_
    rintro e w9 ⟨hb, ⟨_, rfl⟩ | ⟨hz, _⟩⟩
    case inr => exact absurd hz (by decide)
    have B9 := Lib.hid (B8.out.trans (hb.mono B8.out.size))
    have Z9 := Lib.hid (Z8.out.on hb)
    clear q1 q2 zlt hb K B8 Z8 
    have zlt := Z9.out.lt
    obtain ⟨q1, q2⟩ := Z9.out
    have K := Lib.hid (errT_no 1 w9 (HG.out _ B9.out) (by decide))
    go_wp2_with fail
    refine K.out.mono ?_
    rintro e w10 ⟨rfl, hb⟩
    have B10 := Lib.hid (B9.out.trans (hb.mono B9.out.size))
    have Z10 := Lib.hid (Z9.out.on hb)
    clear q1 q2 zlt hb K B9 Z9 
    have zlt := Z10.out.lt
    obtain ⟨q1, q2⟩ := Z10.out
    have K := Lib.hid (sameInts [] (.slice none 0 0) (.slice none 0 0) w10 (none_ints _) (none_ints _) (by decide))
    go_wp2_with fail
    refine K.out.mono ?_
    rintro e w11 ⟨rfl, hb⟩
    have B11 := Lib.hid (B10.out.trans (hb.mono B10.out.size))
    have Z11 := Lib.hid (Z10.out.on hb)
    clear q1 q2 zlt hb K B10 Z10 
    have zlt := Z11.out.lt
    obtain ⟨q1, q2⟩ := Z11.out
    have K := Lib.hid (zworld_any a l _ t w11 (HV.out _ B11.out))
    rw [ZW.out, NumA_no (by decide)] at K
    go_wp2_with fail
    refine K.out.mono ?_
    rintro e w12 ⟨rfl, hb⟩
    have B12 := Lib.hid (B11.out.trans (hb.mono B11.out.size))
    have Z12 := Lib.hid (Z11.out.on hb)
    clear q1 q2 zlt hb K B11 Z11 
    have zlt := Z12.out.lt
    obtain ⟨q1, q2⟩ := Z12.out
    have K := Lib.hid (errT_no 1 w12 (HG.out _ B12.out) (by decide))
    go_wp2_with fail
    refine K.out.mono ?_
    rintro e w13 ⟨rfl, hb⟩
    have B13 := Lib.hid (B12.out.trans (hb.mono B12.out.size))
    have Z13 := Lib.hid (Z12.out.on hb)
    clear q1 q2 zlt hb K B12 Z12 
    have zlt := Z13.out.lt
    obtain ⟨q1, q2⟩ := Z13.out
    clear q1 q2 zlt
    go_wp2
    go_ret
    exact ⟨rfl, B13.out⟩
  have ZT : Hid (zt a l t = 0) := Lib.hid (zt_yes hF.out hT)
  have LT : (twi a l t).length ≤ 21 := by have h1 := twi_len a l t; have h2 := (zf_open hF.out).1; omega
  obtain ⟨n, hn⟩ : ∃ n, n = (twi a l t).length := ⟨_, rfl⟩
  have HN := Lib.hid hn
  rw [← hn] at LT
  clear hn
  go_wp2_with fail
  refine (zrefTime_yes _ _ hT).mono ?_
  rintro e w9 ⟨rfl, hw⟩
  replace hw := hw.symm
  subst hw
  have K := Lib.hid (refTwice_any a l _ t w8 (HV.out _ B8.out) hF.out hT.1 hT.2)
  go_wp2_with fail
  refine K.out.mono ?_
  rintro e w9 ⟨va, rfl, hx, hb⟩
  obtain ⟨xa, xc, ex, _⟩ := id hx
  rw [← HN.out] at ex
  subst ex
  have IA9 := Lib.hid hx
  clear hx
  have B9 := Lib.hid (B8.out.trans (hb.mono B8.out.size))
  have Z9 := Lib.hid (Z8.out.on hb)
  clear q1 q2 zlt hb K B8 Z8 
  have zlt := Z9.out.lt
  obtain ⟨q1, q2⟩ := Z9.out
  rcases h0 : ((n : Int) == 0) with _ | _
  · have ZW : Hid (zw a l t = 0) := Lib.hid (by unfold zw; rw [if_pos ZT.out, if_neg (by rw [← HN.out]; have := beq_eq_false_iff_ne.1 h0; omega)])
    obtain ⟨x, hx⟩ : ∃ x, x = (twi a l t).getD 0 0 := ⟨_, rfl⟩
    have HX := Lib.hid hx
    clear hx
    have np : (0 : Int) < (n : Int) := by have := beq_eq_false_iff_ne.1 h0; omega
    obtain ⟨xa2, xc2, ex2, hc⟩ := id IA9.out
    obtain ⟨rfl, rfl⟩ : xa = xa2 ∧ xc = xc2 := by
      have e3 : (n : Nat) = (twi a l t).length := HN.out
      simp only [Value.slice.injEq] at ex2
      exact ⟨ex2.1, ex2.2.2⟩
    rcases hc with hc | ⟨b, off, rfl, hc⟩
    · have := HN.out; rw [hc] at this; simp at this; omega
    have c0 := hc 0 (by rw [← HN.out]; omega)
    rw [← HX.out, Nat.add_zero] at c0
    clear hc ex2
    have K := Lib.hid (ztwice_any a l _ t w9 (HV.out _ B9.out))
    rw [ZT.out] at K
    go_wp2_with fail
    refine K.out.mono ?_
    rintro e w10 ⟨hb, ⟨hz, _⟩ | ⟨_, vb, rfl, hx⟩⟩
    case inl => exact absurd rfl hz
    obtain ⟨ya, yc, ey, _⟩ := id hx
    rw [← HN.out] at ey
    subst ey
    have IB10 := Lib.hid hx
    clear hx
    have B10 := Lib.hid (B9.out.trans (hb.mono B9.out.size))
    have Z10 := Lib.hid (Z9.out.on hb)
    have IA10 := Lib.hid (IA9.out.on hb)
    clear c0 q1 q2 zlt hb K B9 Z9 IA9
    have zlt := Z10.out.lt
    obtain ⟨q1, q2⟩ := Z10.out
    have K := Lib.hid (errT_nil w10)
    go_wp2_with fail
    refine K.out.mono ?_
    rintro e w11 ⟨rfl, hb⟩
    have B11 := Lib.hid (B10.out.trans (hb.mono B10.out.size))
    have Z11 := Lib.hid (Z10.out.on hb)
    have IA11 := Lib.hid (IA10.out.on hb)
    have IB11 := Lib.hid (IB10.out.on hb)
    clear q1 q2 zlt hb K B10 Z10 IA10 IB10
    have zlt := Z11.out.lt
    obtain ⟨q1, q2⟩ := Z11.out
    have KS := Lib.hid (sameInts (twi a l t) _ _ w11 IB11.out IA11.out (by rw [← HN.out]; omega))
    go_wp2_with fail
    refine KS.out.mono ?_
    rintro e w12 ⟨rfl, hb⟩
    have B12 := Lib.hid (B11.out.trans (hb.mono B11.out.size))
    have Z12 := Lib.hid (Z11.out.on hb)
    clear q1 q2 zlt hb KS B11 Z11 IA11 IB11
    have zlt := Z12.out.lt
    obtain ⟨q1, q2⟩ := Z12.out
    have K := Lib.hid (zworld_any a l _ t w12 (HV.out _ B12.out))
    rw [NumA_yes ZW.out, ← HX.out] at K
    go_wp2_with fail
    refine K.out.mono ?_
    rintro e w13 ⟨rfl, hb⟩
    have B13 := Lib.hid (B12.out.trans (hb.mono B12.out.size))
    have Z13 := Lib.hid (Z12.out.on hb)
    clear q1 q2 zlt hb K B12 Z12 
    have zlt := Z13.out.lt
    obtain ⟨q1, q2⟩ := Z13.out
    have K := Lib.hid (errT_nil w13)
    go_wp2_with fail
    refine K.out.mono ?_
    rintro e w14 ⟨rfl, hb⟩
    have B14 := Lib.hid (B13.out.trans (hb.mono B13.out.size))
    have Z14 := Lib.hid (Z13.out.on hb)
    clear q1 q2 zlt hb K B13 Z13 
    have zlt := Z14.out.lt
    obtain ⟨q1, q2⟩ := Z14.out
    clear q1 q2 zlt
    go_wp2
    go_ret
    exact ⟨rfl, B14.out⟩
  · have ZW : Hid (zw a l t = 8) := Lib.hid (by unfold zw; rw [if_pos ZT.out, if_pos (by rw [← HN.out]; have := beq_iff_eq.1 h0; omega)])
    have K := Lib.hid (ztwice_any a l _ t w9 (HV.out _ B9.out))
    rw [ZT.out] at K
    go_wp2_with fail
    refine K.out.mono ?_
    rintro e w10 ⟨hb, ⟨hz, _⟩ | ⟨_, vb, rfl, hx⟩⟩
    case inl => exact absurd rfl hz
    obtain ⟨ya, yc, ey, _⟩ := id hx
    rw [← HN.out] at ey
    subst ey
    have IB10 := Lib.hid hx
    clear hx
    have B10 := Lib.hid (B9.out.trans (hb.mono B9.out.size))
    have Z10 := Lib.hid (Z9.out.on hb)
    have IA10 := Lib.hid (IA9.out.on hb)
    clear q1 q2 zlt hb K B9 Z9 IA9
    have zlt := Z10.out.lt
    obtain ⟨q1, q2⟩ := Z10.out
    have K := Lib.hid (errT_nil w10)
    go_wp2_with fail
    refine K.out.mono ?_
    rintro e w11 ⟨rfl, hb⟩
    have B11 := Lib.hid (B10.out.trans (hb.mono B10.out.size))
    have Z11 := Lib.hid (Z10.out.on hb)
    have IA11 := Lib.hid (IA10.out.on hb)
    have IB11 := Lib.hid (IB10.out.on hb)
    clear q1 q2 zlt hb K B10 Z10 IA10 IB10
    have zlt := Z11.out.lt
    obtain ⟨q1, q2⟩ := Z11.out
    have KS := Lib.hid (sameInts (twi a l t) _ _ w11 IB11.out IA11.out (by rw [← HN.out]; omega))
    go_wp2_with fail
    refine KS.out.mono ?_
    rintro e w12 ⟨rfl, hb⟩
    have B12 := Lib.hid (B11.out.trans (hb.mono B11.out.size))
    have Z12 := Lib.hid (Z11.out.on hb)
    clear q1 q2 zlt hb KS B11 Z11 IA11 IB11
    have zlt := Z12.out.lt
    obtain ⟨q1, q2⟩ := Z12.out
    have K := Lib.hid (zworld_any a l _ t w12 (HV.out _ B12.out))
    rw [ZW.out, NumA_no (by decide)] at K
    go_wp2_with fail
    refine K.out.mono ?_
    rintro e w13 ⟨rfl, hb⟩
    have B13 := Lib.hid (B12.out.trans (hb.mono B12.out.size))
    have Z13 := Lib.hid (Z12.out.on hb)
    clear q1 q2 zlt hb K B12 Z12 
    have zlt := Z13.out.lt
    obtain ⟨q1, q2⟩ := Z13.out
    have K := Lib.hid (errT_no 8 w13 (HG.out _ B13.out) (by decide))
    go_wp2_with fail
    refine K.out.mono ?_
    rintro e w14 ⟨rfl, hb⟩
    have B14 := Lib.hid (B13.out.trans (hb.mono B13.out.size))
    have Z14 := Lib.hid (Z13.out.on hb)
    clear q1 q2 zlt hb K B13 Z13 
    have zlt := Z14.out.lt
    obtain ⟨q1, q2⟩ := Z14.out
    clear q1 q2 zlt
    go_wp2
    go_ret
    exact ⟨rfl, B14.out⟩
theorem ztells (a : Int) (l : List (Int × Int)) (v : Value) (u t : Int) (w : World) (hv : ZoneIn w v a l) (hG : ErrTy w) :
    Calls Tryd.prog 4 #[v, .int .i64 u, .int .i64 t] w fun e w' => e = .returned (.bool true) ∧ Below w.heap.size w w' := by
  by_cases hF : zf a l = 0
  · by_cases hU : 1 ≤ u ∧ u ≤ 157785119
    · by_cases hS : 1 ≤ u + zah a l (beg u l) ∧ u + zah a l (beg u l) ≤ 157785119
      · exact ztells_in a l v u t w hv hG hF hU hS
      · exact ztells_out a l v u t w hv hG hF hU hS
    · exact ztells_none a l v u t w hv hG hF hU
  · exact ztells_bad a l v u t w hv hG _ rfl hF
end Go.Proofs.YtnnpnalfkcngmadDoor
