/-
  What is proved here: the walk of chimelaw1.SeqTells: it returns true for every rule and four numbers, and turns nothing that was there; the table of months, and that the program's own type of errors is the one that is listed, are asked as premises.
-/
import Derived.Test.YtnnpnalfkcngmacGreatDoorSqTellsB
namespace Go.Proofs.YtnnpnalfkcngmacGreatDoor
open Go.RowKit Cal Txt

/-- What grows less from round to round. -/
def msr2 (gv tv : Value) : Nat := if intOf gv = 5 then (if intOf tv = 400 then 3 else if intOf tv = 8000 then 2 else 1) else 0
/-- What holds from step to step. -/
def OutR (r : Rl) (s fr : Int) (wa : World) (xv gv tv : Value) (wr : World) : Prop := ∃ x g st : Int, xv = .int .i64 x ∧ gv = .int .i64 g ∧ tv = .int .i64 st ∧ (st ≤ 3200000 ∧ 1 ≤ st) ∧ ((g = 5 ∧ x = 0 ∧ (st = 400 ∨ st = 8000 ∨ st = 160000)) ∨ (g = 0 ∧ nxX r s fr = x ∧ nxG r s fr = 0)) ∧ Below wa.heap.size wa wr
def msr3 (n : Nat) (gv iv : Value) : Nat := if intOf gv = 5 then n + 1 - (intOf iv).toNat else 0
set_option maxRecDepth 100000 in
set_option maxHeartbeats 16000000 in
theorem stells (r : Rl) (v : Value) (s n fr t : Int) (w : World) (hv : RuleIn w v r) (hT : Tab w) (hG : ErrTy w) (hfr : fr ≤ 9223372036854775807) :
    Calls Tryz.prog 3 #[v, .int .i64 s, .int .i64 n, .int .i64 fr, .int .i64 t] w fun e w' => e = .returned (.bool true) ∧ Below w.heap.size w w' := by
  obtain ⟨i0, hi, hz0, hz1, hz2⟩ := info_parts info_per_int
  have HV := Lib.hid (fun W (q : Below w.heap.size w W) => hv.on q)
  have HT := Lib.hid (fun W (q : Below w.heap.size w W) => hT.below q)
  have HG := Lib.hid (fun W (q : Below w.heap.size w W) => hG.below q)
  have HFR := Lib.hid hfr
  obtain ⟨am, ad, aw, ap, cm, cd, cw, cp, rfl⟩ := rule_form hv
  have B0 := Lib.hid ((Below.refl w.heap.size w).alloc (Nat.le_refl _) (.cells #[.int .i64 r.freq, .int .i64 r.every, .int .i64 r.count, .int .i64 r.till, .slice am r.months.length cm, .slice ad r.days.length cd, .slice aw r.weeks.length cw, .slice ap r.pick.length cp] 25))
  have R0 := Lib.hid (RBox.new w r.freq r.every r.count r.till (.slice am r.months.length cm) (.slice ad r.days.length cd) (.slice aw r.weeks.length cw) (.slice ap r.pick.length cp) 25)
  clear hv hT hG hfr
  have K := Lib.hid (refRule_in r _ _ (HV.out _ B0.out))
  go_enter Tryz.func3, Tryz.ntmps3
  go_wp2_with fail
  generalize w.alloc (.cells #[.int .i64 r.freq, .int .i64 r.every, .int .i64 r.count, .int .i64 r.till, .slice am r.months.length cm, .slice ad r.days.length cd, .slice aw r.weeks.length cw, .slice ap r.pick.length cp] 25) = w0 at B0 R0 K ⊢
  refine K.out.mono ?_
  rintro e w1 ⟨rfl, hb⟩
  have B1 := Lib.hid (B0.out.trans (hb.mono B0.out.size))
  have R1 := Lib.hid (R0.out.on hb)
  clear hb K B0 R0
  go_upto_region 2 with fail
  go_cut [12, 13] from 40 to 259 (fun s12 s13 wx => s13 = .bool (decide (1 ≤ s ∧ s ≤ 109573)) ∧ Below w.heap.size w wx ∧ RBox wx w.heap.size r.freq r.every r.count r.till (.slice am r.months.length cm) (.slice ad r.days.length cd) (.slice aw r.weeks.length cw) (.slice ap r.pick.length cp))
  case first =>
    as_aux_lemma =>
      by_cases hd : 1 ≤ s ∧ s ≤ 109573
      · have ED : Hid (decide (1 ≤ s ∧ s ≤ 109573) = true) := Lib.hid (decide_eq_true hd)
        have K := Lib.hid (refDate_yes s w1 hd.1 hd.2)
        go_wp2_with fail
        refine K.out.mono ?_
        rintro e wd ⟨rfl, hb⟩
        have BD := B1.out.trans (hb.mono B1.out.size)
        have RD := R1.out.on hb
        have BE := Lib.hid (fun o => BD.alloc BD.size o)
        have RE := Lib.hid (fun o => RD.on ((Below.refl _ _).alloc (Nat.le_refl _) o))
        clear hb K BD RD hd
        go_wp2
        go_meet
        case rel => exact ⟨by rw [ED.out], BE.out _, RE.out _⟩
      · have ED : Hid (decide (1 ≤ s ∧ s ≤ 109573) = false) := Lib.hid (decide_eq_false hd)
        have K := Lib.hid (refDate_no s w1 hd)
        go_wp2_with fail
        refine K.out.mono ?_
        rintro e wd ⟨rfl, hb⟩
        have BD := B1.out.trans (hb.mono B1.out.size)
        have RD := R1.out.on hb
        have BE := Lib.hid (fun o => BD.alloc BD.size o)
        have RE := Lib.hid (fun o => RD.on ((Below.refl _ _).alloc (Nat.le_refl _) o))
        clear hb K BD RD hd
        go_wp2
        go_meet
        case rel => exact ⟨by rw [ED.out], BE.out _, RE.out _⟩
  case rest => as_aux_lemma =>
  obtain ⟨rfl, hb, hr⟩ := hcut
  obtain ⟨w2, hw⟩ := wname hb
  subst hw
  have B2 := Lib.hid hb
  have R2 := Lib.hid hr
  clear hb hr B1 R1
  obtain ⟨Z, hZ⟩ : ∃ Z, Z = rf r := ⟨_, rfl⟩
  rw [← hZ]
  have HZ := Lib.hid hZ
  clear hZ
  obtain ⟨dt, hdt⟩ : ∃ dt, dt = decide (1 ≤ s ∧ s ≤ 109573) := ⟨_, rfl⟩
  rw [← hdt]
  have HDT := Lib.hid hdt
  clear hdt
  go_upto_region 3 with fail
  go_cut [52] from 40 to 259 (fun sc wx => sc = .bool ((Z == 0) && !dt) ∧ wx = w2)
  case first =>
    as_aux_lemma =>
      rcases h0 : (Z == 0) with _ | _
      · go_wp2
        go_meet
        case rel => exact ⟨by rw [h0]; rfl, rfl⟩
      · go_wp2
        go_meet
        case rel => exact ⟨by rw [h0]; rfl, rfl⟩
  case rest => as_aux_lemma =>
  obtain ⟨rfl, hw⟩ := hcut
  replace hw := hw.symm
  subst hw
  obtain ⟨E, hE⟩ : ∃ E, E = sf r s := ⟨_, rfl⟩
  have HE := Lib.hid hE
  clear hE
  go_upto_if 52 with fail
  go_cut [11] from 40 to 259 (fun sc wx => sc = .int .i64 E ∧ wx = w2)
  case first =>
    as_aux_lemma =>
      rcases hd : ((Z == 0) && !dt) with _ | _
      · have EV : Hid (Z = E) := Lib.hid (by rw [HE.out]; exact sf_same HZ.out HDT.out hd)
        clear hd
        go_wp2
        go_meet
        case rel => exact ⟨by rw [EV.out], rfl⟩
      · have EV : Hid ((1 : Int) = E) := Lib.hid (by rw [HE.out]; exact sf_one HZ.out HDT.out hd)
        clear hd
        go_wp2
        go_meet
        case rel => exact ⟨by rw [EV.out], rfl⟩
  case rest => as_aux_lemma =>
  obtain ⟨rfl, hw⟩ := hcut
  replace hw := hw.symm
  subst hw
  go_upto_region 6 with fail
  go_cut [63] from 40 to 259 (fun sc wx => sc = .bool ((E == 0) && (decide (n < 0) || decide (200 < n))) ∧ wx = w2)
  case first =>
    as_aux_lemma =>
      rcases h0 : (E == 0) with _ | _
      · go_wp2
        go_meet
        case rel => exact ⟨by rw [h0]; rfl, rfl⟩
      · rcases h1 : decide (n < 0) with _ | _
        · go_wp2
          go_meet
          case rel => exact ⟨by rw [h0, h1]; rfl, rfl⟩
        · go_wp2
          go_meet
          case rel => exact ⟨by rw [h0, h1]; rfl, rfl⟩
  case rest => as_aux_lemma =>
  obtain ⟨rfl, hw⟩ := hcut
  replace hw := hw.symm
  subst hw
  obtain ⟨F, hF⟩ : ∃ F, F = ff r s n := ⟨_, rfl⟩
  have HF := Lib.hid hF
  clear hF
  go_upto_if 63 with fail
  go_cut [14] from 40 to 259 (fun sc wx => sc = .int .i64 F ∧ wx = w2)
  case first =>
    as_aux_lemma =>
      rcases hd : ((E == 0) && (decide (n < 0) || decide (200 < n))) with _ | _
      · have EV : Hid (E = F) := Lib.hid (by rw [HF.out]; exact ff_same HE.out hd)
        clear hd
        go_wp2
        go_meet
        case rel => exact ⟨by rw [EV.out], rfl⟩
      · have EV : Hid ((1 : Int) = F) := Lib.hid (by rw [HF.out]; exact ff_one HE.out hd)
        clear hd
        go_wp2
        go_meet
        case rel => exact ⟨by rw [EV.out], rfl⟩
  case rest => as_aux_lemma =>
  obtain ⟨rfl, hw⟩ := hcut
  replace hw := hw.symm
  subst hw
  go_upto_if 65 with fail
  go_cut [15] from 40 to 259 (fun s15 wx => Ints wx s15 (fsL r s n) ∧ Below w.heap.size w wx ∧ RBox wx w.heap.size r.freq r.every r.count r.till (.slice am r.months.length cm) (.slice ad r.days.length cd) (.slice aw r.weeks.length cw) (.slice ap r.pick.length cp))
  case first =>
    as_aux_lemma =>
      rcases h0 : (F == 0) with _ | _
      · have EL : Hid (fsL r s n = []) := Lib.hid (if_neg (by rw [← HF.out]; simpa using h0))
        go_wp2
        go_meet
        case rel => exact ⟨by rw [EL.out]; exact nil_ints _, B2.out, R2.out⟩
      · have hf0 : ff r s n = 0 := by rw [← HF.out]; simpa using h0
        obtain ⟨hE0, n0, n2⟩ := ff_good hf0
        obtain ⟨gz, g1, g2⟩ := sf_ok hE0
        have EL : Hid (fsL r s n = dsq r s 109573 n) := Lib.hid (by rw [dsq_all hE0]; exact if_pos hf0)
        have K := Lib.hid (refSeq_any r _ s 109573 n w2 (HV.out _ B2.out) gz g1 g2 (Int.le_refl _) (by omega))
        clear hf0 hE0 gz
        have rl := R2.out.lt
        obtain ⟨x0, x1, x2, x3, x4, x5, x6, x7⟩ := R2.out
        go_wp2_with fail
        clear x0 x1 x2 x3 x4 x5 x6 x7 rl
        refine K.out.mono ?_
        rintro e wq ⟨v1, rfl, hx, hb⟩
        have BQ := Lib.hid (B2.out.trans (hb.mono B2.out.size))
        have RQ := Lib.hid (R2.out.on hb)
        have IQ := Lib.hid hx
        clear hb hx K
        go_wp2
        go_meet
        case rel => exact ⟨by rw [EL.out]; exact IQ.out, BQ.out, RQ.out⟩
  case rest => as_aux_lemma =>
  obtain ⟨hx, hb, hr⟩ := hcut
  obtain ⟨w3, hw⟩ := wname hb
  subst hw
  have B3 := Lib.hid hb
  have R3 := Lib.hid hr
  have IA3 := Lib.hid hx
  clear hb hr hx B2 R2
  have K := Lib.hid (first_uni r _ s n w3 (HV.out _ B3.out) (HT.out _ B3.out))
  rw [← HF.out] at K
  have rl := R3.out.lt
  obtain ⟨x0, x1, x2, x3, x4, x5, x6, x7⟩ := R3.out
  go_wp2_with fail
  clear x0 x1 x2 x3 x4 x5 x6 x7 rl
  refine K.out.mono ?_
  rintro e w4 ⟨v2, rfl, hy, hb⟩
  have IB4 := Lib.hid hy
  clear hy
  have B4 := Lib.hid (B3.out.trans (hb.mono B3.out.size))
  have R4 := Lib.hid (R3.out.on hb)
  have IA4 := Lib.hid (IA3.out.on hb)
  clear hb K B3 R3 IA3
  have K := Lib.hid (errT_fault F w4 (HG.out _ B4.out))
  have rl := R4.out.lt
  obtain ⟨x0, x1, x2, x3, x4, x5, x6, x7⟩ := R4.out
  go_wp2_with fail
  clear x0 x1 x2 x3 x4 x5 x6 x7 rl
  refine K.out.mono ?_
  rintro e w5 ⟨rfl, hb⟩
  have B5 := Lib.hid (B4.out.trans (hb.mono B4.out.size))
  have R5 := Lib.hid (R4.out.on hb)
  have IA5 := Lib.hid (IA4.out.on hb)
  have IB5 := Lib.hid (IB4.out.on hb)
  clear hb K B4 R4 IA4 IB4
  have K := Lib.hid (sameInts (fsL r s n) _ _ w5 IB5.out IA5.out (by have := fsL_len (r := r) (s := s) (n := n); omega))
  have rl := R5.out.lt
  obtain ⟨x0, x1, x2, x3, x4, x5, x6, x7⟩ := R5.out
  go_wp2_with fail
  clear x0 x1 x2 x3 x4 x5 x6 x7 rl
  refine K.out.mono ?_
  rintro e w6 ⟨rfl, hb⟩
  have B6 := Lib.hid (B5.out.trans (hb.mono B5.out.size))
  have R6 := Lib.hid (R5.out.on hb)
  clear hb K B5 R5 IA5 IB5
  go_upto_if 84 with fail
  go_cut [20] from 40 to 259 (fun s20 wx => s20 = .int .i64 (ctN r s) ∧ Below w.heap.size w wx ∧ RBox wx w.heap.size r.freq r.every r.count r.till (.slice am r.months.length cm) (.slice ad r.days.length cd) (.slice aw r.weeks.length cw) (.slice ap r.pick.length cp))
  case first =>
    as_aux_lemma =>
      rcases h0 : (E == 0) with _ | _
      · have EL : Hid (ctN r s = 0) := Lib.hid (if_neg (by rw [← HE.out]; simpa using h0))
        go_wp2
        go_meet
        case rel => exact ⟨by rw [EL.out], B6.out, R6.out⟩
      · have hE0 : sf r s = 0 := by rw [← HE.out]; simpa using h0
        obtain ⟨gz, g1, g2⟩ := sf_ok hE0
        have EL : Hid (ctN r s = ((dsq r s 109573 201).length : Int)) := Lib.hid (by rw [dsq_all hE0, List.length_take]; exact if_pos hE0)
        have K := Lib.hid (refSeq_any r _ s 109573 201 w6 (HV.out _ B6.out) gz g1 g2 (Int.le_refl _) (by omega))
        clear hE0 gz
        have rl := R6.out.lt
        obtain ⟨x0, x1, x2, x3, x4, x5, x6, x7⟩ := R6.out
        go_wp2_with fail
        clear x0 x1 x2 x3 x4 x5 x6 x7 rl
        refine K.out.mono ?_
        rintro e wq ⟨v1, rfl, hx, hb⟩
        obtain ⟨qa, qc, rfl, _⟩ := id hx
        have BQ := Lib.hid (B6.out.trans (hb.mono B6.out.size))
        have RQ := Lib.hid (R6.out.on hb)
        clear hb hx K
        go_wp2
        go_meet
        case rel => exact ⟨by rw [EL.out], BQ.out, RQ.out⟩
  case rest => as_aux_lemma =>
  obtain ⟨rfl, hb, hr⟩ := hcut
  obtain ⟨w7, hw⟩ := wname hb
  subst hw
  have B7 := Lib.hid hb
  have R7 := Lib.hid hr
  clear hb hr B6 R6
  have K := Lib.hid (count_uni r _ s w7 (HV.out _ B7.out) (HT.out _ B7.out))
  rw [← HE.out] at K
  have rl := R7.out.lt
  obtain ⟨x0, x1, x2, x3, x4, x5, x6, x7⟩ := R7.out
  go_wp2_with fail
  clear x0 x1 x2 x3 x4 x5 x6 x7 rl
  refine K.out.mono ?_
  rintro e w8 ⟨rfl, hb⟩
  have B8 := Lib.hid (B7.out.trans (hb.mono B7.out.size))
  have R8 := Lib.hid (R7.out.on hb)
  clear hb K B7 R7 
  have K := Lib.hid (errT_fault E w8 (HG.out _ B8.out))
  have rl := R8.out.lt
  obtain ⟨x0, x1, x2, x3, x4, x5, x6, x7⟩ := R8.out
  go_wp2_with fail
  clear x0 x1 x2 x3 x4 x5 x6 x7 rl
  refine K.out.mono ?_
  rintro e w9 ⟨rfl, hb⟩
  have B9 := Lib.hid (B8.out.trans (hb.mono B8.out.size))
  have R9 := Lib.hid (R8.out.on hb)
  clear hb K B8 R8 
  go_upto_if 101 with fail
  go_cut [14, 23, 24, 25, 26, 27, 28, 29, 30, 31] from 40 to 259 (fun s14 s23 s24 s25 s26 s27 s28 s29 s30 s31 wx => s14 = .int .i64 (bwF r s fr t) ∧ Ints wx s23 (bwL r s fr t) ∧ s24 = .int .i64 (nxX r s fr) ∧ s25 = .int .i64 (nxG r s fr) ∧ Below w.heap.size w wx ∧ RBox wx w.heap.size r.freq r.every r.count r.till (.slice am r.months.length cm) (.slice ad r.days.length cd) (.slice aw r.weeks.length cw) (.slice ap r.pick.length cp))
  case first =>
    as_aux_lemma =>
      rcases h0 : (E == 0) with _ | _
      · obtain ⟨e1, e2, e3, e4, _, _⟩ := bwF_bad (r := r) (s := s) (fr := fr) (t := t) (by rw [← HE.out]; simpa using h0)
        have EL : Hid (bwF r s fr t = E ∧ bwL r s fr t = [] ∧ nxX r s fr = 0 ∧ nxG r s fr = E) := Lib.hid ⟨by rw [e1, HE.out], e2, e3, by rw [e4, HE.out]⟩
        clear e1 e2 e3 e4
        go_wp2
        go_meet
        case rel => exact ⟨by rw [EL.out.1], by rw [EL.out.2.1]; exact nil_ints _, by rw [EL.out.2.2.1], by rw [EL.out.2.2.2], B9.out, R9.out⟩
      · have hE0 : sf r s = 0 := by rw [← HE.out]; simpa using h0
        obtain ⟨gz, g1, g2⟩ := sf_ok hE0
        have HE0 := Lib.hid hE0
        have HGZ := Lib.hid gz
        clear hE0 gz
        obtain ⟨H, hH⟩ : ∃ H : Int, (H = t ∧ ¬ 109573 < t) ∨ (H = 109573 ∧ 109573 < t) := by
          by_cases q : 109573 < t
          · exact ⟨109573, Or.inr ⟨rfl, q⟩⟩
          · exact ⟨t, Or.inl ⟨rfl, q⟩⟩
        have HH := Lib.hid hH
        have hb1 : H ≤ 109573 := by omega
        clear hH
        go_upto_if 104 with fail
        go_cut [26] from 40 to 259 (fun s26 wx => s26 = .int .i64 H ∧ wx = w9)
        case first =>
          as_aux_lemma =>
            rcases HH.out with ⟨q1, q2⟩ | ⟨q1, q2⟩
            · have EV := Lib.hid q1
              clear q1
              go_wp2
              go_meet
              case rel => exact ⟨by rw [EV.out], rfl⟩
            · have EV := Lib.hid q1
              clear q1
              go_wp2
              go_meet
              case rel => exact ⟨by rw [EV.out], rfl⟩
        case rest =>
          as_aux_lemma =>
            obtain ⟨rfl, hw⟩ := hcut
            replace hw := hw.symm
            subst hw
            have K := Lib.hid (refSeq_any r _ s H 200000 w9 (HV.out _ B9.out) HGZ.out g1 g2 hb1 (by omega))
            rw [dsq_much HE0.out hb1] at K
            have rl := R9.out.lt
            obtain ⟨x0, x1, x2, x3, x4, x5, x6, x7⟩ := R9.out
            go_wp2_with fail
            clear x0 x1 x2 x3 x4 x5 x6 x7 rl
            refine K.out.mono ?_
            rintro e W1 ⟨v1, rfl, hx, hb⟩
            have BQ := Lib.hid (B9.out.trans (hb.mono B9.out.size))
            have RQ := Lib.hid (R9.out.on hb)
            obtain ⟨ALL, hALL⟩ : ∃ ALL, ALL = (DAYS r s).filter (fun x => decide (x ≤ H)) := ⟨_, rfl⟩
            rw [← hALL] at hx
            have AL : ALL.length ≤ 109573 := by rw [hALL]; exact Nat.le_trans (List.length_filter_le _ _) (DAYS_len HE0.out)
            have AE : Hid (ALL.filter (fun x => decide (fr ≤ x)) = bwA r s fr t) := Lib.hid (by rw [hALL]; exact dsq_from HE0.out (by rcases HH.out with q | q; exact Or.inl q.1; exact Or.inr q))
            obtain ⟨qa, qc, rfl, _⟩ := id hx
            have IQ := Lib.hid (fun W q => hx.on (w' := W) q)
            clear hb hx K hALL
            go_wp2_with fail
            go_loopw [23, 28] (fun sv iv wr => ∃ i : Nat, i ≤ ALL.length ∧ iv = .int .i64 i ∧ wr.ownsRow W1.heap.size 3 1 sv ((ALL.take i).filter (fun x => decide (fr ≤ x))).length (nums ((ALL.take i).filter (fun x => decide (fr ≤ x)))) ∧ Below W1.heap.size W1 wr) (fun _ iv _ => ALL.length - (intOf iv).toNat)
            case atStart => exact ⟨0, Nat.zero_le _, rfl, World.ownsRow_nil _ _ _ _, Below.refl _ _⟩
            case round =>
              obtain ⟨i, hi', rfl, hown, hB⟩ := hrel
              obtain ⟨wa, hwa⟩ := wname hB
              subst hwa
              have HO := Lib.hid hown
              have HBa := Lib.hid hB
              have FL := List.length_filter_le (fun x => decide (fr ≤ x)) (ALL.take i)
              rw [List.length_take] at FL
              have szx := hB.size
              clear hown
              by_cases hlt : i < ALL.length
              · obtain ⟨qa', qc', e', hc⟩ := IQ.out _ hB
                obtain ⟨rfl, rfl⟩ : qa = qa' ∧ qc = qc' := by simpa using e'
                rcases hc with hc | ⟨lb, lo, rfl, hc⟩
                · rw [hc] at hlt; simp at hlt
                have k1 := hc i hlt
                obtain ⟨x, hx⟩ : ∃ x, x = ALL.getD i 0 := ⟨_, rfl⟩
                rw [← hx] at k1
                obtain ⟨n1, n2⟩ := filt_next (fr := fr) hlt
                rw [← hx] at n1 n2
                clear hc e' hx hB
                generalize (ALL.take i).filter (fun x => decide (fr ≤ x)) = xs at HO n1 n2 FL
                by_cases hq : fr ≤ x
                · as_aux_lemma =>
                  have M1 := Lib.hid (n1 hq)
                  clear n1 n2
                  go_wp2_with (at_builtin; refine wpList_append_own _ rfl _ _ 22 rfl W1.heap.size 3 i0 (.int .i64 0) 1 8 Tryz.underlying22 hi hz0 hz1 hz2 rfl (by decide) _ _ _ rfl (HO.out.alloc _) ⟨wa.heap.size, 0, none⟩ 1 1 [.int .i64 x] rfl rfl ?d1 ?d2 ?d3 ?d4 ?d5 ?_)
                  case d1 =>
                    intro j u hj
                    match j, hj with
                    | 0, hj => simp at hj; subst hj; simp [Addr.add]
                  case d2 => intro u hu; simp at hu; subst hu; rfl
                  case d3 => unfold maxLen; omega
                  case d4 => omega
                  case d5 => simp; omega
                  intro v' w5 hown' hgrow _
                  have Q2 := Lib.hid (ow_grow HBa.out.size HBa.out (Below.refl _ _) HO.out hgrow)
                  have Q1 := Lib.hid hown'
                  rw [← nums_snoc] at Q1
                  clear hown' hgrow HO k1
                  go_wp2
                  go_roundw
                  case rel => exact ⟨i + 1, by omega, by go_num, by rw [M1.out, List.length_append]; exact Q1.out, Q2.out⟩
                  case measure => simp [intOf]; omega
                · as_aux_lemma =>
                  have M1 := Lib.hid (n2 hq)
                  clear n1 n2
                  go_wp2
                  go_roundw
                  case rel => exact ⟨i + 1, by omega, by go_num, by rw [M1.out]; exact HO.out, HBa.out⟩
                  case measure => simp [intOf]; omega
              have EA : Hid ((ALL.take i).filter (fun x => decide (fr ≤ x)) = bwA r s fr t) := Lib.hid (by rw [List.take_of_length_le (by omega)]; exact AE.out)
              rw [EA.out] at HO FL
              have IS := Lib.hid (ow_ints HO.out)
              obtain ⟨sa, sc, es, _⟩ := id IS.out
              subst es
              have BA := Lib.hid (BQ.out.trans (hB.mono BQ.out.size))
              have RA := Lib.hid (RQ.out.on hB)
              clear hi' hB HO IQ EA AE HBa BQ RQ
              go_upto_if 130 with fail
              go_cut [14, 23] from 40 to 259 (fun s14 s23 wx => s14 = .int .i64 (bwF r s fr t) ∧ Ints wx s23 (bwL r s fr t) ∧ wx = wa)
              case first =>
                as_aux_lemma =>
                  by_cases hq : 200 < (bwA r s fr t).length
                  · have EV := Lib.hid ((bwF_good HE0.out).1 hq)
                    generalize (bwA r s fr t).length = m at hq FL ⊢
                    go_wp2
                    go_meet
                    case rel => exact ⟨by rw [EV.out.1], by rw [EV.out.2]; exact nil_ints _, rfl⟩
                  · have EV := Lib.hid ((bwF_good HE0.out).2 hq)
                    have EI := Lib.hid IS.out
                    have EZ : Hid (E = 0) := Lib.hid (by simpa using h0)
                    go_wp2
                    go_meet
                    case rel => exact ⟨by rw [EV.out.1, EZ.out], by rw [EV.out.2]; exact EI.out, rfl⟩
              case rest =>
                as_aux_lemma =>
                  obtain ⟨rfl, hI, hw⟩ := hcut
                  replace hw := hw.symm
                  subst hw
                  have IS2 := Lib.hid hI
                  clear hI IS FL hlt
                  obtain ⟨L, hL⟩ : ∃ L : Int, (L = s - 1 ∧ fr < s) ∨ (L = fr ∧ ¬ fr < s) := by
                    by_cases q : fr < s
                    · exact ⟨s - 1, Or.inl ⟨rfl, q⟩⟩
                    · exact ⟨fr, Or.inr ⟨rfl, q⟩⟩
                  have HL := Lib.hid hL
                  have L0 : 0 ≤ L := by omega
                  have L1 : ¬ L < 109573 → 109573 ≤ fr := by omega
                  have HL1 := Lib.hid L1
                  clear hL L1
                  go_upto_if 134 with fail
                  go_cut [29] from 40 to 259 (fun s29 wx => s29 = .int .i64 L ∧ wx = wa)
                  case first =>
                    as_aux_lemma =>
                      rcases HL.out with ⟨q1, q2⟩ | ⟨q1, q2⟩
                      · have EV := Lib.hid q1
                        clear q1
                        go_wp2
                        go_meet
                        case rel => exact ⟨by rw [EV.out], rfl⟩
                      · have EV := Lib.hid q1
                        clear q1
                        go_wp2
                        go_meet
                        case rel => exact ⟨by rw [EV.out], rfl⟩
                  case rest =>
                    as_aux_lemma =>
                      obtain ⟨rfl, hw⟩ := hcut
                      replace hw := hw.symm
                      subst hw
                      go_wp2_with fail
                      go_loopw [24, 25, 26, 27, 30, 31] (fun xv gv _ _ tv _ wr => OutR r s fr wa xv gv tv wr) (fun _ gv _ _ tv _ _ => msr2 gv tv)
                      case atStart => exact ⟨0, 5, 400, rfl, rfl, rfl, by omega, Or.inl ⟨rfl, rfl, Or.inl rfl⟩, Below.refl _ _⟩
                      case round =>
                        obtain ⟨x, g, st, rfl, rfl, rfl, ⟨st2, st1⟩, hst, hB⟩ := hrel
                        obtain ⟨wb, hwb⟩ := wname hB
                        subst hwb
                        rcases hst with ⟨rfl, rfl, hst⟩ | ⟨rfl, hx1, hx2⟩
                        case inr =>
                          have EV := Lib.hid hx1
                          have EG := Lib.hid hx2
                          have BZ := Lib.hid (BA.out.trans (hB.mono BA.out.size))
                          have RZ := Lib.hid (RA.out.on hB)
                          have IZ := Lib.hid (IS2.out.on hB)
                          clear hx1 hx2 hB
                          by_cases hlow : L < 109573
                          all_goals
                            as_aux_lemma =>
                              go_wp2
                              go_meet
                              case rel => exact ⟨rfl, IZ.out, by rw [EV.out], by rw [EG.out], BZ.out, RZ.out⟩
                        by_cases hlow : L < 109573
                        case neg =>
                          obtain ⟨e1, e2⟩ := nx_none HE0.out (nxt_far HE0.out (HL1.out (by omega)))
                          have EV := Lib.hid e1
                          have EG := Lib.hid e2
                          have BZ := Lib.hid (BA.out.trans (hB.mono BA.out.size))
                          have RZ := Lib.hid (RA.out.on hB)
                          have IZ := Lib.hid (IS2.out.on hB)
                          clear e1 e2 hB
                          as_aux_lemma =>
                            go_wp2
                            go_meet
                            case rel => exact ⟨rfl, IZ.out, by rw [EV.out], by rw [EG.out], BZ.out, RZ.out⟩
                        obtain ⟨H2, hH2⟩ : ∃ H2 : Int, (H2 = L + st ∧ ¬ 109573 < L + st) ∨ (H2 = 109573 ∧ 109573 < L + st) := by
                          by_cases q : 109573 < L + st
                          · exact ⟨109573, Or.inr ⟨rfl, q⟩⟩
                          · exact ⟨L + st, Or.inl ⟨rfl, q⟩⟩
                        have HH2 := Lib.hid hH2
                        have hb2 : H2 ≤ 109573 := by omega
                        have HST := Lib.hid hst
                        clear hH2 hst
                        go_upto_if 149 with fail
                        go_cut [26] from 137 to 175 (fun s26 wx => s26 = .int .i64 H2 ∧ wx = wb)
                        case first =>
                          as_aux_lemma =>
                            rcases HH2.out with ⟨q1, q2⟩ | ⟨q1, q2⟩
                            · have EV := Lib.hid q1
                              clear q1
                              go_wp2
                              go_meet
                              case rel => exact ⟨by rw [EV.out], rfl⟩
                            · have EV := Lib.hid q1
                              clear q1
                              go_wp2
                              go_meet
                              case rel => exact ⟨by rw [EV.out], rfl⟩
                        case rest =>
                          as_aux_lemma =>
                            obtain ⟨rfl, hw⟩ := hcut
                            replace hw := hw.symm
                            subst hw
                            have BB := Lib.hid (BA.out.trans (hB.mono BA.out.size))
                            have RBb := Lib.hid (RA.out.on hB)
                            have HBb := Lib.hid hB
                            clear hB
                            have K := Lib.hid (refSeq_any r _ s H2 200000 wb (HV.out _ BB.out) HGZ.out g1 g2 hb2 (by omega))
                            rw [dsq_much HE0.out hb2] at K
                            have rl := RBb.out.lt
                            obtain ⟨x0, x1, x2, x3, x4, x5, x6, x7⟩ := RBb.out
                            go_wp2_with fail
                            clear x0 x1 x2 x3 x4 x5 x6 x7 rl
                            refine K.out.mono ?_
                            rintro e W3 ⟨v3, rfl, hx, hb⟩
                            have BC := Lib.hid (HBb.out.trans (hb.mono HBb.out.size))
                            obtain ⟨AL2, hAL2⟩ : ∃ AL2, AL2 = (DAYS r s).filter (fun x => decide (x ≤ H2)) := ⟨_, rfl⟩
                            rw [← hAL2] at hx
                            have A2 : AL2.length ≤ 109573 := by rw [hAL2]; exact Nat.le_trans (List.length_filter_le _ _) (DAYS_len HE0.out)
                            have NF : Hid (∀ x, AL2.find? (fun n => decide (fr < n)) = some x → nxX r s fr = x ∧ nxG r s fr = 0) := Lib.hid (fun x q => nx_some HE0.out (nxt_low (t := H2) (by rw [← hAL2]; exact q)))
                            have NN : Hid (H2 = 109573 → AL2.find? (fun n => decide (fr < n)) = none → nxX r s fr = 0 ∧ nxG r s fr = 5) := Lib.hid (fun q q2 => nx_none HE0.out (nxt_last HE0.out (by rw [hAL2, q] at q2; exact q2)))
                            obtain ⟨ta, tc, rfl, hc⟩ := hx
                            have HC := Lib.hid hc
                            clear hb hc K hAL2 HBb BB RBb
                            go_wp2_with fail
                            go_loopw [24, 25, 31] (fun xv gv iv wx => ∃ (i : Nat) (x g : Int), wx = W3 ∧ i ≤ AL2.length ∧ iv = .int .i64 i ∧ xv = .int .i64 x ∧ gv = .int .i64 g ∧ ((g = 5 ∧ x = 0 ∧ (AL2.take i).find? (fun n => decide (fr < n)) = none) ∨ (g = 0 ∧ nxX r s fr = x ∧ nxG r s fr = 0))) (fun _ gv iv _ => msr3 AL2.length gv iv)
                            case atStart => exact ⟨0, 0, 5, rfl, Nat.zero_le _, rfl, rfl, rfl, Or.inl ⟨rfl, rfl, rfl⟩⟩
                            case round =>
                              obtain ⟨i, x, g, hw3, hi', rfl, rfl, rfl, hst⟩ := hrel
                              replace hw3 := hw3.symm
                              subst hw3
                              rcases hst with ⟨rfl, rfl, hnf⟩ | ⟨rfl, hx1, hx2⟩
                              case inr =>
                                have EV := Lib.hid hx1
                                have EG := Lib.hid hx2
                                have BZ := Lib.hid (BA.out.trans (BC.out.mono BA.out.size))
                                have RZ := Lib.hid (RA.out.on BC.out)
                                have IZ := Lib.hid (IS2.out.on BC.out)
                                have hsx : st ≤ 160000 := by have := HST.out; omega
                                clear hx1 hx2
                                rcases h9 : (H2 == 109573) with _ | _
                                · by_cases hlt : i < AL2.length
                                  all_goals
                                    as_aux_lemma =>
                                      go_wp2
                                      go_roundw
                                      case rel => exact ⟨_, 0, st * 20, rfl, rfl, by go_num, by omega, Or.inr ⟨rfl, EV.out, EG.out⟩, BC.out⟩
                                      case measure =>
                                        show (if (0 : Int) = 5 then _ else 0) < (if (5 : Int) = 5 then (if st = 400 then 3 else if st = 8000 then 2 else 1) else 0)
                                        rw [if_neg (by decide), if_pos rfl]
                                        split
                                        · omega
                                        · split <;> omega
                                · by_cases hlt : i < AL2.length
                                  all_goals
                                    as_aux_lemma =>
                                      go_wp2
                                      go_meet
                                      case rel => exact ⟨rfl, IZ.out, by rw [EV.out], by rw [EG.out], BZ.out, RZ.out⟩
                              by_cases hlt : i < AL2.length
                              · rcases HC.out with hc | ⟨lb, lo, rfl, hc⟩
                                · rw [hc] at hlt; simp at hlt
                                have k1 := hc i hlt
                                obtain ⟨y, hy⟩ : ∃ y, y = AL2.getD i 0 := ⟨_, rfl⟩
                                rw [← hy] at k1
                                obtain ⟨n1, n2⟩ := find_next (a := fr) hlt hnf
                                rw [← hy] at n1 n2
                                clear hc hy hnf
                                by_cases hq : fr < y
                                · have EV := Lib.hid (NF.out _ (n1 hq))
                                  clear n1 n2
                                  as_aux_lemma =>
                                    go_wp2
                                    go_roundw
                                    case rel => exact ⟨i + 1, y, 0, by first | rfl | trivial, by omega, by go_num, rfl, rfl, Or.inr ⟨rfl, EV.out.1, EV.out.2⟩⟩
                                    case measure => simp [msr3, intOf]; omega
                                · have EV := Lib.hid (n2 hq)
                                  clear n1 n2
                                  as_aux_lemma =>
                                    go_wp2
                                    go_roundw
                                    case rel => exact ⟨i + 1, 0, 5, by first | rfl | trivial, by omega, by go_num, rfl, rfl, Or.inl ⟨rfl, rfl, EV.out⟩⟩
                                    case measure => simp [msr3, intOf]; omega
                              rw [List.take_of_length_le (by omega)] at hnf
                              have HNF := Lib.hid hnf
                              clear hnf
                              rcases h9 : (H2 == 109573) with _ | _
                              · have h9' : ¬ H2 = 109573 := by simpa using h9
                                have HS2 : Hid ((st = 400 ∨ st = 8000)) := Lib.hid (by have q1 := HST.out; have q2 := HH2.out; omega)
                                clear h9'
                                have stb : st ≤ 8000 := by have := HS2.out; omega
                                as_aux_lemma =>
                                  go_wp2
                                  go_roundw
                                  case rel => exact ⟨0, 5, st * 20, rfl, rfl, by go_num, by omega, Or.inl ⟨rfl, rfl, by have := HS2.out; omega⟩, BC.out⟩
                                  case measure =>
                                    rcases HS2.out with q | q
                                    all_goals
                                      subst q
                                      first | decide | (simp [msr2, intOf])
                              · have EV := Lib.hid (NN.out (by simpa using h9) HNF.out)
                                have BZ := Lib.hid (BA.out.trans (BC.out.mono BA.out.size))
                                have RZ := Lib.hid (RA.out.on BC.out)
                                have IZ := Lib.hid (IS2.out.on BC.out)
                                as_aux_lemma =>
                                  go_wp2
                                  go_meet
                                  case rel => exact ⟨rfl, IZ.out, by rw [EV.out.1], by rw [EV.out.2], BZ.out, RZ.out⟩
  case rest => as_aux_lemma =>
  obtain ⟨rfl, hx, rfl, rfl, hb, hr⟩ := hcut
  obtain ⟨w10, hw⟩ := wname hb
  subst hw
  have B10 := Lib.hid hb
  have R10 := Lib.hid hr
  have IA10 := Lib.hid hx
  clear hb hr hx B9 R9
  have K := Lib.hid (betw_uni r _ s fr t w10 (HV.out _ B10.out) (HT.out _ B10.out) HFR.out)
  have rl := R10.out.lt
  obtain ⟨x0, x1, x2, x3, x4, x5, x6, x7⟩ := R10.out
  go_wp2_with fail
  clear x0 x1 x2 x3 x4 x5 x6 x7 rl
  refine K.out.mono ?_
  rintro e w11 ⟨v2, rfl, hy, hb⟩
  have IB11 := Lib.hid hy
  clear hy
  have B11 := Lib.hid (B10.out.trans (hb.mono B10.out.size))
  have R11 := Lib.hid (R10.out.on hb)
  have IA11 := Lib.hid (IA10.out.on hb)
  clear hb K B10 R10 IA10
  have K := Lib.hid (errT_fault (bwF r s fr t) w11 (HG.out _ B11.out))
  have rl := R11.out.lt
  obtain ⟨x0, x1, x2, x3, x4, x5, x6, x7⟩ := R11.out
  go_wp2_with fail
  clear x0 x1 x2 x3 x4 x5 x6 x7 rl
  refine K.out.mono ?_
  rintro e w12 ⟨rfl, hb⟩
  have B12 := Lib.hid (B11.out.trans (hb.mono B11.out.size))
  have R12 := Lib.hid (R11.out.on hb)
  have IA12 := Lib.hid (IA11.out.on hb)
  have IB12 := Lib.hid (IB11.out.on hb)
  clear hb K B11 R11 IA11 IB11
  have K := Lib.hid (sameInts (bwL r s fr t) _ _ w12 IB12.out IA12.out (by have := bwL_len (r := r) (s := s) (fr := fr) (t := t); omega))
  have rl := R12.out.lt
  obtain ⟨x0, x1, x2, x3, x4, x5, x6, x7⟩ := R12.out
  go_wp2_with fail
  clear x0 x1 x2 x3 x4 x5 x6 x7 rl
  refine K.out.mono ?_
  rintro e w13 ⟨rfl, hb⟩
  have B13 := Lib.hid (B12.out.trans (hb.mono B12.out.size))
  have R13 := Lib.hid (R12.out.on hb)
  clear hb K B12 R12 IA12 IB12
  have K := Lib.hid (next_uni r _ s fr w13 (HV.out _ B13.out) (HT.out _ B13.out) HFR.out)
  have rl := R13.out.lt
  obtain ⟨x0, x1, x2, x3, x4, x5, x6, x7⟩ := R13.out
  go_wp2_with fail
  clear x0 x1 x2 x3 x4 x5 x6 x7 rl
  refine K.out.mono ?_
  rintro e w14 ⟨rfl, hb⟩
  have B14 := Lib.hid (B13.out.trans (hb.mono B13.out.size))
  have R14 := Lib.hid (R13.out.on hb)
  clear hb K B13 R13 
  have K := Lib.hid (errT_fault (nxG r s fr) w14 (HG.out _ B14.out))
  have rl := R14.out.lt
  obtain ⟨x0, x1, x2, x3, x4, x5, x6, x7⟩ := R14.out
  go_wp2_with fail
  clear x0 x1 x2 x3 x4 x5 x6 x7 rl
  refine K.out.mono ?_
  rintro e w15 ⟨rfl, hb⟩
  have B15 := Lib.hid (B14.out.trans (hb.mono B14.out.size))
  have R15 := Lib.hid (R14.out.on hb)
  clear hb K B14 R14 
  go_upto_region 60 with fail
  go_cut [209] from 40 to 259 (fun sc wx => sc = .bool (((E == 0) && decide (1 ≤ fr)) && decide (fr ≤ 109573)) ∧ wx = w15)
  case first =>
    as_aux_lemma =>
      rcases h0 : (E == 0) with _ | _
      · go_wp2
        go_meet
        case rel => exact ⟨by rw [h0]; rfl, rfl⟩
      · rcases h1 : decide (1 ≤ fr) with _ | _
        · go_wp2
          go_meet
          case rel => exact ⟨by rw [h0, h1]; rfl, rfl⟩
        · go_wp2
          go_meet
          case rel => exact ⟨by rw [h0, h1]; rfl, rfl⟩
  case rest => as_aux_lemma =>
  obtain ⟨rfl, hw⟩ := hcut
  replace hw := hw.symm
  subst hw
  go_upto_if 209 with fail
  go_cut [37] from 40 to 259 (fun s37 wx => s37 = .bool (hsB r s fr) ∧ Below w.heap.size w wx ∧ RBox wx w.heap.size r.freq r.every r.count r.till (.slice am r.months.length cm) (.slice ad r.days.length cd) (.slice aw r.weeks.length cw) (.slice ap r.pick.length cp))
  case first =>
    as_aux_lemma =>
      rcases hd : (((E == 0) && decide (1 ≤ fr)) && decide (fr ≤ 109573)) with _ | _
      · have EL : Hid (hsB r s fr = false) := Lib.hid (by
          by_cases h0 : sf r s = 0
          · refine has_out (fun q => ?_)
            rw [HE.out, h0, decide_eq_true q.1, decide_eq_true q.2] at hd
            simp at hd
          · exact (bwF_bad (fr := fr) (t := t) h0).2.2.2.2.2)
        clear hd
        go_wp2
        go_meet
        case rel => exact ⟨by rw [EL.out], B15.out, R15.out⟩
      · have hE0 : sf r s = 0 ∧ fr ≤ 109573 := by
          simp at hd
          exact ⟨by rw [← HE.out]; exact hd.1.1, hd.2⟩
        obtain ⟨hE0, hf1⟩ := hE0
        obtain ⟨gz, g1, g2⟩ := sf_ok hE0
        have EL := Lib.hid (has_in (n := fr) hE0)
        have AL := Lib.hid (Nat.le_trans (List.length_filter_le (fun x => decide (x ≤ fr)) _) (DAYS_len hE0))
        have K := Lib.hid (refSeq_any r _ s fr 200000 w15 (HV.out _ B15.out) gz g1 g2 hf1 (by omega))
        rw [dsq_much hE0 hf1] at K
        clear hE0 gz hd
        have rl := R15.out.lt
        obtain ⟨x0, x1, x2, x3, x4, x5, x6, x7⟩ := R15.out
        go_wp2_with fail
        clear x0 x1 x2 x3 x4 x5 x6 x7 rl
        refine K.out.mono ?_
        rintro e wq ⟨v1, rfl, hx, hb⟩
        have KI := Lib.hid (refIn_any _ _ fr wq hx (by have := AL.out; omega))
        rw [EL.out] at KI
        have BQ := Lib.hid (B15.out.trans (hb.mono B15.out.size))
        have RQ := Lib.hid (R15.out.on hb)
        clear hb hx K
        go_wp2_with fail
        refine KI.out.mono ?_
        rintro e wr ⟨rfl, hw⟩
        replace hw := hw.symm
        subst hw
        go_wp2
        go_meet
        case rel => exact ⟨rfl, BQ.out, RQ.out⟩
  case rest => as_aux_lemma =>
  obtain ⟨rfl, hb, hr⟩ := hcut
  obtain ⟨w16, hw⟩ := wname hb
  subst hw
  have B16 := Lib.hid hb
  have R16 := Lib.hid hr
  clear hb hr B15 R15
  have K := Lib.hid (has_uni r _ s fr w16 (HV.out _ B16.out) (HT.out _ B16.out) HFR.out)
  rw [← HE.out] at K
  have rl := R16.out.lt
  obtain ⟨x0, x1, x2, x3, x4, x5, x6, x7⟩ := R16.out
  go_wp2_with fail
  clear x0 x1 x2 x3 x4 x5 x6 x7 rl
  refine K.out.mono ?_
  rintro e w17 ⟨rfl, hb⟩
  have B17 := Lib.hid (B16.out.trans (hb.mono B16.out.size))
  have R17 := Lib.hid (R16.out.on hb)
  clear hb K B16 R16 
  have K := Lib.hid (errT_fault E w17 (HG.out _ B17.out))
  have rl := R17.out.lt
  obtain ⟨x0, x1, x2, x3, x4, x5, x6, x7⟩ := R17.out
  go_wp2_with fail
  clear x0 x1 x2 x3 x4 x5 x6 x7 rl
  refine K.out.mono ?_
  rintro e w18 ⟨rfl, hb⟩
  have B18 := Lib.hid (B17.out.trans (hb.mono B17.out.size))
  have R18 := Lib.hid (R17.out.on hb)
  clear hb K B17 R17 
  go_wp2
  go_ret
  exact ⟨rfl, B18.out⟩
end Go.Proofs.YtnnpnalfkcngmacGreatDoor
