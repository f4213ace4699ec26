/-
  What is proved here: the walk of chimelaw2.EventTells: it returns true for every event, alarm and three numbers, and turns nothing that was there; the table of months, and that the program's own type of errors is the one that is listed, are asked as premises.
-/
import Derived.Test.YtnnpnalfkcngmadGreatDoorEvTellsP
import Derived.Test.YtnnpnalfkcngmadGreatDoorRefEv5
import Derived.Test.YtnnpnalfkcngmadGreatDoorRefLoc
import Derived.Test.YtnnpnalfkcngmadGreatDoorBL
import Derived.Test.YtnnpnalfkcngmadGreatDoorBR
namespace Go.Proofs.YtnnpnalfkcngmadGreatDoor
open Go.RowKit Cal Txt

set_option maxRecDepth 100000 in
set_option maxHeartbeats 16000000 in
theorem etells (e : Evt) (s : Evs) (ao : Int) (ab : Bool) (ar ax fr t x : Int) (w : World) (hv : EvB w e s) (hs : e.rule.months.length + e.rule.days.length + e.rule.weeks.length + e.rule.pick.length ≤ 9223372036854775807) (hT : Tab w) (hG : ErrTy w) (x1 : x ≤ 9223372036854775807) (x2 : -9223372036854775808 ≤ x) :
    Calls Tryz.prog 3 #[.agg (ecells e s), .agg #[.int .i64 ao, .bool ab, .int .i64 ar, .int .i64 ax], .int .i64 fr, .int .i64 t, .int .i64 x] w fun y w' => y = .returned (.bool true) ∧ Below w.heap.size w w' := by
  obtain ⟨i0, hi, hz0, hz1, hz2⟩ := info_parts info_ev_int
  have HV := Lib.hid (fun W (q : Below w.heap.size w W) => hv.on q)
  have HT := Lib.hid (fun W (q : Below w.heap.size w W) => hT.below q)
  have HG := Lib.hid (fun W (q : Below w.heap.size w W) => hG.below q)
  have HS := Lib.hid hs
  have HX := Lib.hid (And.intro x1 x2)
  have b0 := (Below.refl w.heap.size w).alloc (Nat.le_refl _) (.cells (ecells e s) 29)
  have b1 := b0.alloc b0.size (.cells #[.int .i64 ao, .bool ab, .int .i64 ar, .int .i64 ax] 31)
  have r0 := (EBox.new w e s 29).on ((Below.refl _ _).alloc (Nat.le_refl _) (.cells #[.int .i64 ao, .bool ab, .int .i64 ar, .int .i64 ax] 31))
  have SA : Hid (∀ X, Below ((w.alloc (.cells (ecells e s) 29)).alloc (.cells #[.int .i64 ao, .bool ab, .int .i64 ar, .int .i64 ax] 31)).heap.size ((w.alloc (.cells (ecells e s) 29)).alloc (.cells #[.int .i64 ao, .bool ab, .int .i64 ar, .int .i64 ax] 31)) X → X.cell? ⟨w.heap.size + 1, 0, none⟩ = some (.int .i64 ao) ∧ X.cell? ⟨w.heap.size + 1, 1, none⟩ = some (.bool ab) ∧ X.cell? ⟨w.heap.size + 1, 2, none⟩ = some (.int .i64 ar) ∧ X.cell? ⟨w.heap.size + 1, 3, none⟩ = some (.int .i64 ax)) := Lib.hid (fun X q => by
    obtain ⟨c, _⟩ := bcell q
    refine ⟨?_, ?_, ?_, ?_⟩
    · rw [c _ _ (by simp)]; simp
    · rw [c _ _ (by simp)]; simp
    · rw [c _ _ (by simp)]; simp
    · rw [c _ _ (by simp)]; simp)
  obtain ⟨w0, hW⟩ : ∃ w0, w0 = (w.alloc (.cells (ecells e s) 29)).alloc (.cells #[.int .i64 ao, .bool ab, .int .i64 ar, .int .i64 ax] 31) := ⟨_, rfl⟩
  rw [← hW] at b1 r0 SA
  have HW := Lib.hid hW
  have B0 := Lib.hid b1
  have E0 := Lib.hid r0
  have Z0 := Lib.hid (Below.refl w0.heap.size w0)
  clear hv hs hT hG b0 b1 r0 hW x1 x2
  go_enter Tryz.func3, Tryz.ntmps3
  go_upto_region 1 with fail
  rw [← HW.out]
  clear HW
  have K := Lib.hid (refEvent_any e s w0 (HV.out _ B0.out) HS.out)
  go_wp2_with (refine ev_load ?h1a (.tmp 5) ?h1b w.heap.size e s ?h1c E0.out ?h1d; (case h1a => rfl); (case h1b => rfl); (case h1c => rfl))
  refine K.out.mono ?_
  rintro y w1 ⟨rfl, hb⟩
  have B1 := Lib.hid (B0.out.trans (hb.mono B0.out.size))
  have E1 := Lib.hid (E0.out.on hb)
  have Z1 := Lib.hid (Z0.out.trans (hb.mono Z0.out.size))
  clear hb B0 E0 Z0 K
  have K := Lib.hid (echeck_any e s w1 (HV.out _ B1.out))
  go_wp2_with (refine ev_load ?h2a (.tmp 5) ?h2b w.heap.size e s ?h2c E1.out ?h2d; (case h2a => rfl); (case h2b => rfl); (case h2c => rfl))
  refine K.out.mono ?_
  rintro y w2 ⟨rfl, hb⟩
  have B2 := Lib.hid (B1.out.trans (hb.mono B1.out.size))
  have E2 := Lib.hid (E1.out.on hb)
  have Z2 := Lib.hid (Z1.out.trans (hb.mono Z1.out.size))
  clear hb B1 E1 Z1 K
  have K := Lib.hid (errT_fault (evF e) w2 (HG.out _ B2.out))
  go_wp2_with fail
  refine K.out.mono ?_
  rintro y w3 ⟨rfl, hb⟩
  have B3 := Lib.hid (B2.out.trans (hb.mono B2.out.size))
  have E3 := Lib.hid (E2.out.on hb)
  have Z3 := Lib.hid (Z2.out.trans (hb.mono Z2.out.size))
  clear hb B2 E2 Z2 K
  have SB : Hid (∀ X, Below w3.heap.size w3 X → X.cell? ⟨w.heap.size + 1, 0, none⟩ = some (.int .i64 ao) ∧ X.cell? ⟨w.heap.size + 1, 1, none⟩ = some (.bool ab) ∧ X.cell? ⟨w.heap.size + 1, 2, none⟩ = some (.int .i64 ar) ∧ X.cell? ⟨w.heap.size + 1, 3, none⟩ = some (.int .i64 ax)) := Lib.hid (fun X q => SA.out X (Z3.out.trans (q.mono Z3.out.size)))
  clear SA Z3
  go_wp2_with fail
  go_region_held3 (fun X => X.cell? ⟨w.heap.size + 1, 0, none⟩ = some (.int .i64 ao) ∧ X.cell? ⟨w.heap.size + 1, 1, none⟩ = some (.bool ab) ∧ X.cell? ⟨w.heap.size + 1, 2, none⟩ = some (.int .i64 ar) ∧ X.cell? ⟨w.heap.size + 1, 3, none⟩ = some (.int .i64 ax))
    (first | exact SB.out _ (Below.drew (Below.refl _ w3)) | exact SB.out _ ha1 | exact SB.out _ ha2 | exact SB.out _ ha3)
    (first
    | (go_at_call 8; refine (ealarm_any ao ab ar ax _).mono ?_; rintro y wp ⟨rfl, hp⟩; have ha1 : Below w3.heap.size w3 wp := (by first | exact Below.trans ha2 (Below.mono hp (Below.size ha2)) | exact Below.trans (Below.drew (Below.refl _ w3)) hp); clear hp)
    | (go_at_call 9; refine (refAlarm_any ao ab ar ax _).mono ?_; rintro y wq ⟨rfl, hq⟩; have ha2 : Below w3.heap.size w3 wq := (by first | exact Below.trans ha1 (Below.mono hq (Below.size ha1)) | exact Below.trans (Below.drew (Below.refl _ w3)) hq); clear hq)
    | (go_at_call 6; refine (errT_fault _ _ (HG.out _ (by first | exact Below.trans B3.out (Below.mono ha2 (Below.size B3.out)) | exact Below.trans B3.out (Below.mono ha1 (Below.size B3.out))))).mono ?_; rintro y wr3 ⟨rfl, hr3⟩; have ha3 : Below w3.heap.size w3 wr3 := (by first | exact Below.trans ha2 (Below.mono hr3 (Below.size ha2)) | exact Below.trans ha1 (Below.mono hr3 (Below.size ha1))); clear hr3))
  obtain ⟨w4, hw4⟩ := wnm ha3
  subst hw4
  have hb := ha3
  clear ha1 ha2 ha3 SB
  have B4 := Lib.hid (B3.out.trans (hb.mono B3.out.size))
  have E4 := Lib.hid (E3.out.on hb)
  clear hb B3 E3  
  obtain ⟨F, hF⟩ : ∃ F, F = evF e := ⟨_, rfl⟩
  rw [← hF]
  have HF := Lib.hid hF
  clear hF
  go_upto_if 46 with fail
  go_cut [14] from 33 to 167 (fun sc wx => sc = .int .i64 (dgF e fr t) ∧ wx = w4)
  case first =>
    as_aux_lemma =>
      rcases h0 : (F == 0) with _ | _
      · have EV : Hid (dgF e fr t = F) := Lib.hid (by rw [HF.out]; exact if_neg (by rw [← HF.out]; simpa using h0))
        go_wp2
        go_meet
        case rel => exact ⟨by rw [EV.out], rfl⟩
      · have EV : Hid (dgF e fr t = seF fr t) := Lib.hid (if_pos (by rw [← HF.out]; simpa using h0))
        go_wp2_with (go_at_call 10; refine (refStretch_any _ _ _).mono ?_; rintro y wz ⟨rfl, hw⟩; replace hw := hw.symm; subst hw)
        go_meet
        case rel => exact ⟨by rw [EV.out], rfl⟩
  case rest => as_aux_lemma =>
  obtain ⟨rfl, hw⟩ := hcut
  replace hw := hw.symm
  subst hw
  obtain ⟨GG, hG1⟩ : ∃ GG, GG = dgF e fr t := ⟨_, rfl⟩
  rw [← hG1]
  have HGG := Lib.hid hG1
  clear hG1
  go_upto_if 51 with fail
  go_cut [14, 15] from 33 to 167 (fun s14 s15 wx => s14 = .int .i64 (loF e fr t) ∧ Ints wx s15 (loL e fr t) ∧ Below w.heap.size w wx ∧ EBox wx w.heap.size e s)
  case first =>
    as_aux_lemma =>
      rcases h0 : (GG == 0) with _ | _
      · have EV := Lib.hid (dg_bad (e := e) (fr := fr) (t := t) (by rw [← HGG.out]; simpa using h0))
        rw [← HGG.out] at EV
        go_wp2
        go_meet
        case rel => exact ⟨by rw [EV.out.1], by rw [EV.out.2]; exact nil_int _, B4.out, E4.out⟩
      · have hz : dgF e fr t = 0 := by rw [← HGG.out]; simpa using h0
        have q1 := dg_good hz
        have q2 := strB_ends q1.2
        have DG := Lib.hid (dg_list hz)
        clear hz
        have K := Lib.hid (refLocal_any e s fr t w4 (HV.out _ B4.out) q1.1 (by omega) (by omega))
        clear q1 q2
        generalize dcL e fr t = X at K DG
        go_wp2_with (refine ev_load ?h3a (.tmp 5) ?h3b w.heap.size e s ?h3c E4.out ?h3d; (case h3a => rfl); (case h3b => rfl); (case h3c => rfl))
        refine K.out.mono ?_
        rintro y wq ⟨v, rfl, hx, hb⟩
        have BQ := Lib.hid (B4.out.trans (hb.mono B4.out.size))
        have EQ := Lib.hid (E4.out.on hb)
        have IQ := Lib.hid hx
        obtain ⟨a, c, rfl, _⟩ := hx
        clear hb K
        by_cases hq : 200 < (X.length : Int)
        · have EV := Lib.hid (DG.out.1 (by omega))
          clear DG
          generalize X.length = m at hq ⊢
          go_wp2
          go_meet
          case rel => exact ⟨by rw [EV.out.1], by rw [EV.out.2]; exact nil_int _, BQ.out, EQ.out⟩
        · have EV := Lib.hid (DG.out.2 (by omega))
          have EZ : Hid (GG = 0) := Lib.hid (by simpa using h0)
          clear DG
          go_wp2
          go_meet
          case rel => exact ⟨by rw [EV.out.1, EZ.out], by rw [EV.out.2]; exact IQ.out, BQ.out, EQ.out⟩
  case rest => as_aux_lemma =>
  obtain ⟨rfl, hx, hb, he⟩ := hcut
  obtain ⟨w5, hw⟩ := wnm hb
  subst hw
  have B5 := Lib.hid hb
  have E5 := Lib.hid he
  have IA5 := Lib.hid hx
  clear hb he hx B4 E4
  have LT := Lib.hid (fun z => @loL_times e fr t z)
  have LU := Lib.hid (loL_up e fr t)
  have LD := Lib.hid (fun d => @DyI.done e fr t d)
  have KL := Lib.hid (fun W (q : Below w.heap.size w W) => local_any e s fr t W (HV.out _ q) (HT.out _ q))
  have KD := Lib.hid (fun W (q : Below w.heap.size w W) => edays_any e s fr t W (HV.out _ q) (HT.out _ q))
  have DL := Lib.hid (@doL_len e fr t)
  generalize doL e fr t = DD at LD KD DL
  generalize loL e fr t = L at IA5 LT LU LD KL
  generalize loF e fr t = GF at KL KD ⊢
  have ll := LU.out.2
  obtain ⟨la, lc, el, lcell⟩ := IA5.out
  have LC := Lib.hid lcell
  clear lcell
  subst el
  go_wp2_with fail
  go_loopw [16, 17, 18] (fun dv iv _ wr => ∃ (i : Nat) (D : List Int), i ≤ L.length ∧ iv = .int .i64 i ∧ wr.ownsRow w5.heap.size 3 1 dv D.length (nums D) ∧ DyI L i D ∧ Below w5.heap.size w5 wr) (fun _ iv _ _ => L.length - (intOf iv).toNat)
  case atStart => exact ⟨0, [], Nat.zero_le _, rfl, World.ownsRow_nil _ _ _ _, DyI.start _, Below.refl _ _⟩
  case round =>
    obtain ⟨k, D, hk, rfl, hown, hD, hB⟩ := hrel
    obtain ⟨wa, hwa⟩ := wnm hB
    subst hwa
    have HO := Lib.hid hown
    have HD := Lib.hid hD
    have HBa := Lib.hid hB
    have dlen := hD.len LT.out
    have szx := hB.size
    obtain ⟨da, dc, edv, dcell⟩ := ow_ints hown
    subst edv
    clear hown hD
    by_cases hlt : k < L.length
    · rcases LC.out with hc | ⟨lb, lo, rfl, hc⟩
      · rw [hc] at hlt; simp at hlt
      have k0 := hc k hlt
      have k1 := (hB.cell (p := ⟨lb, lo + k, none⟩) (ecell_in k0)).trans k0
      have lb2 := ecell_in k1
      have NX := Lib.hid (HD.out.next LU.out.1 LT.out hlt)
      have xi := LT.out (L.getD k 0) (by rw [List.getD_eq_getElem?_getD, List.getElem?_eq_getElem hlt]; exact List.getElem_mem hlt)
      have ED := Lib.hid (dyo_ok xi).1
      have xb := of_decide_eq_true xi
      generalize L.getD k 0 = z at k1 NX ED xb
      obtain ⟨z1, z2⟩ := xb
      rw [ED.out] at NX
      clear hc k0 hB xi ED
      have HO2 := Lib.hid HO.out
      obtain ⟨m, hm⟩ : ∃ m, m = D.length := ⟨_, rfl⟩
      have DN := Lib.hid hm.symm
      rw [← hm] at HO2 dlen NX ⊢
      by_cases m0 : m = 0
      · have N1 := Lib.hid (NX.out.1 (Or.inl m0))
        clear NX hm dcell
        subst m0
        go_wp2_with (at_builtin; refine wpList_append_own _ rfl _ _ 22 rfl w5.heap.size 3 i0 (.int .i64 0) 1 8 Tryz.underlying22 hi hz0 hz1 hz2 rfl (by decide) _ _ _ rfl (HO2.out.alloc _) ⟨wa.heap.size, 0, none⟩ 1 1 [.int .i64 (z / 1440 + 1)] rfl rfl ?d1 ?d2 ?d3 ?d4 ?d5 ?_)
        case d1 =>
          intro j u hj
          match j, hj with
          | 0, hj => simp at hj; subst hj; simp [Addr.add]
        case d2 => intro u hu; simp at hu; subst hu; rfl
        case d3 => unfold maxLen; omega
        case d4 => omega
        case d5 => simp; omega
        intro v' w5 hown' hgrow _
        have Q2 := Lib.hid (ow_grow szx HBa.out (Below.refl _ _) HO2.out hgrow)
        have Q1 := Lib.hid hown'
        rw [← nums_snoc] at Q1
        clear hown' hgrow HO HO2 k1 lb2
        go_wp2
        go_roundw
        case rel => exact ⟨k + 1, D ++ [z / 1440 + 1], by omega, by go_num, by rw [List.length_append, DN.out]; exact Q1.out, N1.out, Q2.out⟩
        case measure => simp [intOf]; omega
      rcases dcell with hc | ⟨gb, go, rfl, hc⟩
      · rw [hc] at hm; simp at hm; omega
      have y1 := hc (m - 1) (by omega)
      have gl := ecell_in y1
      obtain ⟨y, hy⟩ : ∃ y, y = D.getD (m - 1) 0 := ⟨_, rfl⟩
      rw [← hy] at y1 NX
      have mb : ((m : Int) == 0) = false := by simp; omega
      have i1 : (0 : Int) ≤ (m : Int) - 1 := by omega
      have i2 : (m : Int) - 1 < (m : Int) := by omega
      have i3 : ((m : Int) - 1).toNat = m - 1 := by omega
      clear hc hy hm
      rcases hq : (y != z / 1440 + 1) with _ | _
      · have N1 := Lib.hid (NX.out.2 m0 (by simpa using hq))
        clear NX
        go_wp2
        go_roundw
        case rel => exact ⟨k + 1, D, by omega, by go_num, by rw [DN.out]; exact HO2.out, N1.out, HBa.out⟩
        case measure => simp [intOf]; omega
      · have N1 := Lib.hid (NX.out.1 (Or.inr (by simpa using hq)))
        clear NX
        go_wp2_with (at_builtin; refine wpList_append_own _ rfl _ _ 22 rfl w5.heap.size 3 i0 (.int .i64 0) 1 8 Tryz.underlying22 hi hz0 hz1 hz2 rfl (by decide) _ _ _ rfl (HO2.out.alloc _) ⟨wa.heap.size, 0, none⟩ 1 1 [.int .i64 (z / 1440 + 1)] rfl rfl ?d1 ?d2 ?d3 ?d4 ?d5 ?_)
        case d1 =>
          intro j u hj
          match j, hj with
          | 0, hj => simp at hj; subst hj; simp [Addr.add]
        case d2 => intro u hu; simp at hu; subst hu; rfl
        case d3 => unfold maxLen; omega
        case d4 => omega
        case d5 => simp; omega
        intro v' w5 hown' hgrow _
        have Q2 := Lib.hid (ow_grow szx HBa.out (Below.refl _ _) HO2.out hgrow)
        have Q1 := Lib.hid hown'
        rw [← nums_snoc] at Q1
        clear hown' hgrow HO HO2 k1 lb2
        go_wp2
        go_roundw
        case rel => exact ⟨k + 1, D ++ [z / 1440 + 1], by omega, by go_num, by rw [List.length_append, DN.out]; exact Q1.out, N1.out, Q2.out⟩
        case measure => simp [intOf]; omega
    obtain ⟨w6, hwz⟩ := wnm hB
    subst hwz
    have ek : k = L.length := by omega
    have HDE := HD.out
    rw [ek] at HDE
    have eD := LD.out D HDE
    subst eD
    have ID0 := ow_ints HO.out
    have hb := hB
    have ID6 := Lib.hid ID0
    clear HDE ID0 HO HD HBa ek LD LT LU LC hB dlen dcell
    have B6 := Lib.hid (B5.out.trans (hb.mono B5.out.size))
    have E6 := Lib.hid (E5.out.on hb)
    have IA6 := Lib.hid (IA5.out.on hb)
    clear hb B5 E5 IA5 
    have K := Lib.hid (KL.out w6 B6.out)
    go_wp2_with (refine ev_load ?h4a (.tmp 5) ?h4b w.heap.size e s ?h4c E6.out ?h4d; (case h4a => rfl); (case h4b => rfl); (case h4c => rfl))
    refine K.out.mono ?_
    rintro y w7 ⟨v2, rfl, hy, hb⟩
    have IB7 := Lib.hid hy.ints
    clear hy
    have B7 := Lib.hid (B6.out.trans (hb.mono B6.out.size))
    have E7 := Lib.hid (E6.out.on hb)
    have IA7 := Lib.hid (IA6.out.on hb)
    have ID7 := Lib.hid (ID6.out.on hb)
    clear hb B6 E6 IA6 ID6 K
    have K := Lib.hid (errT_fault GF w7 (HG.out _ B7.out))
    go_wp2_with fail
    refine K.out.mono ?_
    rintro y w8 ⟨rfl, hb⟩
    have B8 := Lib.hid (B7.out.trans (hb.mono B7.out.size))
    have E8 := Lib.hid (E7.out.on hb)
    have IA8 := Lib.hid (IA7.out.on hb)
    have ID8 := Lib.hid (ID7.out.on hb)
    have IB8 := Lib.hid (IB7.out.on hb)
    clear hb B7 E7 IA7 ID7 IB7 K
    have K := Lib.hid (sameInts L _ _ w8 IB8.out IA8.out (by omega))
    go_wp2_with fail
    refine K.out.mono ?_
    rintro y w9 ⟨rfl, hb⟩
    have B9 := Lib.hid (B8.out.trans (hb.mono B8.out.size))
    have E9 := Lib.hid (E8.out.on hb)
    have ID9 := Lib.hid (ID8.out.on hb)
    clear hb B8 E8 ID8 K
    clear IA8 IB8
    have K := Lib.hid (KD.out w9 B9.out)
    go_wp2_with (refine ev_load ?h5a (.tmp 5) ?h5b w.heap.size e s ?h5c E9.out ?h5d; (case h5a => rfl); (case h5b => rfl); (case h5c => rfl))
    refine K.out.mono ?_
    rintro y w10 ⟨v3, rfl, hy, hb⟩
    have IB10 := Lib.hid hy.ints
    clear hy
    have B10 := Lib.hid (B9.out.trans (hb.mono B9.out.size))
    have E10 := Lib.hid (E9.out.on hb)
    have ID10 := Lib.hid (ID9.out.on hb)
    clear hb B9 E9 ID9 K
    have K := Lib.hid (errT_fault GF w10 (HG.out _ B10.out))
    go_wp2_with fail
    refine K.out.mono ?_
    rintro y w11 ⟨rfl, hb⟩
    have B11 := Lib.hid (B10.out.trans (hb.mono B10.out.size))
    have E11 := Lib.hid (E10.out.on hb)
    have ID11 := Lib.hid (ID10.out.on hb)
    have IB11 := Lib.hid (IB10.out.on hb)
    clear hb B10 E10 ID10 IB10 K
    have K := Lib.hid (sameInts _ _ _ w11 IB11.out ID11.out (by have := DL.out; omega))
    go_wp2_with fail
    refine K.out.mono ?_
    rintro y w12 ⟨rfl, hb⟩
    have B12 := Lib.hid (B11.out.trans (hb.mono B11.out.size))
    have E12 := Lib.hid (E11.out.on hb)
    clear hb B11 E11  K
    clear IB11 ID11 KL KD DL
    go_upto_if 115 with fail
    go_cut [11, 25, 26, 27, 28, 29] from 33 to 167 (fun s11 s25 s26 s27 s28 s29 wx => s11 = .int .i64 (mvF e x) ∧ s25 = .int .i64 (mvT e x) ∧ s26 = .bool (mvO e x) ∧ Below w.heap.size w wx ∧ EBox wx w.heap.size e s)
    case first =>
      as_aux_lemma =>
        rcases h0 : (F == 0) with _ | _
        · have EV := Lib.hid (mv_bad (e := e) (x := x) (by rw [← HF.out]; simpa using h0))
          rw [← HF.out] at EV
          go_wp2
          go_meet
          case rel => exact ⟨by rw [EV.out.1], by rw [EV.out.2.1], by rw [EV.out.2.2], B12.out, E12.out⟩
        · have hz : evF e = 0 := by rw [← HF.out]; simpa using h0
          have HZ := Lib.hid hz
          have HF0 : Hid (F = 0) := Lib.hid (by simpa using h0)
          have K := Lib.hid (refIs_any e s x w12 (HV.out _ B12.out) hz HX.out.1 HX.out.2)
          have MN := Lib.hid (fun q => mv_none (e := e) (x := x) hz q)
          have MS := Lib.hid (fun q => mv_some (e := e) (x := x) hz q)
          generalize ((dcL e x x).length == 1) = IS at K MN MS
          clear hz
          go_wp2_with (refine ev_load ?h6a (.tmp 5) ?h6b w.heap.size e s ?h6c E12.out ?h6d; (case h6a => rfl); (case h6b => rfl); (case h6c => rfl))
          refine K.out.mono ?_
          rintro y wq ⟨rfl, hb⟩
          have BQ := Lib.hid (B12.out.trans (hb.mono B12.out.size))
          have EQ := Lib.hid (E12.out.on hb)
          clear hb K
          rcases IS with _ | _
          · have EV := Lib.hid (MN.out rfl)
            clear MN MS
            go_wp2
            go_meet
            case rel => exact ⟨by rw [EV.out.1], by rw [EV.out.2.1], by rw [EV.out.2.2], BQ.out, EQ.out⟩
          · have EV := Lib.hid (MS.out rfl)
            have K := Lib.hid (refReally_any e s x wq (HV.out _ BQ.out).2.2.2.2.2.2.1 (by have := (evF_lens HZ.out).2.2.2.2.1; omega))
            clear MN MS
            generalize onB e.chg x = ON at K EV
            generalize (chOf e.chg x).getD x = CG at K EV
            go_wp2_with (refine ev_load ?h7a (.tmp 5) ?h7b w.heap.size e s ?h7c EQ.out ?h7d; (case h7a => rfl); (case h7b => rfl); (case h7c => rfl))
            refine K.out.mono ?_
            rintro y wr ⟨rfl, hb⟩
            have BR := Lib.hid (BQ.out.trans (hb.mono BQ.out.size))
            have ER := Lib.hid (EQ.out.on hb)
            clear hb K BQ EQ
            go_wp2
            go_meet
            case rel => exact ⟨by rw [EV.out.1, HF0.out], by rw [EV.out.2.1], by rw [EV.out.2.2], BR.out, ER.out⟩
    case rest => as_aux_lemma =>
    obtain ⟨rfl, rfl, rfl, hb, he⟩ := hcut
    obtain ⟨w13, hw⟩ := wnm hb
    subst hw
    have B13 := Lib.hid hb
    have E13 := Lib.hid he
    clear hb he B12 E12
    have K := Lib.hid (moved_any e s x w13 (HV.out _ B13.out) (HT.out _ B13.out))
    go_wp2_with (refine ev_load ?h8a (.tmp 5) ?h8b w.heap.size e s ?h8c E13.out ?h8d; (case h8a => rfl); (case h8b => rfl); (case h8c => rfl))
    refine K.out.mono ?_
    rintro y w14 ⟨rfl, hb⟩
    have B14 := Lib.hid (B13.out.trans (hb.mono B13.out.size))
    have E14 := Lib.hid (E13.out.on hb)
    clear hb B13 E13  K
    have K := Lib.hid (errT_fault (mvF e x) w14 (HG.out _ B14.out))
    go_wp2_with fail
    refine K.out.mono ?_
    rintro y w15 ⟨rfl, hb⟩
    have B15 := Lib.hid (B14.out.trans (hb.mono B14.out.size))
    have E15 := Lib.hid (E14.out.on hb)
    clear hb B14 E14  K
    go_wp2
    go_ret
    exact ⟨rfl, B15.out⟩
end Go.Proofs.YtnnpnalfkcngmadGreatDoor
