/-
  What is proved here: what the document's Local and Is answer of an event that is right (contracts over the translation).
-/
import Derived.Test.YtnnpnalfkcngmadGreatDoorRefEv4
import Derived.Test.YtnnpnalfkcngmadGreatDoorRefLocP
import Derived.Test.YtnnpnalfkcngmadGreatDoorRefSeq
import Derived.Test.YtnnpnalfkcngmadGreatDoorRefPut
import Derived.Test.YtnnpnalfkcngmadGreatDoorBR
import Derived.Test.YtnnpnalfkcngmadGreatDoorOwnN
import Derived.Deep.Cut
import Derived.Deep.CutRange
namespace Go.Proofs.YtnnpnalfkcngmadGreatDoor
open Go.RowKit Cal Txt

theorem PutI.next {b m p r : List Int} {i : Nat} (h : PutI b m i p) (hi : i < m.length) (hr : PutR p (m.getD i 0) r) : PutI b m (i + 1) r := by
  obtain ⟨h1, h2, h3⟩ := h
  obtain ⟨g1, g2⟩ := hr.1 h1
  refine ⟨g1, fun x => ?_, by have := hr.2; omega⟩
  rw [g2 x, h2 x, List.take_succ_eq_append_getElem hi, List.mem_append, List.mem_singleton, List.getD_eq_getElem?_getD, List.getElem?_eq_getElem hi]
  constructor
  · rintro ((q | q) | q)
    · exact Or.inl q
    · exact Or.inr (Or.inl q)
    · exact Or.inr (Or.inr q)
  · rintro (q | q | q)
    · exact Or.inl (Or.inl q)
    · exact Or.inl (Or.inr q)
    · exact Or.inr q
theorem one_news (wa : World) (x : Int) : ∀ j u, [Value.int .i64 x][j]? = some u → ((wa.alloc (.cells #[.int .i64 x] 3)).drew).cell? ((⟨wa.heap.size, 0, none⟩ : Addr).add j) = some u := fun j u hj => by
  match j, hj with
  | 0, hj => simp at hj; subst hj; simp [Addr.add]
theorem raw_tmx {st d : Int} (h1 : 1 ≤ d) (h2 : d ≤ 109573) (s1 : 1 ≤ st) (s2 : st ≤ 157785119) : IntKind.i64.wrap (IntKind.i64.wrap (IntKind.i64.wrap (d - 1) * 1440) + st.tmod 1440) = tmx st d := by
  rw [Int.tmod_eq_emod_of_nonneg (by omega)]
  have e : ∀ n : Int, -9223372036854775808 ≤ n → n ≤ 9223372036854775807 → IntKind.i64.wrap n = n := fun n a b => by rw [IntKind.wrap_i64]; omega
  rw [e (d - 1) (by omega) (by omega), e ((d - 1) * 1440) (by omega) (by omega), e _ (by omega) (by omega)]
  rfl
theorem tmx_bd {st d : Int} (h1 : 1 ≤ d) (h2 : d ≤ 109573) : 0 ≤ tmx st d ∧ tmx st d ≤ 157785119 := by unfold tmx; omega
set_option maxRecDepth 100000 in
set_option maxHeartbeats 8000000 in
theorem refLocal_any (e : Evt) (s : Evs) (fr t : Int) (w : World) (hv : EvB w e s) (h : evF e = 0) (ht : t ≤ 9223372036854775807) (ht2 : -9223372036854775808 ≤ t) :
    Calls Tryz.prog 11 #[.agg (ecells e s), .int .i64 fr, .int .i64 t] w fun x w' => ∃ v, x = .returned v ∧ Ints w' v (dcL e fr t) ∧ Below w.heap.size w w' := by
  obtain ⟨i0, hi, hz0, hz1, hz2⟩ := info_parts info_ev_int
  have B0 := (Below.refl w.heap.size w).alloc (Nat.le_refl _) (.cells (ecells e s) 29)
  have R0 := EBox.new w e s 29
  have HV := Lib.hid (fun W (q : Below w.heap.size w W) => hv.on q)
  obtain ⟨W0, hW⟩ : ∃ W0, W0 = w.alloc (.cells (ecells e s) 29) := ⟨_, rfl⟩
  rw [← hW] at B0 R0
  have HW := Lib.hid hW
  have HB := Lib.hid B0
  have HE := Lib.hid R0
  have st1 := (of_decide_eq_true (evF_lens h).2.2.1).1
  have st2 := (of_decide_eq_true (evF_lens h).2.2.1).2
  have H0 := Lib.hid h
  have c2 := R0.1.2.2.1
  have c4 := R0.1.2.2.2.2
  have bx := R0.lt
  clear hv B0 R0 hW h
  go_enter Tryz.func11, Tryz.ntmps11
  go_upto_region 1 with fail
  rw [← HW.out]
  clear HW
  go_upto_if 18 with fail
  clear c2 c4
  have b1 := (Below.refl W0.heap.size W0).alloc (Nat.le_refl _) (.cells #[.int .i64 e.start] 3)
  have P1 := put_one W0 e.start
  obtain ⟨W1, hW⟩ : ∃ W1, W1 = W0.alloc (.cells #[.int .i64 e.start] 3) := ⟨_, rfl⟩
  rw [← hW] at b1 P1 ⊢
  have HP1 := Lib.hid P1
  have B1 := Lib.hid (HB.out.trans (b1.mono HB.out.size))
  have E1 := Lib.hid (HE.out.on b1)
  clear hW b1 HB HE bx P1
  go_cut [7, 8, 9] from 14 to 100 (fun s7 s8 s9 wx => Ints wx s7 (dbL e t) ∧ Frl s7 (dbL e t) ∧ Below w.heap.size w wx ∧ EBox wx w.heap.size e s)
  case first =>
    rcases hr : e.rep with _ | _
    · have EV : Hid (dbL e t = [e.start]) := Lib.hid (if_neg (by rw [hr]; decide))
      go_wp2
      go_meet
      case rel => exact ⟨by rw [EV.out]; exact HP1.out, by rw [EV.out]; exact Or.inr ⟨_, _, 1, rfl, Nat.le_refl _⟩, B1.out, E1.out⟩
    · have EV : Hid (dbL e t = (dbD e t).map (tmx e.start)) := Lib.hid (if_pos hr)
      have s0 := ev_sf H0.out hr
      obtain ⟨_, q1, q2⟩ := sf_ok s0.1
      have wq : wrap64 (t.tdiv 1440 + 1) = t.tdiv 1440 + 1 := by
        rcases tq_cases t with ⟨a, b⟩ | ⟨a, b⟩
        · rw [b]; unfold wrap64; omega
        · rw [b]; unfold wrap64; omega
      have K := Lib.hid (refSeq_far e.rule (rval e s) (e.start / 1440 + 1) (t.tdiv 1440 + 1) 200000 W1 (HV.out _ B1.out).rule s0.2 q1 q2 (by
        rcases tq_cases t with ⟨a, b⟩ | ⟨a, b⟩
        · rw [b]; omega
        · rw [b]; omega) (by omega))
      have DL : (dbD e t).length ≤ 109573 := dbD_len H0.out hr
      have DI := Lib.hid (fun x => dbD_in (t := t) (x := x) H0.out hr)
      have c2 := E1.out.1.2.2.1
      have wl := E1.out.lt
      clear s0 q1 q2
      go_wp2_with (refine ru_load ?j1 (.tmp 19) ?j2 w.heap.size 5 e s ?j3 E1.out.rrange ?j4; (case j1 => rfl); (case j2 => rfl); (case j3 => rfl))
      clear c2 wl
      refine K.out.mono ?_
      rintro x W2 ⟨v2, rfl, hx, hb⟩
      have hx' : Ints W2 v2 (dbD e t) := hx
      have B2 := Lib.hid (B1.out.trans (hb.mono B1.out.size))
      have E2 := Lib.hid (E1.out.on hb)
      have EV2 := Lib.hid (tmk_end e.start (dbD e t))
      generalize dbD e t = DS at hx' DL DI EV EV2
      obtain ⟨qa, qc, rfl, hcc⟩ := hx'
      have HC := Lib.hid hcc
      clear hx hb K hcc B1 E1 HP1 wq
      go_wp2_with fail
      go_loopw [7, 9] (fun lv iv wr => ∃ i : Nat, i ≤ DS.length ∧ iv = .int .i64 i ∧ wr.ownsRow W2.heap.size 3 1 lv i (nums (tmk e.start i DS)) ∧ Below W2.heap.size W2 wr) (fun _ iv _ => DS.length - (intOf iv).toNat)
      case atStart => exact ⟨0, Nat.zero_le _, rfl, World.ownsRow_nil _ _ _ _, Below.refl _ _⟩
      case round =>
        obtain ⟨i, hi', rfl, hown, hB⟩ := hrel
        obtain ⟨wa, hwa⟩ := wnm hB
        subst hwa
        have HO := Lib.hid hown
        have HBa := Lib.hid hB
        have szx := hB.size
        clear hown
        by_cases hlt : i < DS.length
        · rcases HC.out with hc | ⟨lb, lo, rfl, hc⟩
          · rw [hc] at hlt; simp at hlt
          have k0 := hc i hlt
          have lbl := ecell_in k0
          have k1 := (hB.cell (p := ⟨lb, lo + i, none⟩) lbl).trans k0
          have d1 := DI.out (DS.getD i 0) (by rw [List.getD_eq_getElem?_getD, List.getElem?_eq_getElem hlt]; exact List.getElem_mem hlt)
          have N1 := Lib.hid (tmk_snoc (st := e.start) hlt)
          obtain ⟨d, hd⟩ : ∃ d, d = DS.getD i 0 := ⟨_, rfl⟩
          rw [← hd] at k1 d1 N1
          have k2 : wa.cell? ⟨w.heap.size, 2, none⟩ = some (.int .i64 e.start) := (E2.out.on hB).1.2.2.1
          have lb2 := ecell_in k1
          have lb3 := ecell_in k2
          have SS : Hid (∀ X, Below W2.heap.size W2 X → X.cell? ⟨lb, lo + i, none⟩ = some (.int .i64 d) ∧ X.cell? ⟨w.heap.size, 2, none⟩ = some (.int .i64 e.start)) := Lib.hid (fun X q => ⟨(q.cell (p := ⟨lb, lo + i, none⟩) lbl).trans (by rw [hd]; exact k0), (E2.out.on q).1.2.2.1⟩)
          obtain ⟨d1, d2⟩ := d1
          have VAL : Hid ((IntKind.i64.wrap (IntKind.i64.wrap (IntKind.i64.wrap (d - 1) * 1440) + e.start.tmod 1440)) = tmx e.start d) := Lib.hid (raw_tmx d1 d2 st1 st2)
          clear hc hd k0 lbl hB EV EV2
          go_upto_region 8 with fail
          go_region_held3 (fun X => X.cell? ⟨lb, lo + i, none⟩ = some (.int .i64 d) ∧ X.cell? ⟨w.heap.size, 2, none⟩ = some (.int .i64 e.start))
            (first | exact SS.out _ (Below.drew HBa.out) | exact SS.out _ (Below.alloc (Below.drew HBa.out) szx _) | exact SS.out _ (Below.drew (Below.alloc HBa.out szx _)) | exact SS.out _ hb3)
            (first
            | (refine Zo.step_append_own rfl _ _ 22 rfl W2.heap.size 3 i0 (.int .i64 0) 1 8 Tryz.underlying22 hi hz0 hz1 hz2 rfl (by decide) _ i (nums (tmk e.start i DS)) rfl (ow_below HO.out (Below.drew (Below.alloc (Below.refl _ _) (Nat.le_refl _) _))) ⟨wa.heap.size, 0, none⟩ 1 1 [.int .i64 (IntKind.i64.wrap (IntKind.i64.wrap (IntKind.i64.wrap (d - 1) * 1440) + e.start.tmod 1440))] rfl rfl (one_news _ _) (fun u hu => by simp at hu; subst hu; rfl) (by unfold maxLen; omega) (by omega) (Nat.le_trans szx (by simp)) ?_; intro v' w3 R1 R2; have hb3 : Below W2.heap.size W2 w3 := Below.grown (Below.drew (Below.alloc HBa.out szx _)) R2 (Nat.le_trans szx (by simp)) (fun j hj => (HO.out.lt j hj).1); have Q1 := Lib.hid R1; rw [VAL.out] at Q1; clear R1 R2))
          all_goals
            rw [← nums_snoc] at Q1
            have Q2 := Lib.hid hb3
            clear hb3 k1 k2 lb2 lb3
            go_wp2
            go_roundw
            case rel => exact ⟨i + 1, by omega, by go_num, by rw [N1.out]; exact Q1.out, Q2.out⟩
            case measure => simp [intOf]; omega
        · have ei : i = DS.length := by omega
          have IS0 := ow_ints HO.out
          have FR0 := HO.out
          rw [ei, EV2.out] at IS0
          have LN : (DS.map (tmx e.start)).length = i := by rw [List.length_map, ei]
          rw [ei, EV2.out, ← ei, ← LN] at FR0
          have IS := Lib.hid IS0
          have FR := Lib.hid (own_frl FR0)
          have B3 := Lib.hid (B2.out.trans (hB.mono B2.out.size))
          have E3 := Lib.hid (E2.out.on hB)
          clear IS0 FR0 LN hB HO
          go_wp2
          go_meet
          case rel => exact ⟨by rw [EV.out]; exact IS.out, by rw [EV.out]; exact FR.out, B3.out, E3.out⟩
  case rest =>
    obtain ⟨hI, hF, hb, he⟩ := hcut
    obtain ⟨W2, hw2⟩ := wnm hb
    subst hw2
    have B2 := Lib.hid hb
    have E2 := Lib.hid he
    have HI0 := Lib.hid hI
    have HF0 := Lib.hid hF
    have DR := Lib.hid (dbL_rise (t := t) H0.out)
    have DL := dbL_len (t := t) H0.out
    have ML := (evF_lens H0.out).1.2.2
    have NL := (evF_lens H0.out).1.2.1
    have FE := Lib.hid (fun p => @flt_end e fr t p)
    have c13 := E2.out.2.2.1
    have wl := E2.out.lt
    obtain ⟨ao, co, eo, ho⟩ := (HV.out _ B2.out).2.2.2.2.1
    have HO := Lib.hid ho
    have EO := Lib.hid eo
    rw [eo] at c13
    clear hI hF hb he B1 E1 HP1 ho eo H0
    generalize dbL e t = DB at HI0 HF0 DR DL FE
    go_wp2_with fail
    clear c13 wl
    go_loopw [7, 10] (fun lv iv wr => ∃ (i : Nat) (P : List Int), i ≤ e.more.length ∧ iv = .int .i64 i ∧ Ints wr lv P ∧ Frl lv P ∧ PutI DB e.more i P ∧ Below W2.heap.size W2 wr) (fun _ iv _ => e.more.length - (intOf iv).toNat)
    case atStart => exact ⟨0, DB, Nat.zero_le _, rfl, HI0.out, HF0.out, PutI.start DR.out, Below.refl _ _⟩
    case round =>
      obtain ⟨i, P, hi', rfl, hI, hF, hP, hB⟩ := hrel
      obtain ⟨wa, hwa⟩ := wnm hB
      subst hwa
      have HI := Lib.hid hI
      have HFr := Lib.hid hF
      have HP := Lib.hid hP
      have HBa := Lib.hid hB
      have pl := hP.2.2
      have Ea := E2.out.on hB
      have c13 : wa.cell? ⟨w.heap.size, 13, none⟩ = some (.slice ao e.more.length co) := by rw [← EO.out]; exact Ea.2.2.1
      have wl := Ea.lt
      clear hI hF hP HI0 HF0 DR
      by_cases hlt : i < e.more.length
      · clear Ea FE
        rcases HO.out with hc | ⟨lb, lo, rfl, hc⟩
        · rw [hc] at hlt; simp at hlt
        have k0 := hc i hlt
        have lbl := ecell_in k0
        have k1 := (hB.cell (p := ⟨lb, lo + i, none⟩) lbl).trans k0
        have lb2 := ecell_in k1
        have KP := Lib.hid (refPut_any _ P (e.more.getD i 0) wa HI.out HFr.out (by omega))
        have NX := Lib.hid (fun r q => HP.out.next (r := r) hlt q)
        generalize e.more.getD i 0 = x at k1 KP NX
        clear hc k0 lbl hB
        go_wp2_with fail
        clear c13 wl k1 lb2
        refine KP.out.mono ?_
        rintro y w3 ⟨u, r, rfl, g1, g2, g3, g4⟩
        have G1 := Lib.hid g1
        have G2 := Lib.hid g2
        have G3 := Lib.hid (NX.out r g3)
        have G4 := Lib.hid (HBa.out.trans (g4.mono HBa.out.size))
        clear g1 g2 g3 g4 KP NX HP HI HFr HBa
        go_wp2
        go_roundw
        case rel => exact ⟨i + 1, r, by omega, by go_num, G1.out, G2.out, G3.out, G4.out⟩
        case measure => simp [intOf]; omega
      · have ei : i = e.more.length := by omega
        have HPE := HP.out
        rw [ei] at HPE
        have FF := Lib.hid (FE.out P HPE)
        have B3 := Lib.hid (B2.out.trans (hB.mono B2.out.size))
        have E3 := Lib.hid Ea
        obtain ⟨pa, pc, rfl, hpc⟩ := HI.out
        have HC := Lib.hid hpc
        clear hpc HPE HP HI HFr HBa hB Ea FE ei B2 E2 HO
        go_wp2_with fail
        clear c13 wl
        go_loopw [11, 12, 13] (fun ov iv _ wr => ∃ i : Nat, i ≤ P.length ∧ iv = .int .i64 i ∧ wr.ownsRow wa.heap.size 3 1 ov (flt e fr t i P).length (nums (flt e fr t i P)) ∧ Below wa.heap.size wa wr) (fun _ iv _ _ => P.length - (intOf iv).toNat)
        case atStart => exact ⟨0, Nat.zero_le _, rfl, World.ownsRow_nil _ _ _ _, Below.refl _ _⟩
        case round =>
          obtain ⟨j, hj, rfl, hown, hB⟩ := hrel
          obtain ⟨wb, hwb⟩ := wnm hB
          subst hwb
          have HO := Lib.hid hown
          have HBb := Lib.hid hB
          have fl := flt_len e fr t j P
          have szx := hB.size
          clear hown
          by_cases hlt : j < P.length
          · rcases HC.out with hc | ⟨lb, lo, rfl, hc⟩
            · rw [hc] at hlt; simp at hlt
            have k0 := hc j hlt
            have lbl := ecell_in k0
            have k1 := (hB.cell (p := ⟨lb, lo + j, none⟩) lbl).trans k0
            have lb2 := ecell_in k1
            obtain ⟨x, hx⟩ : ∃ x, x = P.getD j 0 := ⟨_, rfl⟩
            have FY := Lib.hid (fun q => flt_yes (e := e) (fr := fr) (t := t) hlt q)
            have FN := Lib.hid (fun q => flt_no (e := e) (fr := fr) (t := t) hlt q)
            rw [← hx] at k1 FY FN
            have Eb := E3.out.on hB
            have Vb := (HV.out _ (B3.out.trans (hB.mono B3.out.size))).2.2.2.2.2.1
            have KI := Lib.hid (fun q => Zo.refIn_any s.vn e.nots x (wb.drewN q) (Vb.on (blw_drewN _ _ _)) (by omega))
            obtain ⟨an, cn, en, _⟩ := Vb
            have c14 : wb.cell? ⟨w.heap.size, 14, none⟩ = some (.slice an e.nots.length cn) := by rw [← en]; exact Eb.2.2.2.1
            rw [en] at KI
            have wl := Eb.lt
            have KE : Hid (kee e fr t x = (!(e.nots.contains x) && (decide (fr ≤ x) && decide (x ≤ t)))) := Lib.hid rfl
            generalize kee e fr t x = KX at FY FN KE
            generalize e.nots.contains x = CX at KI KE
            generalize flt e fr t j P = xs at HO fl FY FN
            clear hc k0 lbl hx hB en Eb FF
            go_wp2_with fail
            go_quiet ((go_at_call 18; exact Calls.quiet_of_same (KI.out _)))
            have hbc : Below wb.heap.size wb (wb.drewN nq) := blw_drewN _ _ _
            have k2 : (wb.drewN nq).cell? ⟨lb, lo + j, none⟩ = some (.int .i64 x) := k1
            have lb3 : lb < (wb.drewN nq).heap.size := lb2
            have HOc := Lib.hid (ow_below HO.out hbc)
            have HBc := Lib.hid (HBb.out.trans (hbc.mono szx))
            generalize wb.drewN nq = wc at hbc k2 lb3 HOc HBc ⊢
            clear k1 lb2 c14 wl KI HO HBb hbc
            have szc := HBc.out.size
            rcases hc1 : CX with _ | _
            case true =>
              have N1 := Lib.hid (FN.out (by rw [KE.out, hc1]; rfl))
              clear FN FY KE
              go_wp2
              go_roundw
              case rel => exact ⟨j + 1, by omega, by go_num, by rw [N1.out]; exact HOc.out, HBc.out⟩
              case measure => simp [intOf]; omega
            by_cases c2 : fr ≤ x
            case neg =>
              have N1 := Lib.hid (FN.out (by rw [KE.out, hc1, decide_eq_false c2]; rfl))
              clear FN FY KE
              go_wp2
              go_roundw
              case rel => exact ⟨j + 1, by omega, by go_num, by rw [N1.out]; exact HOc.out, HBc.out⟩
              case measure => simp [intOf]; omega
            by_cases c3 : x ≤ t
            case neg =>
              have N1 := Lib.hid (FN.out (by rw [KE.out, hc1, decide_eq_true c2, decide_eq_false c3]; rfl))
              clear FN FY KE
              go_wp2
              go_roundw
              case rel => exact ⟨j + 1, by omega, by go_num, by rw [N1.out]; exact HOc.out, HBc.out⟩
              case measure => simp [intOf]; omega
            have N1 := Lib.hid (FY.out (by rw [KE.out, hc1, decide_eq_true c2, decide_eq_true c3]; rfl))
            clear FN FY KE
            go_wp2_with (at_builtin; refine wpList_append_own _ rfl _ _ 22 rfl wa.heap.size 3 i0 (.int .i64 0) 1 8 Tryz.underlying22 hi hz0 hz1 hz2 rfl (by decide) _ _ _ rfl (HOc.out.alloc _) ⟨wc.heap.size, 0, none⟩ 1 1 [.int .i64 x] rfl rfl ?d1 ?d2 ?d3 ?d4 ?d5 ?_)
            case d1 =>
              intro j u hj
              match j, hj with
              | 0, hj => simp at hj; subst hj; simp [Addr.add]
            case d2 => intro u hu; simp at hu; subst hu; rfl
            case d3 => unfold maxLen; omega
            case d4 => omega
            case d5 => simp; omega
            intro v' w5 hown' hgrow _
            have Q2 := Lib.hid (ow_grow szc HBc.out (Below.refl _ _) HOc.out hgrow)
            have Q1 := Lib.hid hown'
            rw [← nums_snoc] at Q1
            clear hown' hgrow HOc k2
            go_wp2
            go_roundw
            case rel => exact ⟨j + 1, by omega, by go_num, by rw [N1.out, List.length_append]; exact Q1.out, Q2.out⟩
            case measure => simp [intOf]; omega
          · have ej : j = P.length := by omega
            have IS0 := ow_ints HO.out
            rw [ej, FF.out] at IS0
            have IS := Lib.hid IS0
            have B4 := Lib.hid (B3.out.trans (hB.mono B3.out.size))
            clear IS0 HO hB ej
            go_wp2
            go_ret
            exact ⟨_, rfl, IS.out, B4.out⟩
/-- Is a number a time of an event, as the document tells? -/
theorem refIs_any (e : Evt) (s : Evs) (t : Int) (w : World) (hv : EvB w e s) (h : evF e = 0) (ht : t ≤ 9223372036854775807) (ht2 : -9223372036854775808 ≤ t) :
    Calls Tryz.prog 15 #[.agg (ecells e s), .int .i64 t] w fun x w' => x = .returned (.bool ((dcL e t t).length == 1)) ∧ Below w.heap.size w w' := by
  have B0 := (Below.refl w.heap.size w).alloc (Nat.le_refl _) (.cells (ecells e s) 29)
  have R0 := EBox.new w e s 29
  obtain ⟨W0, hW⟩ : ∃ W0, W0 = w.alloc (.cells (ecells e s) 29) := ⟨_, rfl⟩
  rw [← hW] at B0 R0
  have HW := Lib.hid hW
  have HB := Lib.hid B0
  have HE := Lib.hid R0
  have K := Lib.hid (refLocal_any e s t t W0 (hv.on B0) h ht ht2)
  generalize dcL e t t = L at K ⊢
  clear hv B0 R0 hW h
  go_enter Tryz.func15, Tryz.ntmps15
  go_upto_region 1 with fail
  rw [← HW.out]
  clear HW
  go_wp2_with (refine ev_load ?h1 (.tmp 2) ?h2 w.heap.size e s ?h3 HE.out ?h4; (case h1 => rfl); (case h2 => rfl); (case h3 => rfl))
  refine K.out.mono ?_
  rintro x w1 ⟨v, rfl, hx, hb⟩
  have B1 := Lib.hid (HB.out.trans (hb.mono HB.out.size))
  obtain ⟨a, c, rfl, _⟩ := hx
  clear hb K HB HE
  rcases hq : (L.length == 1) with _ | _
  · have q2 : ((L.length : Int) == 1) = false := by simp at hq ⊢; omega
    go_wp2
    go_ret
    exact ⟨by rw [hq]; rfl, B1.out⟩
  · have q2 : ((L.length : Int) == 1) = true := by simp at hq ⊢; omega
    go_wp2
    go_ret
    exact ⟨by rw [hq]; rfl, B1.out⟩
end Go.Proofs.YtnnpnalfkcngmadGreatDoor
