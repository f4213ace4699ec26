/-
  What is proved here: the walk of chimelaw3.MonthTells in a month with days handed in that do not rise: it returns true, and turns nothing that was there; the table of months and the type of errors are asked as premises.
-/
import Derived.Test.YtikpfeaidgeebaaDoorMoTells
import Derived.Test.YtikpfeaidgeebaaDoorMoLeafP
namespace Go.Proofs.YtikpfeaidgeebaaDoor.Mo
open Go.RowKit Cal Txt

set_option maxRecDepth 100000 in
set_option maxHeartbeats 4000000 in
theorem mtells_ris (y m : Int) (vd vl : Value) (ds : List Int) (l : List ByteArray) (r c : Int) (w : World) (hT : Tab w) (hE : ErrTy w) (h : isM y m) (hd : Ints w vd ds) (hn : ds.length ≤ 9223372036854775807) (hv : Txs w vl l) (n1 : ¬ 100 < ds.length) (ha : ds.all (inM (fst y m) (lst y m)) = true) (hr : risB ds = false) :
    Calls Tryd.prog 3 #[.int .i64 y, .int .i64 m, vd, vl, .int .i64 r, .int .i64 c] w fun e w' => e = .returned (.bool true) ∧ Below w.heap.size w w' := by
  have HD := Lib.hid hd
  have HV := Lib.hid hv
  have HE := Lib.hid hE
  obtain ⟨da, dc, rfl, _⟩ := hd
  obtain ⟨la, lc, rfl, _⟩ := hv
  have EB := ends_bd h
  have ZB := ml_bd y m
  have LF0 := lfM_len none0 h
  have K1 : Hid (∀ W, Calls Tryd.prog 6 #[.int .i64 y, .int .i64 m] W fun e w' => e = .returned (.int .i64 (ml y m)) ∧ w' = W) := Lib.hid (fun W => refDays_yes y m W h.1 h.2.1 h.2.2.1 h.2.2.2)
  have KM : Hid (∀ W, Calls Tryd.prog 7 #[.int .i64 y, .int .i64 m, .slice none 0 0] W fun e w' => (∃ v', e = .returned v' ∧ Txs w' v' (lfM y m none0)) ∧ Below W.heap.size W w') := Lib.hid (fun W => by
    have := refMk_any y m (.slice none 0 0) [] W h ⟨none, 0, rfl, Or.inl rfl⟩ (by simp) (fun k hk => by simp [mk] at hk)
    rwa [mk_nil] at this)
  have K2 : Hid (∀ W, Below w.heap.size w W → _) := Lib.hid (fun W (hW : Below w.heap.size w W) => mleaf_yes y m W (hT.below hW) h)
  have KT : Hid (∀ W x z, Txs W x (lfM y m none0) → Txs W z (lfM y m none0) → Calls Tryd.prog 10 #[x, z] W fun e w' => e = .returned (.bool true) ∧ Below W.heap.size W w') := Lib.hid (fun W x z hx hz => sameTexts _ x z W hx hz (by omega))
  have K5 : Hid (∀ W, Calls Tryd.prog 11 #[.agg #[.int .i64 y, .int .i64 m, .int .i64 1]] W fun e w' => e = .returned (.int .i64 (fst y m)) ∧ Below W.heap.size W w') := Lib.hid (fun W => refOf_yes y m 1 W (ok_one h))
  have K6 : Hid (∀ W, Below w.heap.size w W → _) := Lib.hid (fun W (hW : Below w.heap.size w W) => refRises_any _ ds W (HD.out.on hW) hn)
  have K7 : Hid (∀ W, Below w.heap.size w W → _) := Lib.hid (fun W (hW : Below w.heap.size w W) => marks_yes y m _ ds W (hT.below hW) h (HD.out.on hW))
  have MF : Hid (mfl (fst y m) (lst y m) ds = 7) := Lib.hid (mfl_ris n1 ha hr)
  have KF : Hid (∀ W, Below w.heap.size w W → Calls Tryd.prog 9 #[.iface 53 (.int .i64 7), .int .i64 7] W fun e w' => e = .returned (.bool true) ∧ Below W.heap.size W w') := Lib.hid (fun W hW => error_errno 7 7 W (hE.below hW))
  have K9 : Hid (∀ W, Below w.heap.size w W → Calls Tryd.prog 13 #[.int .i64 y, .int .i64 m, .slice da ds.length dc] W fun e w' => e = .returned (.tuple #[.slice none 0 0, .iface 53 (.int .i64 7)]) ∧ Below W.heap.size W w') := Lib.hid (fun W hW => (K7.out W hW).mono (fun e w' ⟨hx, hb⟩ => ⟨by
    rcases hx with ⟨q, _⟩ | ⟨_, q⟩
    · rw [MF.out] at q; cases q
    · rw [MF.out] at q; exact q, hb⟩))
  have K4 : Hid (∀ W, Calls Tryd.prog 10 #[.slice none 0 0, .slice none 0 0] W fun e w' => e = .returned (.bool true) ∧ Below W.heap.size W w') := Lib.hid (fun W => sameTexts [] _ _ W (nil_txs W) (nil_txs W) (by simp))
  clear K7 MF
  have HA : Hid (∀ k, k < ds.length → fst y m ≤ ds.getD k 0 ∧ ds.getD k 0 < fst y m + ml y m) := Lib.hid (fun k hk => by
    have hm : ds.getD k 0 ∈ ds := by rw [List.getD_eq_getElem?_getD, List.getElem?_eq_getElem hk]; exact List.getElem_mem _
    have := of_decide_eq_true (List.all_eq_true.1 ha _ hm)
    rw [lst_eq] at this
    exact ⟨this.1, by omega⟩)
  rw [hr] at K6
  clear h hT hE LF0
  clear ha hr
  generalize lfM y m none0 = L0 at KM K2 KT
  rw [lst_eq] at EB 
  generalize fst y m = F at EB K5 HA
  generalize ml y m = Z at EB ZB K1 HA
  obtain ⟨F1, F2, F3, F4⟩ := EB
  obtain ⟨Z1, Z2⟩ := ZB
  go_enter Tryd.func3, Tryd.ntmps3
  go_wp2_with fail
  refine (K1.out _).mono ?_
  rintro e w1 ⟨rfl, hw⟩
  replace hw := hw.symm
  subst hw
  go_wp2_with fail
  refine (KM.out _).mono ?_
  rintro e w1 ⟨⟨v1, rfl, hx⟩, hb⟩
  have B1 := Lib.hid hb
  have HX1 := Lib.hid hx
  clear hb hx K1 KM
  go_wp2_with fail
  refine (K2.out w1 B1.out).mono ?_
  rintro e w2 ⟨⟨v2, rfl, hx⟩, hb⟩
  have B2 := Lib.hid (B1.out.trans (hb.mono B1.out.size))
  have HX2 := Lib.hid hx
  have HX3 := Lib.hid (HX1.out.on hb)
  clear hb hx K2 HX1 B1
  go_wp2_with fail
  refine (errT_nil w2).mono ?_
  rintro e w3 ⟨rfl, hb⟩
  have B3 := Lib.hid (B2.out.trans (hb.mono B2.out.size))
  have K0 := Lib.hid (KT.out w3 v2 v1 (HX2.out.on hb) (HX3.out.on hb))
  clear hb B2 HX2 HX3 KT
  go_wp2_with fail
  refine K0.out.mono ?_
  rintro e w4 ⟨rfl, hb⟩
  have B4 := Lib.hid (B3.out.trans (hb.mono B3.out.size))
  clear hb B3 K0
  go_wp2_with fail
  refine (K5.out w4).mono ?_
  rintro e w5 ⟨rfl, hb⟩
  have B5 := Lib.hid (B4.out.trans (hb.mono B4.out.size))
  clear hb B4 K5
  have HI := Lib.hid (HD.out.on B5.out)
  go_wp2_with fail
  go_loop [14, 22] (fun e i => ∃ k : Nat, k ≤ ds.length ∧ i = .int .i64 k ∧ e = .int .i64 0) (fun _ i => ds.length - (intOf i).toNat)
  case atStart => exact ⟨0, Nat.zero_le _, rfl, rfl⟩
  case round =>
    obtain ⟨k, hk, rfl, rfl⟩ := hrel
    by_cases hlt : k < ds.length
    · obtain ⟨a', c', e', hc⟩ := HI.out
      obtain ⟨rfl, rfl⟩ : da = a' ∧ dc = c' := by simpa using e'
      rcases hc with hc | ⟨b, off, rfl, hc⟩
      · rw [hc] at hlt; simp at hlt
      have k1 := hc k hlt
      have g := HA.out k hlt
      generalize ds.getD k 0 = x at k1 g
      obtain ⟨g1, g2⟩ := g
      clear hc e'
      go_wp2
      go_round
      case rel => exact ⟨k + 1, by omega, by go_num, rfl⟩
      case measure => simp [intOf]; omega
    clear HI HA
    go_wp2_with fail
    refine (K6.out w5 B5.out).mono ?_
    rintro e w6 ⟨rfl, hb⟩
    have B6 := Lib.hid (B5.out.trans (hb.mono B5.out.size))
    clear hb B5 K6
    go_wp2_with fail
    refine (K9.out w6 B6.out).mono ?_
    rintro e wa ⟨rfl, hb⟩
    have Ba := Lib.hid (B6.out.trans (hb.mono B6.out.size))
    clear hb B6 K9
    go_wp2_with fail
    refine (KF.out wa Ba.out).mono ?_
    rintro e wb ⟨rfl, hb⟩
    have Bb := Lib.hid (Ba.out.trans (hb.mono Ba.out.size))
    clear hb Ba KF
    go_wp2_with fail
    refine (K4.out wb).mono ?_
    rintro e w8 ⟨rfl, hb⟩
    have B8 := Lib.hid (Bb.out.trans (hb.mono Bb.out.size))
    clear hb Bb K4 HD
    go_upto_region 28 with fail
    obtain ⟨Z1, hZ1⟩ : ∃ Z1, Z1 = decide (r < 0 ∨ (l.length : Int) ≤ r ∨ c < 0 ∨ 6 < c) := ⟨_, rfl⟩
    have HZ1 := Lib.hid hZ1
    clear hZ1
    go_cut [133] from 118 to 133 (fun s wx => s = .bool Z1 ∧ wx = w8)
    case first =>
      rcases (by omega : (r < 0 ∨ (0 ≤ r ∧ (l.length : Int) ≤ r) ∨ (0 ≤ r ∧ r < (l.length : Int) ∧ c < 0) ∨ (0 ≤ r ∧ r < (l.length : Int) ∧ 0 ≤ c ∧ 6 < c)) ∨ (0 ≤ r ∧ r < (l.length : Int) ∧ 0 ≤ c ∧ c ≤ 6)) with g | ⟨g1, g2, g3, g4⟩
      · have Z0 : Hid (Z1 = true) := Lib.hid (by rw [HZ1.out]; exact decide_eq_true (by omega))
        rcases g with g | ⟨g1, g⟩ | ⟨g1, g2, g⟩ | ⟨g1, g2, g3, g⟩
        all_goals
          go_wp2
          go_meet
          case rel => exact ⟨by rw [Z0.out], rfl⟩
      · have Z0 : Hid (Z1 = false) := Lib.hid (by rw [HZ1.out]; exact decide_eq_false (by omega))
        go_wp2
        go_meet
        case rel => exact ⟨congrArg Value.bool (by rw [Z0.out, decide_eq_false (show ¬ r < 0 by omega), decide_eq_false (show ¬ (l.length : Int) ≤ r by omega), decide_eq_false (show ¬ c < 0 by omega), decide_eq_false (show ¬ 6 < c by omega)]; rfl), rfl⟩
    case rest =>
    obtain ⟨rfl, hw⟩ := hcut
    replace hw := hw.symm
    subst hw
    obtain ⟨CE, hCE⟩ : ∃ CE, CE = cel l r c := ⟨_, rfl⟩
    have HCE := Lib.hid hCE
    clear hCE
    go_upto_if 133 with fail
    go_cut [14, 27] from 28 to 184 (fun e wn wx => e = .int .i64 CE.2 ∧ wn = .int .i64 CE.1 ∧ wx = w8)
    case first =>
      by_cases h0 : r < 0 ∨ (l.length : Int) ≤ r ∨ c < 0 ∨ 6 < c
      · have N : Hid (CE = (0, 1)) := Lib.hid (by rw [HCE.out]; exact cel_out h0)
        have Z0 : Z1 = true := by rw [HZ1.out]; exact decide_eq_true h0
        clear h0 HZ1
        subst Z0
        go_wp2
        go_meet
        case rel => exact ⟨by rw [N.out], by rw [N.out], rfl⟩
      have Z0 : Z1 = false := by rw [HZ1.out]; exact decide_eq_false h0
      obtain ⟨g1, g2, g3, g4⟩ : 0 ≤ r ∧ r < (l.length : Int) ∧ 0 ≤ c ∧ c ≤ 6 := by omega
      obtain ⟨k, rfl⟩ := Int.eq_ofNat_of_zero_le g1
      obtain ⟨j, rfl⟩ := Int.eq_ofNat_of_zero_le g3
      have hk : k < l.length := by omega
      obtain ⟨a', c', e', hc⟩ := HV.out.on B8.out
      obtain ⟨rfl, rfl⟩ : la = a' ∧ lc = c' := by simpa using e'
      rcases hc with hc | ⟨b, off, rfl, hc⟩
      · rw [hc] at hk; simp at hk
      have k1 := hc k hk
      clear hc e' HZ1
      subst Z0
      by_cases hs : (l.getD k ByteArray.empty).size = 21
      · have N : Hid (CE = rdL (at3 (l.getD k ByteArray.empty) j)) := Lib.hid (by
          rw [HCE.out, cel_in h0 (by rw [Int.toNat_natCast]; exact hs), Int.toNat_natCast, Int.toNat_natCast])
        generalize l.getD k ByteArray.empty = X at k1 hs N
        have i1 : ((3 : Int) * (j : Int)).toNat = 3 * j := by omega
        have i2 : ((3 : Int) * (j : Int) + 3).toNat = 3 * j + 3 := by omega
        clear h0 HCE
        go_upto_region 33 with fail
        obtain ⟨S, hS⟩ : ∃ S, S = X.extract (3 * j) (3 * j + 3) := ⟨_, rfl⟩
        rw [← hS]
        have SS : S.size = 3 := by rw [hS]; exact ex_size rfl (by omega)
        unfold at3 at N
        rw [← hS] at N
        obtain ⟨p, q, u, hB⟩ : ∃ p q u, S.data.toList = [p, q, u] := by
          have hl : S.data.toList.length = 3 := SS
          match hh : S.data.toList, hl with
          | [p, q, u], _ => exact ⟨p, q, u, rfl⟩
        have p0 : S[0] = p := by
          have := getD_at S 0 (by omega)
          rw [hB] at this
          exact this.symm
        rw [hB] at N
        have x1 := ex_two SS
        rw [hB] at x1
        have HB := Lib.hid hB
        clear hS i1 i2 k1 hs
        go_upto_region 34 with fail
        obtain ⟨T1, hT⟩ : ∃ T1, T1 = S.extract 1 3 := ⟨_, rfl⟩
        rw [← hT] at x1 ⊢
        have s1 : T1.size = 2 := by
          have := congrArg List.length x1
          exact this
        have q0 : T1[0] = q := by
          have := getD_at T1 0 (by omega)
          rw [x1] at this
          exact this.symm
        clear hT
        go_upto_if 154 with fail
        go_cut [29] from 155 to 156 (fun s wx => (∃ T, s = .string T ∧ T.data.toList = bar q u) ∧ wx = w8)
        case first =>
          by_cases hq : q = 32
          · have z1 : ((q.toNat : Int) == 32) = true := by rw [hq]; rfl
            have z2 : ((T1[0].toNat : Int) == 32) = true := by rw [q0]; exact z1
            have N2 : Hid ((T1.extract 1 2).data.toList = bar q u) := Lib.hid (by
              unfold bar
              rw [if_pos hq, ext_list, x1]; rfl)
            clear hq
            go_wp2
            go_meet
            case rel => exact ⟨⟨_, rfl, N2.out⟩, rfl⟩
          · have z1 : ((q.toNat : Int) == 32) = false := by
              rw [beq_eq_false_iff_ne]
              exact fun e => hq ((byte_eq (c := 32) rfl).2 e)
            have z2 : ((T1[0].toNat : Int) == 32) = false := by rw [q0]; exact z1
            have N2 : Hid (T1.data.toList = bar q u) := Lib.hid (by
              unfold bar
              rw [if_neg hq, x1]; rfl)
            clear hq
            go_wp2
            go_meet
            case rel => exact ⟨⟨_, rfl, N2.out⟩, rfl⟩
        case rest =>
        obtain ⟨⟨T, rfl, hT⟩, hw⟩ := hcut
        replace hw := hw.symm
        subst hw
        have TZ : T.size ≤ 2 := by
          have := congrArg List.length hT
          show T.data.toList.length ≤ 2
          rw [this]
          unfold bar
          split <;> simp
        have KN := refNumber 2 (by decide) (by decide) T w8 (by omega)
        rw [hT] at KN
        clear q0 s1 x1 hT TZ
        obtain ⟨o, ho⟩ : ∃ o, o = nr 2 (bar q u) := ⟨_, rfl⟩
        rw [← ho] at KN
        have HKN : Hid (Calls Tryd.prog 14 #[.string T, .int .i64 2] w8 fun e w' => e = .returned (.tuple #[.int .i64 (o.getD 0), .bool o.isSome]) ∧ w' = w8) := Lib.hid KN
        have HO := Lib.hid ho
        clear KN ho
        go_wp2_with fail
        refine HKN.out.mono ?_
        rintro e w9 ⟨rfl, hw⟩
        replace hw := hw.symm
        subst hw
        clear HKN
        go_upto_region 37 with fail
        by_cases hbl : [p, q, u] = [32, 32, 32]
        · have t0 : (S.toList == [32, 32, 32]) = true := eq_yes (by rw [HB.out]; exact hbl)
          have N0 : Hid (CE = (0, 5)) := Lib.hid (by rw [N.out]; exact rd_none hbl)
          clear hbl p0
          go_wp2
          go_meet
          case rel => exact ⟨by rw [N0.out], by rw [N0.out], rfl⟩
        have t0 : (S.toList == [32, 32, 32]) = false := eq_no (by rw [HB.out]; exact hbl)
        have HBL := Lib.hid hbl
        clear hbl
        by_cases sg : p = 32 ∨ p = 42
        · have SG := Lib.hid sg
          have zz : (((p.toNat : Int) != 32) = false ∧ ((S[0].toNat : Int) != 32) = false) ∨ ((((p.toNat : Int) != 32) = true ∧ ((S[0].toNat : Int) != 32) = true) ∧ ((p.toNat : Int) != 42) = false ∧ ((S[0].toNat : Int) != 42) = false) := by
            rw [p0]
            rcases sg with rfl | rfl
            · exact Or.inl ⟨rfl, rfl⟩
            · exact Or.inr ⟨⟨rfl, rfl⟩, rfl, rfl⟩
          clear sg p0
          rcases o with _ | n
          · have N0 : Hid (CE = (0, 2)) := Lib.hid (by rw [N.out]; exact rd_doc_none HBL.out (fun n hn => by rw [← HO.out] at hn; cases hn))
            rcases zz with ⟨z1, z2⟩ | ⟨⟨z1, z2⟩, z3, z4⟩
            all_goals
              go_wp2
              go_meet
              case rel => exact ⟨by rw [N0.out], by rw [N0.out], rfl⟩
          by_cases n1 : n < 1
          · have N0 : Hid (CE = (0, 2)) := Lib.hid (by rw [N.out]; exact rd_doc_none HBL.out (fun n' hn => by rw [← HO.out] at hn; have := Option.some.inj hn; omega))
            rcases zz with ⟨z1, z2⟩ | ⟨⟨z1, z2⟩, z3, z4⟩
            all_goals
              go_wp2
              go_meet
              case rel => exact ⟨by rw [N0.out], by rw [N0.out], rfl⟩
          by_cases n2 : 31 < n
          · have N0 : Hid (CE = (0, 2)) := Lib.hid (by rw [N.out]; exact rd_doc_none HBL.out (fun n' hn => by rw [← HO.out] at hn; have := Option.some.inj hn; omega))
            rcases zz with ⟨z1, z2⟩ | ⟨⟨z1, z2⟩, z3, z4⟩
            all_goals
              go_wp2
              go_meet
              case rel => exact ⟨by rw [N0.out], by rw [N0.out], rfl⟩
          · have N0 : Hid (CE = (n, 0)) := Lib.hid (by rw [N.out]; exact rd_doc_some HBL.out SG.out HO.out.symm (by omega) (by omega))
            rcases zz with ⟨z1, z2⟩ | ⟨⟨z1, z2⟩, z3, z4⟩
            all_goals
              go_wp2
              go_meet
              case rel => exact ⟨by rw [N0.out], by rw [N0.out], rfl⟩
        · have s1 : ¬ p = 32 := fun e => sg (Or.inl e)
          have s2 : ¬ p = 42 := fun e => sg (Or.inr e)
          have N0 : Hid (CE = (0, 2)) := Lib.hid (by rw [N.out]; exact rd_doc_sign HBL.out s1 s2)
          have z1 : ((p.toNat : Int) != 32) = true := by
            rw [bne_iff_ne]
            exact fun e => s1 ((byte_eq (c := 32) rfl).2 e)
          have z2 : ((p.toNat : Int) != 42) = true := by
            rw [bne_iff_ne]
            exact fun e => s2 ((byte_eq (c := 42) rfl).2 e)
          have z3 : ((S[0].toNat : Int) != 32) = true := by rw [p0]; exact z1
          have z4 : ((S[0].toNat : Int) != 42) = true := by rw [p0]; exact z2
          clear sg s1 s2 p0
          go_wp2
          go_meet
          case rel => exact ⟨by rw [N0.out], by rw [N0.out], rfl⟩
      · have N : Hid (CE = (0, 2)) := Lib.hid (by rw [HCE.out]; exact cel_long h0 (by rw [Int.toNat_natCast]; exact hs))
        generalize l.getD k ByteArray.empty = X at k1 hs
        clear h0 HCE
        go_wp2
        go_meet
        case rel => exact ⟨by rw [N.out], by rw [N.out], rfl⟩
    case rest =>
    obtain ⟨rfl, rfl, hw⟩ := hcut
    replace hw := hw.symm
    subst hw
    have K8 := cell_any l _ r c w8 (HV.out.on B8.out)
    rw [← HCE.out] at K8
    obtain ⟨WN, FE⟩ := CE
    dsimp only at K8 ⊢
    have HK8 := Lib.hid K8
    clear HCE K8 HZ1
    go_wp2_with fail
    refine HK8.out.mono ?_
    rintro e w9 ⟨rfl, hb⟩
    have B9 := Lib.hid (B8.out.trans (hb.mono B8.out.size))
    clear hb HK8 B8
    go_wp2_with fail
    refine (errT_fault FE w9 (HE.out.below B9.out)).mono ?_
    rintro e w10 ⟨rfl, hb⟩
    have B10 := Lib.hid (B9.out.trans (hb.mono B9.out.size))
    clear hb B9
    go_wp2
    go_ret
    exact ⟨ret_bool (by simp), B10.out⟩
end Go.Proofs.YtikpfeaidgeebaaDoor.Mo
