/-
  What is proved here: chimelaw2.LineTells returns true for every text and every list of texts that are not too long (a contract over the translation; the marked bytes and errors.errorType are asked as premises).
-/
import Derived.Test.YtoafdacgekmomafDoorLnBack
import Derived.Test.YtoafdacgekmomafDoorLnRef3
import Derived.Test.YtoafdacgekmomafDoorErrT
namespace Go.Proofs.YtoafdacgekmomafDoor
open Go.RowKit Cal Ln

theorem errT_two (w : World) (hg : ErrTy w) : Calls Tryd.prog 8 #[errSyntax, .int .i64 2] w fun e w' => e = .returned (.bool true) ∧ Below w.heap.size w w' := errT_fault 2 w hg
set_option maxRecDepth 100000 in
set_option maxHeartbeats 8000000 in
theorem lineTells_any (s : ByteArray) (v : Value) (xs : List ByteArray) (w : World) (hM : Mrk w) (hG : ErrTy w) (hv : Txs w v xs) (hs : s.size ≤ 1048576) (hl : xs.length ≤ 1048576) (ht : tot (pcl xs) ≤ 1048576) :
    Calls Tryd.prog 3 #[.string s, v] w fun e w' => e = .returned (.bool true) ∧ Below w.heap.size w w' := by
  have HV := Lib.hid hv
  have HM := Lib.hid hM
  have HG := Lib.hid hG
  clear hv hM hG
  go_enter Tryd.func3, Tryd.ntmps3
  go_wp2_with fail
  refine (refEsc_any s _ (by omega)).mono ?_
  rintro e w1 ⟨rfl, hw⟩
  subst hw
  cases hp : pln s.data.toList with
  | some c =>
    have HP := Lib.hid hp
    clear hp
    go_wp2_with fail
    refine (refPln_any s _ (by omega)).mono ?_
    rintro e w2 ⟨rfl, hw⟩
    subst hw
    rw [plV_some HP.out, plB_some HP.out]
    go_wp2_with fail
    refine (plain_ok (HM.out) (by omega) HP.out).mono ?_
    rintro e w3 ⟨rfl, hb3⟩
    have B3 := Lib.hid hb3
    clear hb3
    go_wp2_with fail
    refine (errT_nil _).mono ?_
    rintro e w4 ⟨rfl, hb4⟩
    have B4 := Lib.hid (B3.out.trans (hb4.mono B3.out.size))
    clear hb4 B3
    go_wp2_with fail
    refine (fold_any s _ (by omega)).mono ?_
    rintro e w5 ⟨hb5, v5, ys, rfl, hown5, hys⟩
    have B5 := Lib.hid (B4.out.trans (hb5.mono B4.out.size))
    have T5 := Lib.hid (own_txs hown5)
    clear hb5 hown5
    go_wp2_with fail
    refine (refFold_any s _ (by omega)).mono ?_
    rintro e w6 ⟨hb6, v6, zs, rfl, hown6, hzs⟩
    have B6 := Lib.hid (B5.out.trans (hb6.mono B5.out.size))
    have T6 := Lib.hid (own_txs hown6)
    have ez : zs = ys := pcl_inj (hzs.trans hys.symm)
    rw [ez] at T6
    have T5' := Lib.hid (T5.out.on hb6)
    have ly : ys.length ≤ 4194304 := by
      have e1 := congrArg List.length hys
      rw [List.length_map, fold_len, show s.data.toList.length = s.size from rfl] at e1
      omega
    clear hb6 hown6 ez hys hzs T5
    go_wp2_with fail
    refine (sameTexts ys _ _ _ T5'.out T6.out (by omega)).mono ?_
    rintro e w7 ⟨rfl, hb7⟩
    have B7 := Lib.hid (B6.out.trans (hb7.mono B6.out.size))
    clear hb7 T5' T6 B4 B5 B6 ly
    by_cases hu : fold (unf (pcl xs)) = pcl xs
    · have HU := Lib.hid hu
      clear hu
      go_wp2_with fail
      refine (refUnf_any xs _ _ (HV.out.on B7.out) (by omega) (by omega)).mono ?_
      rintro e w8 ⟨rfl, hw⟩
      subst hw
      have ub : unB xs = true := decide_eq_true HU.out
      rw [unV_yes ub, ub]
      clear ub
      go_wp2_with fail
      refine (unfold_ok (HV.out.on B7.out) (by omega) (by omega) HU.out).mono ?_
      rintro e w9 ⟨rfl, hb9⟩
      have B9 := Lib.hid (B7.out.trans (hb9.mono B7.out.size))
      clear hb9
      go_wp2_with fail
      refine (errT_nil _).mono ?_
      rintro e wA ⟨rfl, hbA⟩
      have BA := Lib.hid (B9.out.trans (hbA.mono B9.out.size))
      clear hbA B9 B7
      cases hpb : paB s with
      | true =>
        have HPB := Lib.hid hpb
        clear hpb
        go_wp2_with fail
        refine (refPair_any s _ (by omega)).mono ?_
        rintro e wB ⟨pa, pb, rfl, hpab, hbB⟩
        have BB := Lib.hid (BA.out.trans (hbB.mono BA.out.size))
        obtain ⟨rfl, rfl⟩ := hpab HPB.out
        rw [HPB.out]
        clear hbB BA
        go_wp2_with fail
        refine (pair_ok (by omega) HPB.out).mono ?_
        rintro e wC ⟨rfl, hbC⟩
        have BC := Lib.hid (BB.out.trans (hbC.mono BB.out.size))
        clear hbC BB
        go_wp2_with fail
        refine (errT_nil _).mono ?_
        rintro e wD ⟨rfl, hbD⟩
        have BD := Lib.hid (BC.out.trans (hbD.mono BC.out.size))
        clear hbD BC
        go_wp2_with fail
        refine (escape_any s _ (HM.out.below BD.out) (by omega)).mono ?_
        rintro e wE ⟨rfl, hbE⟩
        have BE := Lib.hid (BD.out.trans (hbE.mono BD.out.size))
        clear hbE BD
        go_wp2
        go_ret
        exact ⟨rfl, BE.out⟩
      | false =>
        have HPB := Lib.hid hpb
        clear hpb
        go_wp2_with fail
        refine (refPair_any s _ (by omega)).mono ?_
        rintro e wB ⟨pa, pb, rfl, hpab, hbB⟩
        have BB := Lib.hid (BA.out.trans (hbB.mono BA.out.size))
        rw [HPB.out]
        clear hbB hpab BA
        go_wp2_with fail
        refine (pair_no (by omega) HPB.out).mono ?_
        rintro e wC ⟨rfl, hbC⟩
        have BC := Lib.hid (BB.out.trans (hbC.mono BB.out.size))
        clear hbC BB
        go_wp2_with fail
        refine (errT_two _ (HG.out.below BC.out)).mono ?_
        rintro e wD ⟨rfl, hbD⟩
        have BD := Lib.hid (BC.out.trans (hbD.mono BC.out.size))
        clear hbD BC
        go_wp2_with fail
        refine (escape_any s _ (HM.out.below BD.out) (by omega)).mono ?_
        rintro e wE ⟨rfl, hbE⟩
        have BE := Lib.hid (BD.out.trans (hbE.mono BD.out.size))
        clear hbE BD
        go_wp2
        go_ret
        exact ⟨rfl, BE.out⟩
    · have HU := Lib.hid hu
      clear hu
      go_wp2_with fail
      refine (refUnf_any xs _ _ (HV.out.on B7.out) (by omega) (by omega)).mono ?_
      rintro e w8 ⟨rfl, hw⟩
      subst hw
      have ub : unB xs = false := decide_eq_false HU.out
      rw [unV_no ub, ub]
      clear ub
      go_wp2_with fail
      refine (unfold_no (HV.out.on B7.out) (by omega) (by omega) HU.out).mono ?_
      rintro e w9 ⟨rfl, hb9⟩
      have B9 := Lib.hid (B7.out.trans (hb9.mono B7.out.size))
      clear hb9
      go_wp2_with fail
      refine (errT_two _ (HG.out.below B9.out)).mono ?_
      rintro e wA ⟨rfl, hbA⟩
      have BA := Lib.hid (B9.out.trans (hbA.mono B9.out.size))
      clear hbA B9 B7
      cases hpb : paB s with
      | true =>
        have HPB := Lib.hid hpb
        clear hpb
        go_wp2_with fail
        refine (refPair_any s _ (by omega)).mono ?_
        rintro e wB ⟨pa, pb, rfl, hpab, hbB⟩
        have BB := Lib.hid (BA.out.trans (hbB.mono BA.out.size))
        obtain ⟨rfl, rfl⟩ := hpab HPB.out
        rw [HPB.out]
        clear hbB BA
        go_wp2_with fail
        refine (pair_ok (by omega) HPB.out).mono ?_
        rintro e wC ⟨rfl, hbC⟩
        have BC := Lib.hid (BB.out.trans (hbC.mono BB.out.size))
        clear hbC BB
        go_wp2_with fail
        refine (errT_nil _).mono ?_
        rintro e wD ⟨rfl, hbD⟩
        have BD := Lib.hid (BC.out.trans (hbD.mono BC.out.size))
        clear hbD BC
        go_wp2_with fail
        refine (escape_any s _ (HM.out.below BD.out) (by omega)).mono ?_
        rintro e wE ⟨rfl, hbE⟩
        have BE := Lib.hid (BD.out.trans (hbE.mono BD.out.size))
        clear hbE BD
        go_wp2
        go_ret
        exact ⟨rfl, BE.out⟩
      | false =>
        have HPB := Lib.hid hpb
        clear hpb
        go_wp2_with fail
        refine (refPair_any s _ (by omega)).mono ?_
        rintro e wB ⟨pa, pb, rfl, hpab, hbB⟩
        have BB := Lib.hid (BA.out.trans (hbB.mono BA.out.size))
        rw [HPB.out]
        clear hbB hpab BA
        go_wp2_with fail
        refine (pair_no (by omega) HPB.out).mono ?_
        rintro e wC ⟨rfl, hbC⟩
        have BC := Lib.hid (BB.out.trans (hbC.mono BB.out.size))
        clear hbC BB
        go_wp2_with fail
        refine (errT_two _ (HG.out.below BC.out)).mono ?_
        rintro e wD ⟨rfl, hbD⟩
        have BD := Lib.hid (BC.out.trans (hbD.mono BC.out.size))
        clear hbD BC
        go_wp2_with fail
        refine (escape_any s _ (HM.out.below BD.out) (by omega)).mono ?_
        rintro e wE ⟨rfl, hbE⟩
        have BE := Lib.hid (BD.out.trans (hbE.mono BD.out.size))
        clear hbE BD
        go_wp2
        go_ret
        exact ⟨rfl, BE.out⟩
  | none =>
    have HP := Lib.hid hp
    clear hp
    go_wp2_with fail
    refine (refPln_any s _ (by omega)).mono ?_
    rintro e w2 ⟨rfl, hw⟩
    subst hw
    rw [plV_none HP.out, plB_none HP.out]
    go_wp2_with fail
    refine (plain_no (HM.out) (by omega) HP.out).mono ?_
    rintro e w3 ⟨rfl, hb3⟩
    have B3 := Lib.hid hb3
    clear hb3
    go_wp2_with fail
    refine (errT_two _ (HG.out.below B3.out)).mono ?_
    rintro e w4 ⟨rfl, hb4⟩
    have B4 := Lib.hid (B3.out.trans (hb4.mono B3.out.size))
    clear hb4 B3
    go_wp2_with fail
    refine (fold_any s _ (by omega)).mono ?_
    rintro e w5 ⟨hb5, v5, ys, rfl, hown5, hys⟩
    have B5 := Lib.hid (B4.out.trans (hb5.mono B4.out.size))
    have T5 := Lib.hid (own_txs hown5)
    clear hb5 hown5
    go_wp2_with fail
    refine (refFold_any s _ (by omega)).mono ?_
    rintro e w6 ⟨hb6, v6, zs, rfl, hown6, hzs⟩
    have B6 := Lib.hid (B5.out.trans (hb6.mono B5.out.size))
    have T6 := Lib.hid (own_txs hown6)
    have ez : zs = ys := pcl_inj (hzs.trans hys.symm)
    rw [ez] at T6
    have T5' := Lib.hid (T5.out.on hb6)
    have ly : ys.length ≤ 4194304 := by
      have e1 := congrArg List.length hys
      rw [List.length_map, fold_len, show s.data.toList.length = s.size from rfl] at e1
      omega
    clear hb6 hown6 ez hys hzs T5
    go_wp2_with fail
    refine (sameTexts ys _ _ _ T5'.out T6.out (by omega)).mono ?_
    rintro e w7 ⟨rfl, hb7⟩
    have B7 := Lib.hid (B6.out.trans (hb7.mono B6.out.size))
    clear hb7 T5' T6 B4 B5 B6 ly
    by_cases hu : fold (unf (pcl xs)) = pcl xs
    · have HU := Lib.hid hu
      clear hu
      go_wp2_with fail
      refine (refUnf_any xs _ _ (HV.out.on B7.out) (by omega) (by omega)).mono ?_
      rintro e w8 ⟨rfl, hw⟩
      subst hw
      have ub : unB xs = true := decide_eq_true HU.out
      rw [unV_yes ub, ub]
      clear ub
      go_wp2_with fail
      refine (unfold_ok (HV.out.on B7.out) (by omega) (by omega) HU.out).mono ?_
      rintro e w9 ⟨rfl, hb9⟩
      have B9 := Lib.hid (B7.out.trans (hb9.mono B7.out.size))
      clear hb9
      go_wp2_with fail
      refine (errT_nil _).mono ?_
      rintro e wA ⟨rfl, hbA⟩
      have BA := Lib.hid (B9.out.trans (hbA.mono B9.out.size))
      clear hbA B9 B7
      cases hpb : paB s with
      | true =>
        have HPB := Lib.hid hpb
        clear hpb
        go_wp2_with fail
        refine (refPair_any s _ (by omega)).mono ?_
        rintro e wB ⟨pa, pb, rfl, hpab, hbB⟩
        have BB := Lib.hid (BA.out.trans (hbB.mono BA.out.size))
        obtain ⟨rfl, rfl⟩ := hpab HPB.out
        rw [HPB.out]
        clear hbB BA
        go_wp2_with fail
        refine (pair_ok (by omega) HPB.out).mono ?_
        rintro e wC ⟨rfl, hbC⟩
        have BC := Lib.hid (BB.out.trans (hbC.mono BB.out.size))
        clear hbC BB
        go_wp2_with fail
        refine (errT_nil _).mono ?_
        rintro e wD ⟨rfl, hbD⟩
        have BD := Lib.hid (BC.out.trans (hbD.mono BC.out.size))
        clear hbD BC
        go_wp2_with fail
        refine (escape_any s _ (HM.out.below BD.out) (by omega)).mono ?_
        rintro e wE ⟨rfl, hbE⟩
        have BE := Lib.hid (BD.out.trans (hbE.mono BD.out.size))
        clear hbE BD
        go_wp2
        go_ret
        exact ⟨rfl, BE.out⟩
      | false =>
        have HPB := Lib.hid hpb
        clear hpb
        go_wp2_with fail
        refine (refPair_any s _ (by omega)).mono ?_
        rintro e wB ⟨pa, pb, rfl, hpab, hbB⟩
        have BB := Lib.hid (BA.out.trans (hbB.mono BA.out.size))
        rw [HPB.out]
        clear hbB hpab BA
        go_wp2_with fail
        refine (pair_no (by omega) HPB.out).mono ?_
        rintro e wC ⟨rfl, hbC⟩
        have BC := Lib.hid (BB.out.trans (hbC.mono BB.out.size))
        clear hbC BB
        go_wp2_with fail
        refine (errT_two _ (HG.out.below BC.out)).mono ?_
        rintro e wD ⟨rfl, hbD⟩
        have BD := Lib.hid (BC.out.trans (hbD.mono BC.out.size))
        clear hbD BC
        go_wp2_with fail
        refine (escape_any s _ (HM.out.below BD.out) (by omega)).mono ?_
        rintro e wE ⟨rfl, hbE⟩
        have BE := Lib.hid (BD.out.trans (hbE.mono BD.out.size))
        clear hbE BD
        go_wp2
        go_ret
        exact ⟨rfl, BE.out⟩
    · have HU := Lib.hid hu
      clear hu
      go_wp2_with fail
      refine (refUnf_any xs _ _ (HV.out.on B7.out) (by omega) (by omega)).mono ?_
      rintro e w8 ⟨rfl, hw⟩
      subst hw
      have ub : unB xs = false := decide_eq_false HU.out
      rw [unV_no ub, ub]
      clear ub
      go_wp2_with fail
      refine (unfold_no (HV.out.on B7.out) (by omega) (by omega) HU.out).mono ?_
      rintro e w9 ⟨rfl, hb9⟩
      have B9 := Lib.hid (B7.out.trans (hb9.mono B7.out.size))
      clear hb9
      go_wp2_with fail
      refine (errT_two _ (HG.out.below B9.out)).mono ?_
      rintro e wA ⟨rfl, hbA⟩
      have BA := Lib.hid (B9.out.trans (hbA.mono B9.out.size))
      clear hbA B9 B7
      cases hpb : paB s with
      | true =>
        have HPB := Lib.hid hpb
        clear hpb
        go_wp2_with fail
        refine (refPair_any s _ (by omega)).mono ?_
        rintro e wB ⟨pa, pb, rfl, hpab, hbB⟩
        have BB := Lib.hid (BA.out.trans (hbB.mono BA.out.size))
        obtain ⟨rfl, rfl⟩ := hpab HPB.out
        rw [HPB.out]
        clear hbB BA
        go_wp2_with fail
        refine (pair_ok (by omega) HPB.out).mono ?_
        rintro e wC ⟨rfl, hbC⟩
        have BC := Lib.hid (BB.out.trans (hbC.mono BB.out.size))
        clear hbC BB
        go_wp2_with fail
        refine (errT_nil _).mono ?_
        rintro e wD ⟨rfl, hbD⟩
        have BD := Lib.hid (BC.out.trans (hbD.mono BC.out.size))
        clear hbD BC
        go_wp2_with fail
        refine (escape_any s _ (HM.out.below BD.out) (by omega)).mono ?_
        rintro e wE ⟨rfl, hbE⟩
        have BE := Lib.hid (BD.out.trans (hbE.mono BD.out.size))
        clear hbE BD
        go_wp2
        go_ret
        exact ⟨rfl, BE.out⟩
      | false =>
        have HPB := Lib.hid hpb
        clear hpb
        go_wp2_with fail
        refine (refPair_any s _ (by omega)).mono ?_
        rintro e wB ⟨pa, pb, rfl, hpab, hbB⟩
        have BB := Lib.hid (BA.out.trans (hbB.mono BA.out.size))
        rw [HPB.out]
        clear hbB hpab BA
        go_wp2_with fail
        refine (pair_no (by omega) HPB.out).mono ?_
        rintro e wC ⟨rfl, hbC⟩
        have BC := Lib.hid (BB.out.trans (hbC.mono BB.out.size))
        clear hbC BB
        go_wp2_with fail
        refine (errT_two _ (HG.out.below BC.out)).mono ?_
        rintro e wD ⟨rfl, hbD⟩
        have BD := Lib.hid (BC.out.trans (hbD.mono BC.out.size))
        clear hbD BC
        go_wp2_with fail
        refine (escape_any s _ (HM.out.below BD.out) (by omega)).mono ?_
        rintro e wE ⟨rfl, hbE⟩
        have BE := Lib.hid (BD.out.trans (hbE.mono BD.out.size))
        clear hbE BD
        go_wp2
        go_ret
        exact ⟨rfl, BE.out⟩
end Go.Proofs.YtoafdacgekmomafDoor
