/-
  What is proved here: the walk of chimelaw3.MonthHolds: it returns true for every two numbers, and turns nothing that was there; the table of months and the type of errors are asked as premises.
-/
import Derived.Test.YtikpfeaidgeebaaDoorMoLeafP
import Derived.Test.YtikpfeaidgeebaaDoorRef
import Derived.Test.YtikpfeaidgeebaaDoorTold
namespace Go.Proofs.YtikpfeaidgeebaaDoor.Mo
open Go.RowKit Cal Txt

theorem is_nov : isM 2026 11 := by unfold isM; omega
theorem nov_fst : fst 2026 11 = 46326 := by decide +kernel
theorem nov_lst : lst 2026 11 = 46355 := by decide +kernel
theorem nov_len : (lfM 2026 11 none0).length = 6 := by
  unfold lfM
  rw [leaf_len]
  decide +kernel
theorem nov_line : (lfM 2026 11 none0).getD 0 ByteArray.empty = tb [32, 32, 32, 32, 32, 32, 32, 32, 32, 32, 32, 32, 32, 32, 32, 32, 32, 32, 32, 32, 49] := by
  rw [lfM_at _ (by rw [nov_len]; decide), nov_fst, nov_lst]
  have e : mn 46326 + 7 * ((0 : Nat) : Int) = 46320 := by decide
  have n1 : nu 1 = [32, 49] := by
    unfold nu
    rw [if_pos (by decide)]
    unfold Lib.decDigits
    rfl
  rw [e]
  have q : ∀ k : Nat, k < 6 → pl 46326 46355 none0 (46320 + (k : Int)) = [32, 32, 32] := fun k hk => pl_none (Or.inl (by omega))
  have q6 : pl 46326 46355 none0 (46320 + ((6 : Nat) : Int)) = [32] ++ [32, 49] := by
    rw [pl_bare (by omega) (by omega) rfl]
    rw [show ((46320 + ((6 : Nat) : Int)) - 46326 + 1).toNat = 1 by decide, n1]
  show tb ((((((([] ++ pl 46326 46355 none0 (46320 + ((0 : Nat) : Int))) ++ pl 46326 46355 none0 (46320 + ((1 : Nat) : Int))) ++ pl 46326 46355 none0 (46320 + ((2 : Nat) : Int))) ++ pl 46326 46355 none0 (46320 + ((3 : Nat) : Int))) ++ pl 46326 46355 none0 (46320 + ((4 : Nat) : Int))) ++ pl 46326 46355 none0 (46320 + ((5 : Nat) : Int))) ++ pl 46326 46355 none0 (46320 + ((6 : Nat) : Int))) = _
  rw [q 0 (by decide), q 1 (by decide), q 2 (by decide), q 3 (by decide), q 4 (by decide), q 5 (by decide), q6]
  rfl
theorem wd_at {F n : Int} {i k : Nat} (hk : k < 7) (hn : n = mn F + 7 * (i : Int) + (k : Int)) : (n - 1) % 7 + 1 = (k : Int) + 1 := by
  have := mn_wd F
  omega
set_option maxRecDepth 100000 in
set_option maxHeartbeats 2000000 in
theorem mholds_yes (y m : Int) (w : World) (hT : Tab w) (hE : ErrTy w) (h : isM y m) :
    Calls Tryd.prog 4 #[.int .i64 y, .int .i64 m] w fun e w' => e = .returned (.bool true) ∧ Below w.heap.size w w' := by
  have K1 := Lib.hid (mleaf_yes 2026 11 w hT is_nov)
  have K2 : Hid (∀ W, Below w.heap.size w W → _) := Lib.hid (fun W (hW : Below w.heap.size w W) => mleaf_yes y m W (hT.below hW) h)
  have K3 : Hid (∀ W, Below w.heap.size w W → Calls Tryd.prog 16 #[.int .i64 y, .int .i64 m] W fun e w' => e = .returned (.tuple #[.int .i64 (ml y m), .nilIface]) ∧ w' = W) := Lib.hid (fun W hW => days_yes y m W (hT.below hW) h.1 h.2.1 h.2.2.1 h.2.2.2)
  have K4 : Hid (∀ W, Below w.heap.size w W → Calls Tryd.prog 17 #[.agg #[.int .i64 y, .int .i64 m, .int .i64 1]] W fun e w' => e = .returned (.tuple #[.int .i64 (fst y m), .nilIface]) ∧ Below W.heap.size W w') := Lib.hid (fun W hW => of_yes y m 1 W (hT.below hW) (ok_one h))
  have HF : Hid (∀ W, Below w.heap.size w W → Calls Tryd.prog 9 #[.iface 53 (.int .i64 5), .int .i64 5] W fun e w' => e = .returned (.bool true) ∧ Below W.heap.size W w') := Lib.hid (fun W hW => error_errno 5 5 W (hE.below hW))
  have EB := ends_bd h
  have CE := cnt_end (fst y m) (lst y m)
  rw [← leaf_len (fst y m) (lst y m) none0] at CE
  have LB := lfM_len none0 h
  have CL : Hid (∀ i k : Nat, i < (lfM y m none0).length → k < 7 → cel (lfM y m none0) (i : Int) (k : Int) = if mn (fst y m) + 7 * (i : Int) + (k : Int) < fst y m ∨ lst y m < mn (fst y m) + 7 * (i : Int) + (k : Int) then (0, 5) else (mn (fst y m) + 7 * (i : Int) + (k : Int) - fst y m + 1, 0)) :=
    Lib.hid (fun i k hi hk => cel_leaf h hi hk)
  change lst y m < mn (fst y m) + 7 * ((lfM y m none0).length : Int) at CE
  have LE := lst_eq y m
  have MB := mn_bd (fst y m)
  have FL := nov_line
  have NL := nov_len
  clear h hT hE
  go_enter Tryd.func4, Tryd.ntmps4
  go_wp2_with fail
  refine K1.out.mono ?_
  rintro e w1 ⟨⟨v1, rfl, hx⟩, hb⟩
  obtain ⟨a1, c1, rfl, hc⟩ := hx
  have B1 := Lib.hid hb
  rw [NL] at hc ⊢
  rcases hc with hc | ⟨b1, o1, rfl, hc⟩
  · rw [hc] at NL; simp at NL
  have q1 := hc 0 (by decide)
  rw [FL, Nat.add_zero] at q1
  have t1 : ((tb [32, 32, 32, 32, 32, 32, 32, 32, 32, 32, 32, 32, 32, 32, 32, 32, 32, 32, 32, 32, 49]).toList == [32, 32, 32, 32, 32, 32, 32, 32, 32, 32, 32, 32, 32, 32, 32, 32, 32, 32, 32, 32, 49]) = true := eq_yes (tb_data _)
  generalize tb [32, 32, 32, 32, 32, 32, 32, 32, 32, 32, 32, 32, 32, 32, 32, 32, 32, 32, 32, 32, 49] = X at q1 t1
  clear hb hc K1 FL NL
  go_wp2_with fail
  clear q1 t1
  refine (K2.out w1 B1.out).mono ?_
  rintro e w2 ⟨⟨v2, rfl, hx⟩, hb⟩
  have HX := Lib.hid hx
  have B2 := Lib.hid (B1.out.trans (hb.mono B1.out.size))
  obtain ⟨a2, c2, rfl, _⟩ := hx
  have HY : Hid (∀ W, Below w2.heap.size w2 W → Txs W (.slice a2 (lfM y m none0).length c2) (lfM y m none0)) := Lib.hid (fun W hW => HX.out.on hW)
  clear hb K2 B1 HX
  go_wp2_with fail
  refine (K3.out w2 B2.out).mono ?_
  rintro e w3 ⟨rfl, hw⟩
  replace hw := hw.symm
  subst hw
  go_wp2_with fail
  refine (K4.out w2 B2.out).mono ?_
  rintro e w3 ⟨rfl, hb⟩
  have B3 := Lib.hid (B2.out.trans (hb.mono B2.out.size))
  have HY3 : Hid (∀ W, Below w3.heap.size w3 W → Txs W (.slice a2 (lfM y m none0).length c2) (lfM y m none0)) := Lib.hid (fun W hW => HY.out W (hb.trans (hW.mono hb.size)))
  clear hb K3 K4 HY
  generalize lfM y m none0 = l at HY3 CL CE LB ⊢
  rw [LE] at EB CE CL
  clear LE
  generalize fst y m = F at EB CE CL MB ⊢
  generalize ml y m = Z at EB CE CL ⊢
  have Z1 : 28 ≤ Z := by omega
  have Z2 : Z ≤ 31 := by omega
  have F1 : 1 ≤ F := EB.1
  have F2 : F ≤ 109573 := by omega
  have CE2 : Hid (nx F Z (mn F + 7 * (l.length : Int)) = Z + 1) := Lib.hid (nx_b (by omega) CE)
  have N0 : Hid (nx F Z (mn F + 7 * ((0 : Nat) : Int)) = 1) := Lib.hid (by
    rcases (by omega : mn F < F ∨ mn F = F) with g | g
    · exact nx_a (by omega)
    · rw [nx_c (by omega) (by omega)]; omega)
  have EBh := Lib.hid EB
  have MBh := Lib.hid MB
  have LN : l.length ≤ 6 := LB.2
  clear EB MB CE LB
  go_wp2
  go_loopw [12, 13] (fun nv iv wr => ∃ i : Nat, i ≤ l.length ∧ iv = .int .i64 i ∧ nv = .int .i64 (nx F Z (mn F + 7 * (i : Int))) ∧ Below w3.heap.size w3 wr) (fun _ iv _ => l.length - (intOf iv).toNat)
  case atStart => exact ⟨0, Nat.zero_le _, rfl, by rw [N0.out], Below.refl _ _⟩
  case round =>
    obtain ⟨i, hi, rfl, rfl, hB⟩ := hrel
    have HB := Lib.hid hB
    clear hB
    by_cases hlt : i < l.length
    · have E0 : Hid (nx F Z (mn F + 7 * (i : Int)) = nx F Z (mn F + 7 * (i : Int) + ((0 : Nat) : Int))) := Lib.hid (by simp)
      have E7 : Hid (nx F Z (mn F + 7 * (i : Int) + ((7 : Nat) : Int)) = nx F Z (mn F + 7 * ((i + 1 : Nat) : Int))) := Lib.hid (by congr 1; omega)
      generalize nx F Z (mn F + 7 * (i : Int)) = X0 at E0 ⊢
      go_wp2
      go_loopw [12, 14] (fun nv kv wx => ∃ k : Nat, k ≤ 7 ∧ kv = .int .i64 k ∧ nv = .int .i64 (nx F Z (mn F + 7 * (i : Int) + (k : Int))) ∧ Below w3.heap.size w3 wx) (fun _ kv _ => 7 - (intOf kv).toNat)
      case atStart => exact ⟨0, Nat.zero_le _, rfl, by rw [E0.out], HB.out⟩
      case round =>
        obtain ⟨k, hk, rfl, rfl, hBx⟩ := hrel
        obtain ⟨wx, hwx⟩ := wname hBx
        subst hwx
        have HBx := Lib.hid hBx
        clear hBx
        by_cases h7 : k < 7
        · have KC := cell_any l _ (i : Int) (k : Int) wx (HY3.out wx HBx.out)
          rw [CL.out i k hlt h7] at KC
          have WD := Lib.hid (wd_at (F := F) (n := mn F + 7 * (i : Int) + (k : Int)) (i := i) h7 rfl)
          have EK : Hid (nx F Z (mn F + 7 * (i : Int) + (k : Int) + 1) = nx F Z (mn F + 7 * (i : Int) + ((k + 1 : Nat) : Int))) := Lib.hid (congrArg (nx F Z) (by omega))
          generalize mn F + 7 * (i : Int) + (k : Int) = n at KC WD EK ⊢
          by_cases g : n < F ∨ F + Z - 1 < n
          · rw [if_pos g] at KC
            have KD : Hid (Calls Tryd.prog 15 #[.slice a2 l.length c2, .int .i64 i, .int .i64 k] wx fun e w' => e = .returned (.tuple #[.int .i64 0, .iface 53 (.int .i64 5)]) ∧ Below wx.heap.size wx w') := Lib.hid KC
            clear KC
            have XX : Hid (∃ x, nx F Z n = x ∧ nx F Z (n + 1) = x ∧ (¬ 1 < x ∨ (1 < x ∧ ¬ x ≤ Z))) := Lib.hid (by
              rcases g with g | g
              · refine ⟨1, nx_a g, ?_, Or.inl (by omega)⟩
                rcases (by omega : n + 1 < F ∨ n + 1 = F) with q | q
                · exact nx_a q
                · rw [nx_c (by omega) (by omega)]; omega
              · exact ⟨Z + 1, nx_b (by omega) g, nx_b (by omega) (by omega), Or.inr ⟨by omega, by omega⟩⟩)
            obtain ⟨x, X1, X2, T3⟩ := XX.out
            have X2h := Lib.hid X2
            rw [X1]
            clear X1 X2 XX g WD
            go_wp2_with fail
            refine KD.out.mono ?_
            rintro e w4 ⟨rfl, hb⟩
            have B4 := Lib.hid (HBx.out.trans (hb.mono HBx.out.size))
            clear hb KD HBx
            go_wp2_with fail
            refine (HF.out w4 (B3.out.trans (B4.out.mono B3.out.size))).mono ?_
            rintro e w5 ⟨rfl, hb⟩
            have B5 := Lib.hid (B4.out.trans (hb.mono B4.out.size))
            clear hb B4
            rcases T3 with t1 | ⟨t1, t2⟩
            all_goals
              go_wp2
              go_roundw
              case rel => exact ⟨k + 1, by omega, by go_num, by rw [← EK.out, X2h.out], B5.out⟩
              case measure => simp [intOf]; omega
          · rw [if_neg g] at KC
            have KD : Hid (Calls Tryd.prog 15 #[.slice a2 l.length c2, .int .i64 i, .int .i64 k] wx fun e w' => e = .returned (.tuple #[.int .i64 (n - F + 1), .nilIface]) ∧ Below wx.heap.size wx w') := Lib.hid KC
            clear KC
            have g1 : F ≤ n := by omega
            have g2 : n ≤ F + Z - 1 := by omega
            have X1 := nx_c g1 g2
            have X2 : Hid (nx F Z (n + 1) = n - F + 1 + 1) := Lib.hid (by
              rcases (by omega : n + 1 ≤ F + Z - 1 ∨ n + 1 = F + Z) with q | q
              · rw [nx_c (by omega) q]; omega
              · rw [nx_b (by omega) (by omega)]; omega)
            have n2 : n ≤ 109573 := by have := EBh.out; omega
            obtain ⟨d, hd⟩ : ∃ d, d = n - F + 1 := ⟨_, rfl⟩
            rw [← hd] at KD X1 X2
            have d1 : 1 ≤ d := by omega
            have d2 : d ≤ 31 := by omega
            have KW : Hid (∀ W, Calls Tryd.prog 18 #[.int .i64 (F + d - 1)] W fun e w' => e = .returned (.tuple #[.int .i64 ((k : Int) + 1), .nilIface]) ∧ w' = W) := Lib.hid (fun W => by
              have := weekday_yes n W (by omega) n2
              rw [WD.out] at this
              rwa [show F + d - 1 = n by omega])
            rw [X1]
            clear X1 hd g WD g1 g2 n2
            go_wp2_with fail
            refine KD.out.mono ?_
            rintro e w4 ⟨rfl, hb⟩
            have B4 := Lib.hid (HBx.out.trans (hb.mono HBx.out.size))
            clear hb KD HBx
            go_wp2_with fail
            refine (KW.out _).mono ?_
            rintro e w5 ⟨rfl, hw⟩
            subst hw
            go_wp2
            go_roundw
            case rel => exact ⟨k + 1, by omega, by go_num, by rw [← EK.out, X2.out], B4.out⟩
            case measure => simp [intOf]; omega
        · obtain rfl : k = 7 := by omega
          rw [E7.out]
          go_wp2
          go_roundw
          case rel => exact ⟨i + 1, by omega, by go_num, rfl, HBx.out⟩
          case measure => simp [intOf]; omega
    · obtain rfl : i = l.length := by omega
      rw [CE2.out]
      go_wp2
      go_ret
      exact ⟨rfl, B3.out.trans (HB.out.mono B3.out.size)⟩
set_option maxRecDepth 100000 in
set_option maxHeartbeats 2000000 in
theorem mholds_no (y m : Int) (w : World) (hT : Tab w) (h : ¬ isM y m) :
    Calls Tryd.prog 4 #[.int .i64 y, .int .i64 m] w fun e w' => e = .returned (.bool true) ∧ Below w.heap.size w w' := by
  have K1 := Lib.hid (mleaf_yes 2026 11 w hT is_nov)
  have K2 : Hid (∀ W, _) := Lib.hid (fun W => mleaf_no y m W h)
  have K3 : Hid (∀ W, _) := Lib.hid (fun W => refDays_no y m W h)
  have FL := nov_line
  have NL := nov_len
  clear h hT
  go_enter Tryd.func4, Tryd.ntmps4
  go_wp2_with fail
  refine K1.out.mono ?_
  rintro e w1 ⟨⟨v1, rfl, hx⟩, hb⟩
  obtain ⟨a1, c1, rfl, hc⟩ := hx
  have B1 := Lib.hid hb
  rw [NL] at hc ⊢
  rcases hc with hc | ⟨b1, o1, rfl, hc⟩
  · rw [hc] at NL; simp at NL
  have q1 := hc 0 (by decide)
  rw [FL, Nat.add_zero] at q1
  have t1 : ((tb [32, 32, 32, 32, 32, 32, 32, 32, 32, 32, 32, 32, 32, 32, 32, 32, 32, 32, 32, 32, 49]).toList == [32, 32, 32, 32, 32, 32, 32, 32, 32, 32, 32, 32, 32, 32, 32, 32, 32, 32, 32, 32, 49]) = true := eq_yes (tb_data _)
  generalize tb [32, 32, 32, 32, 32, 32, 32, 32, 32, 32, 32, 32, 32, 32, 32, 32, 32, 32, 32, 32, 49] = X at q1 t1
  clear hb hc K1 FL NL
  go_wp2_with fail
  clear q1 t1
  refine (K2.out w1).mono ?_
  rintro e w2 ⟨rfl, hb⟩
  have B2 := Lib.hid (B1.out.trans (hb.mono B1.out.size))
  clear hb K2 B1
  go_wp2_with fail
  refine (K3.out w2).mono ?_
  rintro e w3 ⟨rfl, hw⟩
  subst hw
  go_wp2
  go_ret
  exact ⟨rfl, B2.out⟩
theorem mholds (y m : Int) (w : World) (hT : Tab w) (hE : ErrTy w) :
    Calls Tryd.prog 4 #[.int .i64 y, .int .i64 m] w fun e w' => e = .returned (.bool true) ∧ Below w.heap.size w w' := by
  by_cases h : isM y m
  · exact mholds_yes y m w hT hE h
  · exact mholds_no y m w hT h
end Go.Proofs.YtikpfeaidgeebaaDoor.Mo
