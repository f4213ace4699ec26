/-
  What is proved here: the walk of chimelaw1.ClockTells, where the date and minute are a time: it returns true, and turns nothing that was there; the tables are asked as premises.
-/
import Derived.Test.YtdiijpjfkgnjkaaDoorCTellsBase
namespace Go.Proofs.YtdiijpjfkgnjkaaDoor
open Go.RowKit Cal Txt

set_option maxRecDepth 100000 in
set_option maxHeartbeats 80000000 in
theorem ctells_yes (y m d i t n : Int) (s u : ByteArray) (w : World) (K : KeepT w w) (hu : u.size ≤ maxLen) (ho : okD y m d) (i0 : 0 ≤ i) (i1 : i ≤ 1439) (i2 : 0 < num y m d - 1 + i) :
    Calls Tryd.prog 6 #[.agg #[.int .i64 y, .int .i64 m, .int .i64 d], .int .i64 i, .int .i64 t, .string s, .int .i64 n, .string u] w fun e w' => e = .returned (.bool true) ∧ Below w.heap.size w w' := by
  have HU := Lib.hid hu
  clear hu
  obtain ⟨p, f, hPr, hRd⟩ := parse_both s
  have HPr := Lib.hid hPr
  have HRd := Lib.hid hRd
  clear hPr hRd
  have OK := Lib.hid ho
  have nb := num_bd ho
  clear ho
  have np : 0 < num y m d := by omega
  go_enter Tryd.func6, Tryd.ntmps6
  go_wp2_with fail
  have K0 := K.alloc (.cells #[.int .i64 y, .int .i64 m, .int .i64 d] 23)
  have D0 := Dat.new w y m d 23
  clear K
  refine (refOf_yes y m d _ OK.out).mono ?_
  rintro e w1 ⟨rfl, hb⟩
  have K1 := K0.on hb
  have D1 := D0.on hb
  clear hb K0 D0
  obtain ⟨D_0, D_1, D_2⟩ := id D1
  have D_l := D1.lt
  go_wp2_with fail
  clear D_0 D_1 D_2 D_l
  refine (time_yes y m d i _ K1.1.1 OK.out i0 i1 (by omega)).mono ?_
  rintro e w2 ⟨rfl, hb⟩
  have K2 := K1.on hb
  clear hb K1 D1
  go_wp2_with fail
  refine (errT_nil _).mono ?_
  rintro e w3 ⟨rfl, hb⟩
  have K := K2.on hb
  clear hb K2
  go_wp2_with fail
  by_cases ht : 1 ≤ t ∧ t ≤ 157785119
  all_goals
    have HT := Lib.hid ht
    clear ht
    first
      | (have h1 := HT.out.1
         have h2 := HT.out.2
         have hi := ist_yes h1 h2
         refine (refTime_any t _).mono ?_
         rintro e wt ⟨rfl, hw⟩
         subst hw
         go_wp2_with fail
         refine (show_any t _ h1 h2).mono ?_
         rintro e wa ⟨rfl, hb⟩
         have K' := K.on hb
         clear hb K
         have K := K'
         clear K'
         go_wp2_with fail
         refine (split_yes t _ h1 h2).mono ?_
         rintro e wb ⟨rfl, hw⟩
         subst hw
         clear hi
         go_wp2_with fail
         refine (errT_nil _).mono ?_
         rintro e wc ⟨rfl, hb⟩
         have K' := K.on hb
         clear hb K
         have K := K'
         clear K'
         go_wp2_with fail
         refine (print_yes t _ K.1.1 K.1.2.1 h1 h2).mono ?_
         rintro e wd ⟨rfl, hb⟩
         have K' := K.on hb
         clear hb K
         have K := K'
         clear K'
         go_wp2_with fail
         refine (errT_nil _).mono ?_
         rintro e we ⟨rfl, hb⟩
         have K' := K.on hb
         clear hb K
         have K := K'
         clear K'
         go_wp2_with fail)
      | (have hi := ist_no HT.out
         refine (refTime_any t _).mono ?_
         rintro e wt ⟨rfl, hw⟩
         subst hw
         go_wp2_with fail
         refine (split_no t _ HT.out).mono ?_
         rintro e wb ⟨rfl, hw⟩
         subst hw
         clear hi
         go_wp2_with fail
         refine (errT_one _ K.2).mono ?_
         rintro e wc ⟨rfl, hb⟩
         have K' := K.on hb
         clear hb K
         have K := K'
         clear K'
         go_wp2_with fail
         refine (print_no t _ HT.out).mono ?_
         rintro e wd ⟨rfl, hb⟩
         have K' := K.on hb
         clear hb K
         have K := K'
         clear K'
         go_wp2_with fail
         refine (errT_one _ K.2).mono ?_
         rintro e we ⟨rfl, hb⟩
         have K' := K.on hb
         clear hb K
         have K := K'
         clear K'
         go_wp2_with fail)
  all_goals
    refine (HRd.out _).mono ?_
    rintro e wf ⟨rfl, hb⟩
    have K' := K.on hb
    clear hb K
    have K := K'
    clear K'
    go_wp2_with fail
    refine (HPr.out _ K.1.1).mono ?_
    rintro e wg ⟨rfl, hb⟩
    have K' := K.on hb
    clear hb K
    have K := K'
    clear K'
    go_wp2_with fail
    refine (errT_fault _ _ K.2).mono ?_
    rintro e wh ⟨rfl, hb⟩
    have K' := K.on hb
    clear hb K
    have K := K'
    clear K'
  all_goals
    by_cases hE : 1 ≤ t ∧ t ≤ 157785119 ∧ 1 ≤ t + n ∧ t + n ≤ 157785119
    all_goals
      rcases (by omega : n < -200000000 ∨ (-200000000 ≤ n ∧ 200000000 < n) ∨ (-200000000 ≤ n ∧ n ≤ 200000000)) with c | ⟨c, c'⟩ | ⟨c, c'⟩
  all_goals
    first
      | (exfalso; have := HT.out; omega)
      | (have g1 := hE.1
         have g2 := hE.2.1
         have g3 := hE.2.2.1
         have g4 := hE.2.2.2
         have hi := ist_yes g3 g4
         clear hE
         go_wp2_with fail
         refine (refTime_any _ _).mono ?_
         rintro e wi ⟨rfl, hw⟩
         subst hw
         go_wp2_with fail
         refine (add_yes t n _ g1 g2 g3 g4).mono ?_
         rintro e wj ⟨rfl, hw⟩
         subst hw
         clear hi
         go_wp2_with fail
         refine (errT_nil _).mono ?_
         rintro e wk ⟨rfl, hb⟩
         have K' := K.on hb
         clear hb K
         have K := K'
         clear K'
         go_wp2_with fail)
      | (have h1 := HT.out.1
         have h2 := HT.out.2
         have hq : ¬ (1 ≤ t + n ∧ t + n ≤ 157785119) := by omega
         have hi := ist_no hq
         have HE := Lib.hid hE
         clear hE hq
         go_wp2_with fail
         refine (refTime_any _ _).mono ?_
         rintro e wi ⟨rfl, hw⟩
         subst hw
         go_wp2_with fail
         refine (add_no t n _ HE.out).mono ?_
         rintro e wj ⟨rfl, hw⟩
         subst hw
         clear hi HE
         go_wp2_with fail
         refine (errT_one _ K.2).mono ?_
         rintro e wk ⟨rfl, hb⟩
         have K' := K.on hb
         clear hb K
         have K := K'
         clear K'
         go_wp2_with fail)
      | (have HE := Lib.hid hE
         clear hE
         go_wp2_with fail
         refine (add_no t n _ HE.out).mono ?_
         rintro e wj ⟨rfl, hw⟩
         subst hw
         clear HE
         go_wp2_with fail
         refine (errT_one _ K.2).mono ?_
         rintro e wk ⟨rfl, hb⟩
         have K' := K.on hb
         clear hb K
         have K := K'
         clear K'
         go_wp2_with fail)
  all_goals
    clear HT
    rcases (by omega : n < -1000000 ∨ (-1000000 ≤ n ∧ 1000000 < n) ∨ (-1000000 ≤ n ∧ n ≤ 1000000)) with c2 | ⟨c2, c3⟩ | ⟨c2, c3⟩
  all_goals
    first
      | (exfalso; omega)
      | (go_wp2_with fail
         refine (refSpan_any n _ c2 c3).mono ?_
         rintro e wl ⟨rfl, hw⟩
         subst hw
         go_wp2_with fail
         refine (pspan_yes n _ K.1.2.1 K.1.2.2.1 c2 c3).mono ?_
         rintro e wm ⟨rfl, hb⟩
         have K' := K.on hb
         clear hb K
         have K := K'
         clear K'
         go_wp2_with fail
         refine (errT_nil _).mono ?_
         rintro e wn ⟨rfl, hb⟩
         have K' := K.on hb
         clear hb K
         have K := K'
         clear K'
         go_wp2_with fail
         refine (readSpan_any u _ HU.out).mono ?_
         rintro e wo ⟨rfl, hw⟩
         subst hw
         go_wp2_with fail
         refine (span_any u _ HU.out K.1.2.2.1).mono ?_
         rintro e wp ⟨rfl, hb⟩
         have K' := K.on hb
         clear hb K
         have K := K'
         clear K'
         go_wp2_with fail
         refine (errT_fault _ _ K.2).mono ?_
         rintro e wq ⟨rfl, hb⟩
         have K' := K.on hb
         clear hb K
         have K := K'
         clear K'
         go_wp2_with fail
         go_ret
         exact ⟨rfl, K.1.2.2.2⟩)
      | (go_wp2_with fail
         refine (pspan_no n _ (by omega)).mono ?_
         rintro e wm ⟨rfl, hb⟩
         have K' := K.on hb
         clear hb K
         have K := K'
         clear K'
         go_wp2_with fail
         refine (errT_one _ K.2).mono ?_
         rintro e wn ⟨rfl, hb⟩
         have K' := K.on hb
         clear hb K
         have K := K'
         clear K'
         go_wp2_with fail
         refine (readSpan_any u _ HU.out).mono ?_
         rintro e wo ⟨rfl, hw⟩
         subst hw
         go_wp2_with fail
         refine (span_any u _ HU.out K.1.2.2.1).mono ?_
         rintro e wp ⟨rfl, hb⟩
         have K' := K.on hb
         clear hb K
         have K := K'
         clear K'
         go_wp2_with fail
         refine (errT_fault _ _ K.2).mono ?_
         rintro e wq ⟨rfl, hb⟩
         have K' := K.on hb
         clear hb K
         have K := K'
         clear K'
         go_wp2_with fail
         go_ret
         exact ⟨rfl, K.1.2.2.2⟩)
end Go.Proofs.YtdiijpjfkgnjkaaDoor
