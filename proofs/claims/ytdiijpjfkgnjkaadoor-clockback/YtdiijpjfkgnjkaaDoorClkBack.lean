/-
  What is proved here: the walk of chimelaw1.ClockBack: it returns true for every input, and turns nothing that was there; the tables are asked as premises.
-/
import Derived.Test.YtdiijpjfkgnjkaaDoorClkRound
namespace Go.Proofs.YtdiijpjfkgnjkaaDoor
open Go.RowKit Cal Txt

set_option maxRecDepth 100000 in
set_option maxHeartbeats 40000000 in
theorem cback (t n : Int) (s u : ByteArray) (w : World) (K : KeepC w w) (hu : u.size ≤ maxLen) :
    Calls Tryd.prog 7 #[.int .i64 t, .string s, .int .i64 n, .string u] w fun e w' => e = .returned (.bool true) ∧ Below w.heap.size w w' := by
  have HU := Lib.hid hu
  clear hu
  go_enter Tryd.func7, Tryd.ntmps7
  go_wp2_with fail
  refine (parse_fact _ K.1).mono ?_
  rintro e w1 ⟨rfl, hb⟩
  have K1 := K.on hb
  clear hb K
  go_wp2_with fail
  refine (span_fact _ K1.2.2.1).mono ?_
  rintro e w2 ⟨rfl, hb⟩
  have K2 := K1.on hb
  clear hb K1
  go_wp2_with fail
  by_cases ht : 1 ≤ t ∧ t ≤ 157785119
  case' pos =>
    obtain ⟨h1, h2⟩ := ht
    refine (print_yes t _ K2.1 K2.2.1 h1 h2).mono ?_
    rintro e w3 ⟨rfl, hb⟩
    have K3 := K2.on hb
    clear hb K2
    go_wp2_with fail
    refine (parse_txt t _ K3.1 h1 h2).mono ?_
    rintro e w4 ⟨rfl, hb⟩
    have K4 := K3.on hb
    clear hb K3
    go_wp2_with fail
    refine (split_yes t _ h1 h2).mono ?_
    rintro e w' ⟨rfl, hw⟩
    subst hw
    go_wp2_with fail
    refine (date_yes (t / 1440 + 1) _ K4.1 (by omega) (by omega)).mono ?_
    rintro e w5 ⟨rfl, hb⟩
    have K5 := K4.on hb
    clear hb K4
    go_wp2_with fail
    have K6 := K5.alloc (.cells #[.int .i64 (yr (t / 1440 + 1)), .int .i64 (mo (t / 1440 + 1)), .int .i64 (da (t / 1440 + 1))] 23)
    clear K5
    refine (time_split t _ K6.1 h1 h2).mono ?_
    rintro e w7 ⟨rfl, hb⟩
    have K := K6.on hb
    clear hb K6
    go_wp2_with fail
  case' neg =>
    refine (print_no t _ ht).mono ?_
    rintro e w7 ⟨rfl, hb⟩
    have K := K2.on hb
    clear hb K2 ht
    go_wp2_with fail
  all_goals
    by_cases hB : frm s.data.toList = true ∧ good s.data.toList
    all_goals
      have HB := Lib.hid hB
      clear hB
      first
        | (refine (parse_yes s _ K.1 HB.out.1 HB.out.2).mono ?_
           rintro e w8 ⟨rfl, hb⟩
           have K8 := K.on hb
           clear hb K
           go_wp2_with fail
           refine (print_raw s _ K8.1 K8.2.1 HB.out.1 HB.out.2).mono ?_
           rintro e w9 ⟨rfl, hb⟩
           have K := K8.on hb
           clear hb K8 HB
           go_wp2_with fail)
        | (refine (parse_err s _ K.1 HB.out).mono ?_
           rintro e w9 ⟨k, rfl, hb⟩
           have K' := K.on hb
           clear hb K HB
           have K := K'
           clear K'
           go_wp2_with fail)
  all_goals
    by_cases hC : -1000000 ≤ n ∧ n ≤ 1000000
    all_goals
      have HC := Lib.hid hC
      clear hC
      first
        | (refine (pspan_yes n _ K.2.1 K.2.2.1 HC.out.1 HC.out.2).mono ?_
           rintro e w10 ⟨rfl, hb⟩
           have K10 := K.on hb
           clear hb K
           go_wp2_with fail
           refine (span_spt n _ K10.2.2.1 HC.out.1 HC.out.2 (spt_len n HC.out.1 HC.out.2)).mono ?_
           rintro e w11 ⟨rfl, hb⟩
           have K := K10.on hb
           clear hb K10 HC
           go_wp2_with fail)
        | (refine (pspan_no n _ HC.out).mono ?_
           rintro e w11 ⟨rfl, hb⟩
           have K' := K.on hb
           clear hb K HC
           have K := K'
           clear K'
           go_wp2_with fail)
  all_goals
    by_cases hD : (spn u.data.toList).2 = 0
    all_goals
      have HD := Lib.hid hD
      clear hD
      first
        | (refine (span_nil u _ HU.out K.2.2.1 HD.out).mono ?_
           rintro e w12 ⟨rfl, hb⟩
           have K12 := K.on hb
           clear hb K
           go_wp2_with fail
           refine (pspan_spn u _ K12.2.1 K12.2.2.1 HD.out).mono ?_
           rintro e w13 ⟨rfl, hb⟩
           have K := K12.on hb
           clear hb K12 HD
           go_wp2_with fail)
        | (refine (span_err u _ HU.out K.2.2.1 HD.out).mono ?_
           rintro e w13 ⟨rfl, hb⟩
           have K' := K.on hb
           clear hb K HD
           have K := K'
           clear K'
           go_wp2_with fail)
  all_goals
    by_cases hE : 1 ≤ t ∧ t ≤ 157785119 ∧ 1 ≤ t + n ∧ t + n ≤ 157785119
    all_goals
      have HE := Lib.hid hE
      clear hE
      first
        | (have g1 := HE.out.1
           have g2 := HE.out.2.1
           have g3 := HE.out.2.2.1
           have g4 := HE.out.2.2.2
           clear HE
           refine (add_yes t n _ g1 g2 g3 g4).mono ?_
           rintro e w14 ⟨rfl, hw⟩
           subst hw
           go_wp2_with fail
           refine (add_yes (t + n) (-n) _ g3 g4 (by omega) (by omega)).mono ?_
           rintro e w15 ⟨rfl, hw⟩
           subst hw
           have eq : (t + n + -n == t) = true := by rw [beq_iff_eq]; omega
           go_wp2_with fail
           go_ret
           exact ⟨rfl, K.2.2.2⟩)
        | (refine (add_no t n _ HE.out).mono ?_
           rintro e w15 ⟨rfl, hw⟩
           subst hw
           go_wp2_with fail
           go_ret
           exact ⟨rfl, K.2.2.2⟩)
end Go.Proofs.YtdiijpjfkgnjkaaDoor
