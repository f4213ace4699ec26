/-
  What is proved here: what the document's ReadSpan answers, for every text (a contract over the translation).
-/
import Derived.Test.YtdiijpjfkgnjkaaDoorRefSpan
namespace Go.Proofs.YtdiijpjfkgnjkaaDoor
open Go.RowKit Cal Txt
set_option linter.unusedVariables false

theorem lead_in' (s : ByteArray) (i j : Nat) (h : j < dcnt (s.data.toList.drop i)) : ∃ h' : i + j < s.size, isDg s[i + j] = true := by
  have hl := dcnt_le (s.data.toList.drop i)
  have h2 : j < (s.data.toList.drop i).length := by omega
  have h' : i + j < s.size := by rw [List.length_drop, size_len] at h2; omega
  refine ⟨h', ?_⟩
  refine dcnt_take (s.data.toList.drop i) _ ?_
  have e : ((s.data.toList.drop i).take (dcnt (s.data.toList.drop i)))[j]'(by rw [List.length_take]; omega) = s[i + j] := by rw [List.getElem_take, List.getElem_drop]; rfl
  rw [← e]; exact List.getElem_mem _
theorem lead_out' (s : ByteArray) (i : Nat) (h : i + dcnt (s.data.toList.drop i) < s.size) : isDg s[i + dcnt (s.data.toList.drop i)] = false := by
  have := dcnt_none (s.data.toList.drop i) (by rw [List.length_drop, size_len]; omega)
  rwa [List.getElem_drop] at this
theorem at_drop (s : ByteArray) (i k : Nat) (h : i + k < s.size) : (s.data.toList.drop i)[k]? = some s[i + k] := by
  rw [List.getElem?_drop, at_eq s (i + k) h]
theorem head_drop (s : ByteArray) (i : Nat) (h : i < s.size) : (s.data.toList.drop i).head? = some s[i] := by
  rw [List.head?_eq_getElem?, List.getElem?_drop, Nat.add_zero, at_eq s i h]
theorem take_drop_snoc (s : ByteArray) (i j : Nat) (h : i + j < s.size) : (s.data.toList.drop i).take (j + 1) = (s.data.toList.drop i).take j ++ [s[i + j]] := by
  have h2 : j < (s.data.toList.drop i).length := by rw [List.length_drop, size_len]; omega
  rw [List.take_succ_eq_append_getElem h2, List.getElem_drop]; rfl
/-! One step of the reading. -/
theorem rs_bad (f p n : Nat) {l : List UInt8} (h : l ≠ []) (hb : bad l = true) : rs f p n l = none := by
  cases f with
  | zero => rfl
  | succ f => rw [rs, if_neg h, if_pos hb]
theorem rs_none (f p n : Nat) {l : List UInt8} (h : l ≠ []) (h1 : ¬ (l[dcnt l]? = some 100 ∧ p = 0)) (h2 : ¬ (l[dcnt l]? = some 104 ∧ p ≤ 1 ∧ lv l < 24)) (h3 : ¬ (l[dcnt l]? = some 109 ∧ p ≤ 2 ∧ lv l < 60)) : rs f p n l = none := by
  cases f with
  | zero => rfl
  | succ f =>
    rw [rs, if_neg h]
    by_cases hb : bad l = true
    · rw [if_pos hb]
    · rw [if_neg hb, if_neg h1, if_neg h2, if_neg h3]
theorem rs_d (f n : Nat) {l : List UInt8} (h : l ≠ []) (hb : bad l = false) (h1 : l[dcnt l]? = some 100) : rs (f + 1) 0 n l = rs f 1 (n + lv l * 1440) (l.drop (dcnt l + 1)) := by
  rw [rs, if_neg h, if_neg (by rw [hb]; decide), if_pos ⟨h1, rfl⟩]
theorem rs_h (f p n : Nat) {l : List UInt8} (h : l ≠ []) (hb : bad l = false) (h1 : l[dcnt l]? = some 104) (h2 : p ≤ 1) (h3 : lv l < 24) : rs (f + 1) p n l = rs f 2 (n + lv l * 60) (l.drop (dcnt l + 1)) := by
  rw [rs, if_neg h, if_neg (by rw [hb]; decide), if_neg (by rw [h1]; simp), if_pos ⟨h1, h2, h3⟩]
theorem rs_m (f p n : Nat) {l : List UInt8} (h : l ≠ []) (hb : bad l = false) (h1 : l[dcnt l]? = some 109) (h2 : p ≤ 2) (h3 : lv l < 60) : rs (f + 1) p n l = rs f 3 (n + lv l) (l.drop (dcnt l + 1)) := by
  rw [rs, if_neg h, if_neg (by rw [hb]; decide), if_neg (by rw [h1]; simp), if_neg (by rw [h1]; simp), if_pos ⟨h1, h2, h3⟩]
theorem rs_end (f p n : Nat) : rs (f + 1) p n [] = if p = 0 then none else some n := by rw [rs, if_pos rfl]
/-! What the end tells. -/
theorem spn_none {l : List UInt8} (h : ¬ l = [48, 109]) (hn : spOf (unsg l) = none) : spn l = (0, 2) := by unfold spn; rw [if_neg h, hn]
theorem spn_big {l : List UInt8} {n : Nat} (h : ¬ l = [48, 109]) (hn : spOf (unsg l) = some n) (hb : 1000000 < n) : spn l = (0, 1) := by unfold spn; rw [if_neg h, hn]; exact if_pos hb
theorem spn_neg {l : List UInt8} {n : Nat} (h : ¬ l = [48, 109]) (hn : spOf (unsg l) = some n) (hb : ¬ 1000000 < n) (hg : l.head? = some 45) : spn l = (-(n : Int), 0) := by
  unfold spn; rw [if_neg h, hn]; exact (if_neg hb).trans (by rw [if_pos hg])
theorem spn_pos {l : List UInt8} {n : Nat} (h : ¬ l = [48, 109]) (hn : spOf (unsg l) = some n) (hb : ¬ 1000000 < n) (hg : ¬ l.head? = some 45) : spn l = ((n : Int), 0) := by
  unfold spn; rw [if_neg h, hn]; exact (if_neg hb).trans (by rw [if_neg hg])
set_option maxRecDepth 100000 in
theorem readSpan_zero (s : ByteArray) (w : World) (h : s.data.toList = [48, 109]) :
    Calls Tryd.prog 30 #[.string s] w fun e w' => e = .returned (.tuple #[.int .i64 (spn s.data.toList).1, .int .i64 (spn s.data.toList).2]) ∧ w' = w := by
  obtain rfl : s = ⟨#[48, 109]⟩ := by apply ByteArray.ext; apply Array.ext'; exact h
  clear h
  go_enter Tryd.func30, Tryd.ntmps30
  go_wp2
  go_ret2
  exact ⟨rfl, rfl⟩
set_option maxRecDepth 100000 in
theorem readSpan_nil (s : ByteArray) (w : World) (h : s.data.toList = []) :
    Calls Tryd.prog 30 #[.string s] w fun e w' => e = .returned (.tuple #[.int .i64 (spn s.data.toList).1, .int .i64 (spn s.data.toList).2]) ∧ w' = w := by
  obtain rfl : s = ⟨#[]⟩ := by apply ByteArray.ext; apply Array.ext'; exact h
  have Q : Hid (spn (⟨#[]⟩ : ByteArray).data.toList = (0, 2)) := (rfl : spn [] = (0, 2))
  clear h
  go_enter Tryd.func30, Tryd.ntmps30
  go_wp2
  go_loop [4, 7] (fun a c => a = .int .i64 0 ∧ c = .int .i64 0) (fun _ _ => 0)
  case atStart => exact ⟨rfl, rfl⟩
  case round =>
    obtain ⟨rfl, rfl⟩ := hrel
    go_wp2
    go_ret2
    exact ⟨ret_two (by rw [Q.out]) (by rw [Q.out]), rfl⟩
set_option maxRecDepth 100000 in
set_option maxHeartbeats 40000000 in
theorem readSpan_walk (s : ByteArray) (w : World) (i0 : Nat) (hs : s.size ≤ maxLen) (h : ¬ s.data.toList = [48, 109]) (hz0 : 0 < s.size) (hi0 : i0 ≤ s.size) (hu : s.data.toList.drop i0 = unsg s.data.toList)
    (hg : (i0 = 1 ∧ s.data.toList.head? = some 45) ∨ (i0 = 0 ∧ ¬ s.data.toList.head? = some 45)) :
    Calls Tryd.prog 30 #[.string s] w fun e w' => e = .returned (.tuple #[.int .i64 (spn s.data.toList).1, .int .i64 (spn s.data.toList).2]) ∧ w' = w := by
  unfold maxLen at hs
  have q1 : (s.toList == [48, 109]) = false := by rw [ByteArray.toList_eq]; exact beq_eq_false_iff_ne.2 h
  have R0 := Lib.hid (fun hn => spn_none h hn)
  have RB := Lib.hid (fun (n : Nat) hn hb => spn_big (n := n) h hn hb)
  have RN := Lib.hid (fun (n : Nat) hn hb hg => spn_neg (n := n) h hn hb hg)
  have RP := Lib.hid (fun (n : Nat) hn hb hg => spn_pos (n := n) h hn hb hg)
  have START : Hid (rs 4 0 0 (s.data.toList.drop i0) = spOf (unsg s.data.toList)) := by rw [hu]; exact rs_all _
  have hcs : (i0 = 1 ∧ s.data.toList.head? = some 45 ∧ ((s[0].toNat : Int) == 45) = true) ∨ (i0 = 0 ∧ ¬ s.data.toList.head? = some 45 ∧ ((s[0].toNat : Int) == 45) = false) := by
    rcases hg with ⟨a, b⟩ | ⟨a, b⟩
    · refine Or.inl ⟨a, b, ?_⟩
      rw [head_eq s hz0] at b
      rw [beq_iff_eq, Option.some.inj b]; rfl
    · refine Or.inr ⟨a, b, ?_⟩
      rw [head_eq s hz0] at b
      rw [beq_eq_false_iff_ne]; intro q; exact b (by rw [(byte_eq (c := 45) rfl).2 q])
  clear h hg hu
  generalize spn s.data.toList = RES at *
  generalize spOf (unsg s.data.toList) = TOT at *
  rcases hcs with ⟨rfl, hh, g0⟩ | ⟨rfl, hh, g0⟩
  all_goals
    have HH := Lib.hid hh
    clear hh
    go_enter Tryd.func30, Tryd.ntmps30
    go_wp2
    go_loop [4, 6, 7] (fun a b c => ∃ i n p f : Nat, i ≤ s.size ∧ a = .int .i64 i ∧ b = .int .i64 n ∧ c = .int .i64 p ∧ p ≤ 3 ∧ (p = 0 → n = 0) ∧ n ≤ 1440000000000 + 2000 * p ∧ 4 ≤ f + p ∧ rs f p n (s.data.toList.drop i) = TOT) (fun a _ _ => s.size - (intOf a).toNat)
    case atStart => exact ⟨_, 0, 0, 4, hi0, rfl, rfl, rfl, by omega, fun _ => rfl, by omega, by omega, START.out⟩
    case round =>
      clear START
      obtain ⟨i, n, p, f, hi, rfl, rfl, rfl, hp, hn0, hnb, hf, hrs⟩ := hrel
      have HRS := Lib.hid hrs
      have HN0 := Lib.hid hn0
      clear hrs hn0
      by_cases hlt : i < s.size
      case neg =>
        have hie : i = s.size := by omega
        subst hie
        have e1 : s.data.toList.drop s.size = [] := List.drop_eq_nil_of_le (by rw [size_len]; exact Nat.le_refl _)
        obtain ⟨f, rfl⟩ : ∃ f', f = f' + 1 := ⟨f - 1, by omega⟩
        have E := HRS.out
        rw [e1, rs_end] at E
        clear HRS e1 hlt
        by_cases p0 : p = 0
        · rw [if_pos p0] at E
          have Q := Lib.hid (R0.out E.symm)
          have b0 : ((p : Int) == 0) = true := by rw [beq_iff_eq]; omega
          clear E p0
          go_wp2
          go_ret2
          exact ⟨ret_two (by rw [Q.out]) (by rw [Q.out]), rfl⟩
        · rw [if_neg p0] at E
          have b0 : ((p : Int) == 0) = false := by rw [beq_eq_false_iff_ne]; omega
          by_cases nb : 1000000 < n
          · have Q := Lib.hid (RB.out n E.symm nb)
            have nb' : (1000000 : Int) < n := by omega
            clear E p0
            go_wp2
            go_ret2
            exact ⟨ret_two (by rw [Q.out]) (by rw [Q.out]), rfl⟩
          · have nb' : ¬ (1000000 : Int) < n := by omega
            first
              | (have Q := Lib.hid (RN.out n E.symm nb HH.out)
                 clear E p0
                 go_wp2
                 go_ret2
                 exact ⟨ret_two (by rw [Q.out]) (by rw [Q.out]), rfl⟩)
              | (have Q := Lib.hid (RP.out n E.symm nb HH.out)
                 clear E p0
                 go_wp2
                 go_ret2
                 exact ⟨ret_two (by rw [Q.out]) (by rw [Q.out]), rfl⟩)
      have hlt' : (i : Int) < s.size := by omega
      have hne : s.data.toList.drop i ≠ [] := by
        intro q
        have := congrArg List.length q
        rw [List.length_drop, size_len] at this
        simp at this; omega
      have LI := Lib.hid (lead_in' s i)
      have LO := Lib.hid (lead_out' s i)
      have HNE := Lib.hid hne
      have hDl : i + dcnt (s.data.toList.drop i) ≤ s.size := by have := dcnt_le (s.data.toList.drop i); rw [List.length_drop, size_len] at this; omega
      have bad' : bad (s.data.toList.drop i) = decide (dcnt (s.data.toList.drop i) = 0 ∨ 9 < dcnt (s.data.toList.drop i) ∨ s[i] = 48) := by
        unfold bad; rw [Bool.eq_iff_iff, decide_eq_true_iff, decide_eq_true_iff, head_drop s i hlt, Option.some_inj]
      have BAD := Lib.hid bad'
      clear bad'
      have LV : Hid (lv (s.data.toList.drop i) = val ((s.data.toList.drop i).take (dcnt (s.data.toList.drop i)))) := rfl
      have AT : Hid (∀ h' : i + dcnt (s.data.toList.drop i) < s.size, (s.data.toList.drop i)[dcnt (s.data.toList.drop i)]? = some s[i + dcnt (s.data.toList.drop i)]) := fun h' => at_drop s i _ h'
      have DT := Lib.hid (dcnt_take (s.data.toList.drop i))
      have DROP : Hid ((s.data.toList.drop i).drop (dcnt (s.data.toList.drop i) + 1) = s.data.toList.drop (i + dcnt (s.data.toList.drop i) + 1)) := by rw [List.drop_drop]; rfl
      clear hne
      generalize hD : dcnt (s.data.toList.drop i) = D at *
      have HD := Lib.hid hD
      clear hD
      go_wp2
      go_loop [4, 8, 9] (fun a b c => ∃ j : Nat, j ≤ D ∧ a = .int .i64 (i + j : Nat) ∧ b = .int .i64 (val ((s.data.toList.drop i).take (min j 10)) : Nat) ∧ c = .int .i64 j) (fun _ _ c => D - (intOf c).toNat)
      case atStart => exact ⟨0, Nat.zero_le _, by simp, by simp [val], rfl⟩
      case round =>
        obtain ⟨j, hj, rfl, rfl, rfl⟩ := hrel
        have vb : val ((s.data.toList.drop i).take (min j 10)) ≤ 9999999999 := by
          refine val_le10 _ (fun c hc => DT.out c (List.take_subset_take_left _ (by omega) hc)) ?_
          rw [List.length_take]; omega
        by_cases hjD : j < D
        · obtain ⟨hz, hd⟩ := LI.out j hjD
          have hd' := isDg_iff.1 hd
          have c1 : (48 : Int) ≤ s[i + j].toNat := by omega
          have c2 : (s[i + j].toNat : Int) ≤ 57 := by omega
          have hz' : (i : Int) + j < s.size := by omega
          by_cases j9 : (j : Int) < 10
          · have HS : Hid (val ((s.data.toList.drop i).take (min (j + 1) 10)) = val ((s.data.toList.drop i).take (min j 10)) * 10 + (s[i + j].toNat - 48)) := by
              rw [show min (j + 1) 10 = j + 1 by omega, show min j 10 = j by omega, take_drop_snoc s i j hz]; exact val_snoc _ _
            generalize val ((s.data.toList.drop i).take (min j 10)) = V at *
            clear hd hd'
            go_wp2
            go_round
            case rel => exact ⟨j + 1, by omega, by go_num, by rw [HS.out]; go_num, by go_num⟩
            case measure => simp [intOf]; omega
          · have HS : Hid (val ((s.data.toList.drop i).take (min (j + 1) 10)) = val ((s.data.toList.drop i).take (min j 10))) :=
              congrArg (fun k => val ((s.data.toList.drop i).take k)) (show min (j + 1) 10 = min j 10 by omega)
            generalize val ((s.data.toList.drop i).take (min j 10)) = V at *
            clear hd hd'
            go_wp2
            go_round
            case rel => exact ⟨j + 1, by omega, by go_num, by rw [HS.out], by go_num⟩
            case measure => simp [intOf]; omega
        · have hjj : j = D := by omega
          subst hjj
          have LK : Hid (j ≤ 9 → val ((s.data.toList.drop i).take (min j 10)) = lv (s.data.toList.drop i)) := fun h9 => by rw [LV.out, show min j 10 = j by omega]
          generalize val ((s.data.toList.drop i).take (min j 10)) = V at *
          clear hjD hj
          have NB : Hid (bad (s.data.toList.drop i) = true → RES = (0, 2)) := fun hb => R0.out ((rs_bad f p n HNE.out hb).symm.trans HRS.out).symm
          have NN : Hid (¬ ((s.data.toList.drop i)[j]? = some 100 ∧ p = 0) → ¬ ((s.data.toList.drop i)[j]? = some 104 ∧ p ≤ 1 ∧ lv (s.data.toList.drop i) < 24) → ¬ ((s.data.toList.drop i)[j]? = some 109 ∧ p ≤ 2 ∧ lv (s.data.toList.drop i) < 60) → RES = (0, 2)) := fun a b c => by
            rw [← HD.out] at a b c
            exact R0.out ((rs_none f p n HNE.out a b c).symm.trans HRS.out).symm
          by_cases hend : i + j < s.size
          case neg =>
            by_cases k0 : j = 0
            case pos =>
              have w1 : ¬ (i : Int) + j < s.size := by omega
              have w2 : ((i : Int) + j == (s.size : Int)) = true := by rw [beq_iff_eq]; omega
              have d0 : ((j : Int) == 0) = true := by rw [beq_iff_eq]; omega
              have Q : Hid (RES = (0, 2)) := NB.out (by rw [BAD.out]; exact decide_eq_true (Or.inl k0))
              clear k0
              go_wp2
              go_ret2
              exact ⟨ret_two (by rw [Q.out]) (by rw [Q.out]), rfl⟩
            by_cases k9 : 9 < j
            case pos =>
              have w1 : ¬ (i : Int) + j < s.size := by omega
              have w2 : ((i : Int) + j == (s.size : Int)) = true := by rw [beq_iff_eq]; omega
              have d0 : ((j : Int) == 0) = false := by rw [beq_eq_false_iff_ne]; omega
              have d9 : (9 : Int) < j := by omega
              have Q : Hid (RES = (0, 2)) := NB.out (by rw [BAD.out]; exact decide_eq_true (Or.inr (Or.inl k9)))
              clear k0
              go_wp2
              go_ret2
              exact ⟨ret_two (by rw [Q.out]) (by rw [Q.out]), rfl⟩
            by_cases k48 : s[i] = 48
            case pos =>
              have w1 : ¬ (i : Int) + j < s.size := by omega
              have w2 : ((i : Int) + j == (s.size : Int)) = true := by rw [beq_iff_eq]; omega
              have d0 : ((j : Int) == 0) = false := by rw [beq_eq_false_iff_ne]; omega
              have d9 : ¬ (9 : Int) < j := by omega
              have d48 : ((s[i].toNat : Int) == 48) = true := by rw [k48]; rfl
              have Q : Hid (RES = (0, 2)) := NB.out (by rw [BAD.out]; exact decide_eq_true (Or.inr (Or.inr k48)))
              clear k0 k48
              go_wp2
              go_ret2
              exact ⟨ret_two (by rw [Q.out]) (by rw [Q.out]), rfl⟩
            have d48 : ((s[i].toNat : Int) == 48) = false := by
              rw [beq_eq_false_iff_ne]; intro q; exact k48 ((byte_eq (c := 48) rfl).2 q)
            have GB : Hid (bad (s.data.toList.drop i) = false) := by
              rw [BAD.out]; refine decide_eq_false ?_
              rintro (q | q | q)
              · exact k0 q
              · exact k9 q
              · exact k48 q
            have VL := Lib.hid (LK.out (by omega))
            have w1 : ¬ (i : Int) + j < s.size := by omega
            have w2 : ((i : Int) + j == (s.size : Int)) = true := by rw [beq_iff_eq]; omega
            have d0 : ((j : Int) == 0) = false := by rw [beq_eq_false_iff_ne]; omega
            have d9 : ¬ (9 : Int) < j := by omega
            have NO : Hid ((s.data.toList.drop i)[j]? = none) := List.getElem?_eq_none (by rw [List.length_drop, size_len]; omega)
            have Q : Hid (RES = (0, 2)) := NN.out (by rw [NO.out]; simp) (by rw [NO.out]; simp) (by rw [NO.out]; simp)
            clear k0 k48
            go_wp2
            go_ret2
            exact ⟨ret_two (by rw [Q.out]) (by rw [Q.out]), rfl⟩
          have AJ : Hid ((s.data.toList.drop i)[j]? = some s[i + j]) := by
            exact AT.out hend
          have ND : Hid (isDg s[i + j] = false) := LO.out hend
          have nd : ¬ (48 ≤ s[i + j].toNat ∧ s[i + j].toNat ≤ 57) := fun q => by
            have := isDg_iff.2 q
            rw [ND.out] at this; cases this
          by_cases hlo : s[i + j].toNat < 48
          case pos =>
            by_cases k0 : j = 0
            case pos =>
              have w1 : (i : Int) + j < s.size := by omega
              have w2 : ((i : Int) + j == (s.size : Int)) = false := by rw [beq_eq_false_iff_ne]; omega
              have w3 : ¬ (48 : Int) ≤ s[i + j].toNat := by omega
              have d0 : ((j : Int) == 0) = true := by rw [beq_iff_eq]; omega
              have Q : Hid (RES = (0, 2)) := NB.out (by rw [BAD.out]; exact decide_eq_true (Or.inl k0))
              clear k0
              go_wp2
              go_ret2
              exact ⟨ret_two (by rw [Q.out]) (by rw [Q.out]), rfl⟩
            by_cases k9 : 9 < j
            case pos =>
              have w1 : (i : Int) + j < s.size := by omega
              have w2 : ((i : Int) + j == (s.size : Int)) = false := by rw [beq_eq_false_iff_ne]; omega
              have w3 : ¬ (48 : Int) ≤ s[i + j].toNat := by omega
              have d0 : ((j : Int) == 0) = false := by rw [beq_eq_false_iff_ne]; omega
              have d9 : (9 : Int) < j := by omega
              have Q : Hid (RES = (0, 2)) := NB.out (by rw [BAD.out]; exact decide_eq_true (Or.inr (Or.inl k9)))
              clear k0
              go_wp2
              go_ret2
              exact ⟨ret_two (by rw [Q.out]) (by rw [Q.out]), rfl⟩
            by_cases k48 : s[i] = 48
            case pos =>
              have w1 : (i : Int) + j < s.size := by omega
              have w2 : ((i : Int) + j == (s.size : Int)) = false := by rw [beq_eq_false_iff_ne]; omega
              have w3 : ¬ (48 : Int) ≤ s[i + j].toNat := by omega
              have d0 : ((j : Int) == 0) = false := by rw [beq_eq_false_iff_ne]; omega
              have d9 : ¬ (9 : Int) < j := by omega
              have d48 : ((s[i].toNat : Int) == 48) = true := by rw [k48]; rfl
              have Q : Hid (RES = (0, 2)) := NB.out (by rw [BAD.out]; exact decide_eq_true (Or.inr (Or.inr k48)))
              clear k0 k48
              go_wp2
              go_ret2
              exact ⟨ret_two (by rw [Q.out]) (by rw [Q.out]), rfl⟩
            have d48 : ((s[i].toNat : Int) == 48) = false := by
              rw [beq_eq_false_iff_ne]; intro q; exact k48 ((byte_eq (c := 48) rfl).2 q)
            have GB : Hid (bad (s.data.toList.drop i) = false) := by
              rw [BAD.out]; refine decide_eq_false ?_
              rintro (q | q | q)
              · exact k0 q
              · exact k9 q
              · exact k48 q
            have VL := Lib.hid (LK.out (by omega))
            have w1 : (i : Int) + j < s.size := by omega
            have w2 : ((i : Int) + j == (s.size : Int)) = false := by rw [beq_eq_false_iff_ne]; omega
            have w3 : ¬ (48 : Int) ≤ s[i + j].toNat := by omega
            have d0 : ((j : Int) == 0) = false := by rw [beq_eq_false_iff_ne]; omega
            have d9 : ¬ (9 : Int) < j := by omega
            have l1 : ¬ s[i + j] = 100 := fun q => by rw [q] at hlo; exact absurd hlo (by decide)
            have l2 : ¬ s[i + j] = 104 := fun q => by rw [q] at hlo; exact absurd hlo (by decide)
            have l3 : ¬ s[i + j] = 109 := fun q => by rw [q] at hlo; exact absurd hlo (by decide)
            have m1 : ((s[i + j].toNat : Int) == 100) = false := by rw [beq_eq_false_iff_ne]; intro q; exact l1 ((byte_eq (c := 100) rfl).2 q)
            have m2 : ((s[i + j].toNat : Int) == 104) = false := by rw [beq_eq_false_iff_ne]; intro q; exact l2 ((byte_eq (c := 104) rfl).2 q)
            have m3 : ((s[i + j].toNat : Int) == 109) = false := by rw [beq_eq_false_iff_ne]; intro q; exact l3 ((byte_eq (c := 109) rfl).2 q)
            have Q : Hid (RES = (0, 2)) := NN.out (by rw [AJ.out]; exact fun q => l1 (Option.some.inj q.1)) (by rw [AJ.out]; exact fun q => l2 (Option.some.inj q.1)) (by rw [AJ.out]; exact fun q => l3 (Option.some.inj q.1))
            clear k0 k48 l1 l2 l3 hlo nd
            go_wp2
            go_ret2
            exact ⟨ret_two (by rw [Q.out]) (by rw [Q.out]), rfl⟩
          by_cases k0 : j = 0
          case pos =>
            have w1 : (i : Int) + j < s.size := by omega
            have w2 : ((i : Int) + j == (s.size : Int)) = false := by rw [beq_eq_false_iff_ne]; omega
            have w3 : (48 : Int) ≤ s[i + j].toNat := by omega
            have w4 : ¬ (s[i + j].toNat : Int) ≤ 57 := by omega
            have d0 : ((j : Int) == 0) = true := by rw [beq_iff_eq]; omega
            have Q : Hid (RES = (0, 2)) := NB.out (by rw [BAD.out]; exact decide_eq_true (Or.inl k0))
            clear k0
            go_wp2
            go_ret2
            exact ⟨ret_two (by rw [Q.out]) (by rw [Q.out]), rfl⟩
          by_cases k9 : 9 < j
          case pos =>
            have w1 : (i : Int) + j < s.size := by omega
            have w2 : ((i : Int) + j == (s.size : Int)) = false := by rw [beq_eq_false_iff_ne]; omega
            have w3 : (48 : Int) ≤ s[i + j].toNat := by omega
            have w4 : ¬ (s[i + j].toNat : Int) ≤ 57 := by omega
            have d0 : ((j : Int) == 0) = false := by rw [beq_eq_false_iff_ne]; omega
            have d9 : (9 : Int) < j := by omega
            have Q : Hid (RES = (0, 2)) := NB.out (by rw [BAD.out]; exact decide_eq_true (Or.inr (Or.inl k9)))
            clear k0
            go_wp2
            go_ret2
            exact ⟨ret_two (by rw [Q.out]) (by rw [Q.out]), rfl⟩
          by_cases k48 : s[i] = 48
          case pos =>
            have w1 : (i : Int) + j < s.size := by omega
            have w2 : ((i : Int) + j == (s.size : Int)) = false := by rw [beq_eq_false_iff_ne]; omega
            have w3 : (48 : Int) ≤ s[i + j].toNat := by omega
            have w4 : ¬ (s[i + j].toNat : Int) ≤ 57 := by omega
            have d0 : ((j : Int) == 0) = false := by rw [beq_eq_false_iff_ne]; omega
            have d9 : ¬ (9 : Int) < j := by omega
            have d48 : ((s[i].toNat : Int) == 48) = true := by rw [k48]; rfl
            have Q : Hid (RES = (0, 2)) := NB.out (by rw [BAD.out]; exact decide_eq_true (Or.inr (Or.inr k48)))
            clear k0 k48
            go_wp2
            go_ret2
            exact ⟨ret_two (by rw [Q.out]) (by rw [Q.out]), rfl⟩
          have d48 : ((s[i].toNat : Int) == 48) = false := by
            rw [beq_eq_false_iff_ne]; intro q; exact k48 ((byte_eq (c := 48) rfl).2 q)
          have GB : Hid (bad (s.data.toList.drop i) = false) := by
            rw [BAD.out]; refine decide_eq_false ?_
            rintro (q | q | q)
            · exact k0 q
            · exact k9 q
            · exact k48 q
          have VL := Lib.hid (LK.out (by omega))
          have w1 : (i : Int) + j < s.size := by omega
          have w2 : ((i : Int) + j == (s.size : Int)) = false := by rw [beq_eq_false_iff_ne]; omega
          have w3 : (48 : Int) ≤ s[i + j].toNat := by omega
          have w4 : ¬ (s[i + j].toNat : Int) ≤ 57 := by omega
          have d0 : ((j : Int) == 0) = false := by rw [beq_eq_false_iff_ne]; omega
          have d9 : ¬ (9 : Int) < j := by omega
          clear k0 k48
          by_cases lt : s[i + j] = 100
          case pos =>
            have m1 : ((s[i + j].toNat : Int) == 100) = true := by rw [lt]; rfl
            have m2 : ((s[i + j].toNat : Int) == 104) = false := by rw [lt]; rfl
            have m3 : ((s[i + j].toNat : Int) == 109) = false := by rw [lt]; rfl
            by_cases p0 : p = 0
            case neg =>
              have b0 : ((p : Int) == 0) = false := by rw [beq_eq_false_iff_ne]; omega
              have Q : Hid (RES = (0, 2)) := NN.out (by rw [AJ.out, lt]; exact fun q => p0 q.2) (by rw [AJ.out, lt]; simp) (by rw [AJ.out, lt]; simp)
              clear p0 lt hlo nd
              go_wp2
              go_ret2
              exact ⟨ret_two (by rw [Q.out]) (by rw [Q.out]), rfl⟩
            have n0 := HN0.out p0
            subst p0
            have b0 : (((0 : Nat) : Int) == 0) = true := rfl
            obtain ⟨f, rfl⟩ : ∃ f', f = f' + 1 := ⟨f - 1, by omega⟩
            have NX : Hid (rs f 1 (n + V * 1440) (s.data.toList.drop (i + j + 1)) = TOT) := by
              have E := rs_d f n HNE.out GB.out (by rw [HD.out, AJ.out, lt])
              rw [HD.out, DROP.out, HRS.out, ← VL.out] at E
              exact E.symm
            have vb9 : V ≤ 999999999 := by rw [VL.out]; exact lv_le GB.out
            clear lt hlo nd
            go_wp2
            go_round
            case rel => exact ⟨i + j + 1, n + V * 1440, 1, f, by omega, by go_num, by go_num, rfl, by omega, fun q => by omega, by omega, by omega, NX.out⟩
            case measure => simp [intOf]; omega
          have l1 := lt
          clear lt
          by_cases lt : s[i + j] = 104
          case pos =>
            have m1 : ((s[i + j].toNat : Int) == 100) = false := by rw [lt]; rfl
            have m2 : ((s[i + j].toNat : Int) == 104) = true := by rw [lt]; rfl
            have m3 : ((s[i + j].toNat : Int) == 109) = false := by rw [lt]; rfl
            by_cases p0 : p ≤ 1
            case neg =>
              have b0 : ¬ (p : Int) ≤ 1 := by omega
              have Q : Hid (RES = (0, 2)) := NN.out (by rw [AJ.out, lt]; simp) (by rw [AJ.out, lt]; exact fun q => p0 q.2.1) (by rw [AJ.out, lt]; simp)
              clear p0 lt hlo nd
              go_wp2
              go_ret2
              exact ⟨ret_two (by rw [Q.out]) (by rw [Q.out]), rfl⟩
            have b0 : (p : Int) ≤ 1 := by omega
            by_cases k0 : V < 24
            case neg =>
              have b1 : ¬ (V : Int) < 24 := by omega
              have Q : Hid (RES = (0, 2)) := NN.out (by rw [AJ.out, lt]; simp) (by rw [AJ.out, lt]; exact fun q => k0 (by rw [VL.out]; exact q.2.2)) (by rw [AJ.out, lt]; simp)
              clear p0 k0 lt hlo nd
              go_wp2
              go_ret2
              exact ⟨ret_two (by rw [Q.out]) (by rw [Q.out]), rfl⟩
            have b1 : (V : Int) < 24 := by omega
            obtain ⟨f, rfl⟩ : ∃ f', f = f' + 1 := ⟨f - 1, by omega⟩
            have NX : Hid (rs f 2 (n + V * 60) (s.data.toList.drop (i + j + 1)) = TOT) := by
              have E := rs_h f p n HNE.out GB.out (by rw [HD.out, AJ.out, lt]) p0 (by rw [← VL.out]; exact k0)
              rw [HD.out, DROP.out, HRS.out, ← VL.out] at E
              exact E.symm
            clear lt hlo nd
            go_wp2
            go_round
            case rel => exact ⟨i + j + 1, n + V * 60, 2, f, by omega, by go_num, by go_num, rfl, by omega, fun q => by omega, by omega, by omega, NX.out⟩
            case measure => simp [intOf]; omega
          have l2 := lt
          clear lt
          by_cases lt : s[i + j] = 109
          case pos =>
            have m1 : ((s[i + j].toNat : Int) == 100) = false := by rw [lt]; rfl
            have m2 : ((s[i + j].toNat : Int) == 104) = false := by rw [lt]; rfl
            have m3 : ((s[i + j].toNat : Int) == 109) = true := by rw [lt]; rfl
            by_cases p0 : p ≤ 2
            case neg =>
              have b0 : ¬ (p : Int) ≤ 2 := by omega
              have Q : Hid (RES = (0, 2)) := NN.out (by rw [AJ.out, lt]; simp) (by rw [AJ.out, lt]; simp) (by rw [AJ.out, lt]; exact fun q => p0 q.2.1)
              clear p0 lt hlo nd
              go_wp2
              go_ret2
              exact ⟨ret_two (by rw [Q.out]) (by rw [Q.out]), rfl⟩
            have b0 : (p : Int) ≤ 2 := by omega
            by_cases k0 : V < 60
            case neg =>
              have b1 : ¬ (V : Int) < 60 := by omega
              have Q : Hid (RES = (0, 2)) := NN.out (by rw [AJ.out, lt]; simp) (by rw [AJ.out, lt]; simp) (by rw [AJ.out, lt]; exact fun q => k0 (by rw [VL.out]; exact q.2.2))
              clear p0 k0 lt hlo nd
              go_wp2
              go_ret2
              exact ⟨ret_two (by rw [Q.out]) (by rw [Q.out]), rfl⟩
            have b1 : (V : Int) < 60 := by omega
            obtain ⟨f, rfl⟩ : ∃ f', f = f' + 1 := ⟨f - 1, by omega⟩
            have NX : Hid (rs f 3 (n + V) (s.data.toList.drop (i + j + 1)) = TOT) := by
              have E := rs_m f p n HNE.out GB.out (by rw [HD.out, AJ.out, lt]) p0 (by rw [← VL.out]; exact k0)
              rw [HD.out, DROP.out, HRS.out, ← VL.out] at E
              exact E.symm
            clear lt hlo nd
            go_wp2
            go_round
            case rel => exact ⟨i + j + 1, n + V, 3, f, by omega, by go_num, by go_num, rfl, by omega, fun q => by omega, by omega, by omega, NX.out⟩
            case measure => simp [intOf]; omega
          have l3 := lt
          clear lt
          have m1 : ((s[i + j].toNat : Int) == 100) = false := by rw [beq_eq_false_iff_ne]; intro q; exact l1 ((byte_eq (c := 100) rfl).2 q)
          have m2 : ((s[i + j].toNat : Int) == 104) = false := by rw [beq_eq_false_iff_ne]; intro q; exact l2 ((byte_eq (c := 104) rfl).2 q)
          have m3 : ((s[i + j].toNat : Int) == 109) = false := by rw [beq_eq_false_iff_ne]; intro q; exact l3 ((byte_eq (c := 109) rfl).2 q)
          have Q : Hid (RES = (0, 2)) := NN.out (by rw [AJ.out]; exact fun q => l1 (Option.some.inj q.1)) (by rw [AJ.out]; exact fun q => l2 (Option.some.inj q.1)) (by rw [AJ.out]; exact fun q => l3 (Option.some.inj q.1))
          clear l1 l2 l3 hlo nd
          go_wp2
          go_ret2
          exact ⟨ret_two (by rw [Q.out]) (by rw [Q.out]), rfl⟩
theorem readSpan_any (s : ByteArray) (w : World) (hs : s.size ≤ maxLen) :
    Calls Tryd.prog 30 #[.string s] w fun e w' => e = .returned (.tuple #[.int .i64 (spn s.data.toList).1, .int .i64 (spn s.data.toList).2]) ∧ w' = w := by
  by_cases h : s.data.toList = [48, 109]
  · exact readSpan_zero s w h
  rcases Nat.eq_zero_or_pos s.size with z | z
  · exact readSpan_nil s w (List.length_eq_zero_iff.1 (by rw [size_len]; exact z))
  by_cases hg : s.data.toList.head? = some 45
  · refine readSpan_walk s w 1 hs h z z ?_ (Or.inl ⟨rfl, hg⟩)
    unfold unsg; rw [if_pos hg, List.drop_one]
  · refine readSpan_walk s w 0 hs h z (Nat.zero_le _) ?_ (Or.inr ⟨rfl, hg⟩)
    unfold unsg; rw [if_neg hg]; rfl
end Go.Proofs.YtdiijpjfkgnjkaaDoor
