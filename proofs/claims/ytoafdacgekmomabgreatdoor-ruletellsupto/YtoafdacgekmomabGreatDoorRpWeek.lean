/-
  What is proved here: what package rule's parseWeek answers (a contract over the translation).
-/
import Derived.Test.YtoafdacgekmomabGreatDoorQG
namespace Go.Proofs.YtoafdacgekmomabGreatDoor
open Go.RowKit Cal Txt

/-- Two numbers, both 0, lie in a block of a call's own. -/
def Res2 (W : World) (b : Nat) : Prop := (W.cell? ⟨b, 0, none⟩ = some (.int .i64 0) ∧ W.cell? ⟨b, 1, none⟩ = some (.int .i64 0)) ∧ W.frozen? ⟨b, 0, none⟩ = false ∧ W.frozen? ⟨b, 1, none⟩ = false
theorem Res2.new (W : World) (t : TypeId) : Res2 (W.alloc (.cells #[.int .i64 0, .int .i64 0] t)) W.heap.size := ⟨⟨by simp, by simp⟩, by simp, by simp⟩
theorem Res2.lt {W : World} {b : Nat} (h : Res2 W b) : b < W.heap.size := cell_lt h.1.1
theorem Res2.on {W W' : World} {b : Nat} (h : Res2 W b) (q : Below W.heap.size W W') : Res2 W' b := by
  obtain ⟨c, f⟩ := bcell q
  exact ⟨⟨by rw [c _ _ h.lt]; exact h.1.1, by rw [c _ _ h.lt]; exact h.1.2⟩, by rw [f _ _ h.lt]; exact h.2.1, by rw [f _ _ h.lt]; exact h.2.2⟩
theorem ext_data (s : ByteArray) (a b : Nat) : (s.extract a b).data.toList = (s.data.toList.drop a).take (b - a) := by
  rw [ByteArray.data_extract, Array.toList_extract, List.extract_eq_take_drop]
theorem ext_len (s : ByteArray) : s.data.toList.length = s.size := rfl
set_option maxRecDepth 100000 in
set_option maxHeartbeats 2000000 in
theorem parseWeek_any (s : ByteArray) (w : World) (hP : Pow w) (hE : ErS w) (hW : WdW w) (hs : s.size ≤ 2000000) :
    Calls Tryz.prog 79 #[.string s] w fun e w' => ∃ v, e = .returned v ∧ nthA (wr s.data.toList) v ∧ Below w.heap.size w w' := by
  have B0 : Below w.heap.size w (w.alloc (.cells #[.int .i64 0, .int .i64 0] 41)) := (Below.refl _ _).alloc (Nat.le_refl _) _
  have HB := Lib.hid B0
  have HP := Lib.hid (hP.below B0)
  have HE := Lib.hid (hE.below B0)
  have HW := Lib.hid (hW.below B0)
  have R0 := Res2.new w 41
  clear B0 hP hE hW
  have LN : s.data.toList.length = s.size := rfl
  by_cases h2 : s.size < 2
  · have h2' : (s.size : Int) < 2 := by omega
    have N1 : Hid (wr s.data.toList = none) := Lib.hid (by unfold wr; rw [if_pos (by rw [LN]; exact h2)])
    clear R0
    go_enter Tryz.func79, Tryz.ntmps79
    go_wp2
    refine bodyPost_ret (v := .tuple #[.agg #[.int .i64 0, .int .i64 0], .bool false]) (by simp [results, Tryz.results79, go_sem]) rfl ⟨_, rfl, Or.inl ⟨N1.out, _, _, rfl⟩, HB.out⟩
  · have h2' : (2 : Int) ≤ s.size := by omega
    have DK : Hid ((s.extract (s.size - 2) s.size).data.toList = s.data.toList.drop (s.data.toList.length - 2)) := Lib.hid (by rw [ext_data, LN, List.take_of_length_le (by rw [List.length_drop, LN]; omega)])
    have TK : Hid ((s.extract 0 (s.size - 2)).data.toList = s.data.toList.take (s.data.toList.length - 2)) := Lib.hid (by rw [ext_data, LN]; simp)
    obtain ⟨k, hk⟩ : ∃ k, k = dk (s.data.toList.drop (s.data.toList.length - 2)) := ⟨_, rfl⟩
    have HK := Lib.hid hk
    clear hk R0
    have KW := Lib.hid (parseWeekday_any (s.extract (s.size - 2) s.size) _ HW.out)
    rw [DK.out, ← HK.out] at KW
    by_cases h0 : k = 0
    · have N1 : Hid (wr s.data.toList = none) := Lib.hid (by unfold wr; rw [if_neg (by rw [LN]; exact h2), if_pos (by rw [← HK.out]; exact h0)])
      rw [posA_none h0] at KW
      clear h0
      go_enter Tryz.func79, Tryz.ntmps79
      go_wp2_with fail
      refine KW.out.mono ?_
      rintro e w1 ⟨rfl, hw⟩
      subst hw
      go_wp2
      refine bodyPost_ret (v := .tuple #[.agg #[.int .i64 0, .int .i64 0], .bool false]) (by simp [results, Tryz.results79, go_sem]) rfl ⟨_, rfl, Or.inl ⟨N1.out, _, _, rfl⟩, ?_⟩
      repeat (first | exact HB.out | exact (Below.refl _ _).alloc (Nat.le_refl _) _ | refine Below.setCell ?_ (by first | omega | (simp <;> omega)) _)
    · rw [posA_some rfl h0] at KW
      by_cases h3 : s.size = 2
      · have h3' : True := trivial
        have N1 : Hid (wr s.data.toList = some (0, k)) := Lib.hid (by unfold wr; rw [if_neg (by rw [LN]; exact h2), if_neg (by rw [← HK.out]; exact h0), if_pos (by rw [LN]; exact h3), ← HK.out])
        have H3 := Lib.hid h3
        clear h0 h3 h3'
        go_enter Tryz.func79, Tryz.ntmps79
        go_wp2_with fail
        refine KW.out.mono ?_
        rintro e w1 ⟨rfl, hw⟩
        subst hw
        have h4 : (s.size : Int) - 2 = 0 := by have := H3.out; omega
        go_wp2
        refine bodyPost_ret (v := .tuple #[.agg #[.int .i64 0, .int .i64 k], .bool true]) (by simp [results, Tryz.results79, go_sem]) rfl ⟨_, rfl, Or.inr ⟨_, N1.out, rfl⟩, ?_⟩
        repeat (first | exact HB.out | exact (Below.refl _ _).alloc (Nat.le_refl _) _ | refine Below.setCell ?_ (by first | omega | (simp <;> omega)) _)
      · have h3' : ((s.size : Int) - 2 == 0) = false := by rw [beq_eq_false_iff_ne]; omega
        have KN := Lib.hid (parseNumber_any (s.extract 0 (s.size - 2)) _ HP.out HE.out (by rw [← ext_len]; rw [TK.out, List.length_take, LN]; omega))
        rw [TK.out] at KN
        have HR := Lib.hid (Res2.new w 41)
        rcases hn : nr 4 (s.data.toList.take (s.data.toList.length - 2)) with _ | n
        · have N1 : Hid (wr s.data.toList = none) := Lib.hid (by unfold wr; rw [if_neg (by rw [LN]; exact h2), if_neg (by rw [← HK.out]; exact h0), if_neg (by rw [LN]; exact h3), hn])
          rw [hn, numA_none rfl] at KN
          clear h0 hn
          go_enter Tryz.func79, Tryz.ntmps79
          go_wp2_with fail
          refine KW.out.mono ?_
          rintro e w1 ⟨rfl, hw⟩
          subst hw
          go_wp2_with fail
          refine KN.out.mono ?_
          rintro e w1 ⟨rfl, hb⟩
          have hB1 := HB.out.trans (hb.mono HB.out.size)
          obtain ⟨⟨c1, c2⟩, f1, f2⟩ := HR.out.on hb
          clear hb HR HB HP HE HW KN KW
          go_wp2
          refine bodyPost_ret (v := .tuple #[.agg #[.int .i64 0, .int .i64 k], .bool false]) (by simp [results, Tryz.results79, go_sem, c1, c2]) rfl ⟨_, rfl, Or.inl ⟨N1.out, _, _, rfl⟩, ?_⟩
          repeat (first | exact hB1 | refine Below.setCell ?_ (by first | omega | (simp <;> omega)) _)
        · rw [hn, numA_some rfl] at KN
          by_cases hz : n = 0
          · have N1 : Hid (wr s.data.toList = none) := Lib.hid (by unfold wr; rw [if_neg (by rw [LN]; exact h2), if_neg (by rw [← HK.out]; exact h0), if_neg (by rw [LN]; exact h3), hn]; show (if n = 0 then none else _) = _; rw [if_pos hz])
            subst hz
            clear h0 hn
            go_enter Tryz.func79, Tryz.ntmps79
            go_wp2_with fail
            refine KW.out.mono ?_
            rintro e w1 ⟨rfl, hw⟩
            subst hw
            go_wp2_with fail
            refine KN.out.mono ?_
            rintro e w1 ⟨rfl, hb⟩
            have hB1 := HB.out.trans (hb.mono HB.out.size)
            obtain ⟨⟨c1, c2⟩, f1, f2⟩ := HR.out.on hb
            clear hb HR HB HP HE HW KN KW
            go_wp2
            refine bodyPost_ret (v := .tuple #[.agg #[.int .i64 0, .int .i64 k], .bool false]) (by simp [results, Tryz.results79, go_sem, c1, c2]) rfl ⟨_, rfl, Or.inl ⟨N1.out, _, _, rfl⟩, ?_⟩
            repeat (first | exact hB1 | refine Below.setCell ?_ (by first | omega | (simp <;> omega)) _)
          · have N1 : Hid (wr s.data.toList = some (n, k)) := Lib.hid (by unfold wr; rw [if_neg (by rw [LN]; exact h2), if_neg (by rw [← HK.out]; exact h0), if_neg (by rw [LN]; exact h3), hn]; show (if n = 0 then none else _) = _; rw [if_neg hz, ← HK.out])
            have hz' : (n != 0) = true := by simp [hz]
            clear h0 hn hz
            go_enter Tryz.func79, Tryz.ntmps79
            go_wp2_with fail
            refine KW.out.mono ?_
            rintro e w1 ⟨rfl, hw⟩
            subst hw
            go_wp2_with fail
            refine KN.out.mono ?_
            rintro e w1 ⟨rfl, hb⟩
            have hB1 := HB.out.trans (hb.mono HB.out.size)
            obtain ⟨⟨c1, c2⟩, f1, f2⟩ := HR.out.on hb
            clear hb HR HB HP HE HW KN KW
            go_wp2
            refine bodyPost_ret (v := .tuple #[.agg #[.int .i64 n, .int .i64 k], .bool true]) (by simp [results, Tryz.results79, go_sem, c1, c2]) rfl ⟨_, rfl, Or.inr ⟨_, N1.out, rfl⟩, ?_⟩
            repeat (first | exact hB1 | refine Below.setCell ?_ (by first | omega | (simp <;> omega)) _)
end Go.Proofs.YtoafdacgekmomabGreatDoor
