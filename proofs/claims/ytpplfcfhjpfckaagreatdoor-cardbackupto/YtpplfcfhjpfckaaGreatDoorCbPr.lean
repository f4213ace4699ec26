/-
  What is proved here: what package card's printTime, printSpan, printRule, printChange and printAlarm answer (contracts over the translation).
-/
import Derived.Test.YtpplfcfhjpfckaaGreatDoorQK
import Derived.Test.YtpplfcfhjpfckaaGreatDoorQY
import Derived.Test.YtpplfcfhjpfckaaGreatDoorQV
import Derived.Test.YtpplfcfhjpfckaaGreatDoorEvLow
import Derived.Deep.CutRange
import Derived.Deep.RegionHeld3
namespace Go.Proofs.YtpplfcfhjpfckaaGreatDoor
open Go.RowKit Cal Txt Ln Cb

theorem printTime_any (t : Int) (w : World) (hT : Tab w) (hP : Pow w) (h : ist t = true) :
    Calls Tryz.prog 56 #[.int .i64 t] w fun e w' => e = .returned (.string (tb (txt t))) ∧ Below w.heap.size w w' := by
  have q : 1 ≤ t ∧ t ≤ 157785119 := of_decide_eq_true h
  have K := Lib.hid (print_yes t w hT hP q.1 q.2)
  clear hT hP h q
  go_enter Tryz.func56, Tryz.ntmps56
  go_wp2_with fail
  refine K.out.mono ?_
  rintro e w1 ⟨rfl, hb⟩
  have HB := Lib.hid hb
  clear hb K
  go_wp2
  go_ret
  exact ⟨rfl, HB.out⟩
theorem printSpan_any (n : Int) (w : World) (hP : Pow w) (hU : Uni w) (h1 : -1000000 ≤ n) (h2 : n ≤ 1000000) :
    Calls Tryz.prog 57 #[.int .i64 n] w fun e w' => e = .returned (.string (tb (spt n))) ∧ Below w.heap.size w w' := by
  have K := Lib.hid (pspan_yes n w hP hU h1 h2)
  clear hP hU h1 h2
  go_enter Tryz.func57, Tryz.ntmps57
  go_wp2_with fail
  refine K.out.mono ?_
  rintro e w1 ⟨rfl, hb⟩
  have HB := Lib.hid hb
  clear hb K
  go_wp2
  go_ret
  exact ⟨rfl, HB.out⟩
set_option maxRecDepth 100000 in
set_option maxHeartbeats 2000000 in
theorem printRule_any (r : Rl) (v : Value) (w : World) (hv : RuleIn w v r) (hT : Tab w) (hP : Pow w) (hF : FrW w) (hA : PaW w) (hW : WdW w) (h : rf r = 0) :
    Calls Tryz.prog 58 #[v] w fun e w' => e = .returned (.string (tb (rt r))) ∧ Below w.heap.size w w' := by
  have B0 := (Below.refl w.heap.size w)
  obtain ⟨vm, vd, vw, vp, rfl, hm, hd, hw, hp⟩ := hv
  obtain ⟨am, cm, rfl, x1⟩ := id hm
  obtain ⟨ad, cd, rfl, x2⟩ := id hd
  obtain ⟨aw, cw, rfl, x3⟩ := id hw
  obtain ⟨ap, cp, rfl, x4⟩ := id hp
  have hb0 := (Below.refl w.heap.size w).alloc (Nat.le_refl _) (.cells #[.int .i64 r.freq, .int .i64 r.every, .int .i64 r.count, .int .i64 r.till, .slice am r.months.length cm, .slice ad r.days.length cd, .slice aw r.weeks.length cw, .slice ap r.pick.length cp] 25)
  have K := Lib.hid (rprint_any r (.agg #[.int .i64 r.freq, .int .i64 r.every, .int .i64 r.count, .int .i64 r.till, .slice am r.months.length cm, .slice ad r.days.length cd, .slice aw r.weeks.length cw, .slice ap r.pick.length cp]) _ ⟨_, _, _, _, rfl, hm.on hb0, hd.on hb0, hw.on hb0, hp.on hb0⟩ (hT.below hb0) (hP.below hb0) (hF.below hb0) (hA.below hb0) (hW.below hb0))
  rw [if_pos h, h] at K
  have HB0 := Lib.hid hb0
  clear hm hd hw hp x1 x2 x3 x4 hT hP hF hA hW h hb0 B0
  go_enter Tryz.func58, Tryz.ntmps58
  go_wp2_with fail
  refine K.out.mono ?_
  rintro e w1 ⟨rfl, hb⟩
  have HB := Lib.hid (HB0.out.trans (hb.mono HB0.out.size))
  clear hb K HB0
  go_wp2
  go_ret
  exact ⟨rfl, HB.out⟩
theorem tb_app' (a b : List UInt8) : tb a ++ tb b = tb (a ++ b) := by apply ByteArray.ext; simp [tb]
set_option maxRecDepth 100000 in
set_option maxHeartbeats 2000000 in
theorem printChange_any (c : Int × Int) (w : World) (hT : Tab w) (hP : Pow w) (h : chB c = true) :
    Calls Tryz.prog 61 #[.agg #[.int .i64 c.1, .int .i64 c.2]] w fun e w' => e = .returned (.string (tb (vM c))) ∧ Below w.heap.size w w' := by
  unfold chB at h
  rw [Bool.and_eq_true, Bool.or_eq_true] at h
  obtain ⟨h1, h2⟩ := h
  have hb0 := (Below.refl w.heap.size w).alloc (Nat.le_refl _) (.cells #[.int .i64 c.1, .int .i64 c.2] 62)
  have HB0 := Lib.hid hb0
  have HT := Lib.hid (hT.below hb0)
  have HP := Lib.hid (hP.below hb0)
  have t0 : (w.alloc (.cells #[.int .i64 c.1, .int .i64 c.2] 62)).cell? ⟨w.heap.size, 0, none⟩ = some (.int .i64 c.1) := by simp
  have t1 : (w.alloc (.cells #[.int .i64 c.1, .int .i64 c.2] 62)).cell? ⟨w.heap.size, 1, none⟩ = some (.int .i64 c.2) := by simp
  have l16 : ∀ t, ist t = true → (tb (txt t)).size = 16 := fun t q => by
    have q : 1 ≤ t ∧ t ≤ 157785119 := of_decide_eq_true q
    show (txt t).toArray.size = 16
    simp [txt_len16 q.1 q.2]
  clear hT hP hb0
  rcases hz : (c.2 == 0) with _ | _
  · have z : ¬ c.2 = 0 := by simpa using hz
    have h2 : ist c.2 = true := h2.resolve_left (by simpa using z)
    have N1 : Hid (tb (txt c.1) ++ (⟨#[62]⟩ : ByteArray) ++ tb (txt c.2) = tb (vM c)) := Lib.hid (by
      unfold vM
      rw [if_neg z, show txt c.1 ++ 62 :: txt c.2 = txt c.1 ++ [62] ++ txt c.2 by simp, ← tb_app', ← tb_app']; rfl)
    have n1 : ¬ 9223372036854775807 < (tb (txt c.1)).size + 1 := by rw [l16 _ h1]; omega
    have n2 : ¬ 9223372036854775807 < (tb (txt c.1)).size + 1 + (tb (txt c.2)).size := by rw [l16 _ h1, l16 _ h2]; omega
    have H1 := Lib.hid h1
    have H2 := Lib.hid h2
    clear h1 h2 z l16
    go_enter Tryz.func61, Tryz.ntmps61
    go_wp2_with fail
    generalize w.alloc (.cells #[.int .i64 c.1, .int .i64 c.2] 62) = W at HB0 HT HP t0 t1 ⊢
    have r0 := cell_regrown t0
    have r1 := cell_regrown t1
    refine wp_region_quiet_below (by kernel_rfl) (by kernel_rfl) ?_
    repeat (quiet_step (first
      | (go_at_call_of 56 (Value.int .i64 c.1); exact Calls.regrown_of (printTime_any _ _ (HT.out.below (below_regrown W _ _)) (HP.out.below (below_regrown W _ _)) H1.out))
      | (go_at_call_of 56 (Value.int .i64 c.2); exact Calls.regrown_of (printTime_any _ _ (HT.out.below (below_regrown W _ _)) (HP.out.below (below_regrown W _ _)) H2.out))))
    refine wpQuiet_nil ?_
    intro _ hw'
    obtain ⟨⟨dq, osq⟩, hw''⟩ := hw'
    subst hw''
    have hB2 := HB0.out.trans ((below_regrown W dq osq).mono HB0.out.size)
    generalize Sort.grow (redrawn W dq) osq = W3 at hB2 ⊢
    clear r0 r1 t0 t1 HT HP HB0
    go_wp2
    go_ret
    exact ⟨ret_ba N1.out, hB2⟩
  · have z : c.2 = 0 := by simpa using hz
    have N1 : Hid (tb (txt c.1) ++ (⟨#[62]⟩ : ByteArray) ++ (⟨#[45]⟩ : ByteArray) = tb (vM c)) := Lib.hid (by
      unfold vM
      rw [if_pos z, show txt c.1 ++ [62, 45] = txt c.1 ++ [62] ++ [45] by simp, ← tb_app', ← tb_app']; rfl)
    have n1 : ¬ 9223372036854775807 < (tb (txt c.1)).size + 1 := by rw [l16 _ h1]; omega
    have n2 : ¬ 9223372036854775807 < (tb (txt c.1)).size + 1 + 1 := by rw [l16 _ h1]; omega
    have H1 := Lib.hid h1
    clear h1 h2 l16 z
    go_enter Tryz.func61, Tryz.ntmps61
    go_wp2_with fail
    refine (printTime_any c.1 _ HT.out HP.out H1.out).mono ?_
    rintro e w1 ⟨rfl, hb⟩
    have HB := Lib.hid (HB0.out.trans (hb.mono HB0.out.size))
    clear hb t0 t1 HT HP HB0
    go_wp2
    go_ret
    exact ⟨ret_ba N1.out, HB.out⟩
theorem join32 (a b c d : List UInt8) : Lib.join [a, b, c, d] [32] = joinBy 32 [a, b, c, d] := by simp [Lib.join, List.intercalate, joinBy]
theorem join_four (g c : Nat) (x1 x2 x3 x4 : List UInt8) (w : World) (c0 : w.cell? ⟨g, 0, none⟩ = some (.string (tb x1))) (c1 : w.cell? ⟨g, 1, none⟩ = some (.string (tb x2))) (c2 : w.cell? ⟨g, 2, none⟩ = some (.string (tb x3))) (c3 : w.cell? ⟨g, 3, none⟩ = some (.string (tb x4))) (hc : 4 ≤ c) (hl : x1.length + x2.length + x3.length + x4.length ≤ 1000) :
    Calls Tryz.prog 87 #[.slice (some ⟨g, 0, none⟩) 4 c, .string ⟨#[32]⟩] w fun e w' => e = .returned (.string (tb (joinBy 32 [x1, x2, x3, x4]))) ∧ Below w.heap.size w w' := by
  have e1 : Lib.join ([tb x1, tb x2, tb x3, tb x4].map (·.data.toList)) [32] = joinBy 32 [x1, x2, x3, x4] := by
    show Lib.join [(tb x1).data.toList, (tb x2).data.toList, (tb x3).data.toList, (tb x4).data.toList] [32] = _
    rw [tb_data, tb_data, tb_data, tb_data, join32]
  have h := Tryz.strings_Join g 0 c [tb x1, tb x2, tb x3, tb x4] ⟨#[32]⟩ w (fun j x hj => by
    match j, hj with
    | 0, hj => cases hj; exact c0
    | 1, hj => cases hj; exact c1
    | 2, hj => cases hj; exact c2
    | 3, hj => cases hj; exact c3
    | n + 4, hj => simp at hj) (ecell_in c0) (by simp) (by simpa using hc) (by
      show (Lib.join _ [32]).length ≤ _
      rw [e1]
      simp [joinBy]
      omega)
  refine h.mono ?_
  rintro e w' ⟨rfl, hb⟩
  exact ⟨by show Ending.returned (.string ⟨(Lib.join _ [32]).toArray⟩) = _; rw [e1]; rfl, hb⟩
theorem alB_in {x : Int × Bool × Int × Int} (h : alF x = 0) : (-100000 ≤ x.1 ∧ x.1 ≤ 100000) ∧ (0 ≤ x.2.2.1 ∧ x.2.2.1 ≤ 5) ∧ 0 ≤ x.2.2.2 ∧ x.2.2.2 ≤ 10000 := by
  unfold alF at h
  split at h
  · rename_i q
    omega
  · cases h
theorem nt_len5 {n : Int} (h0 : 0 ≤ n) (h1 : n ≤ 5) : (nt n).length ≤ 1 := by
  unfold nt
  rw [if_neg (by omega)]
  exact dec_len n.natAbs 0 (by omega)
set_option maxRecDepth 100000 in
set_option maxHeartbeats 4000000 in
theorem printAlarm_any (o : Int) (b : Bool) (n t : Int) (w : World) (hP : Pow w) (hU : Uni w) (h : alF (o, b, n, t) = 0) :
    Calls Tryz.prog 63 #[.agg #[.int .i64 o, .bool b, .int .i64 n, .int .i64 t]] w fun e w' => e = .returned (.string (tb (vA (o, b, n, t)))) ∧ Below w.heap.size w w' := by
  obtain ⟨⟨o1, o2⟩, ⟨n1, n2⟩, t1, t2⟩ := alB_in h
  dsimp only at o1 o2 n1 n2 t1 t2
  have hb0 := (Below.refl w.heap.size w).alloc (Nat.le_refl _) (.cells #[.int .i64 o, .bool b, .int .i64 n, .int .i64 t] 64)
  have t0 : (w.alloc (.cells #[.int .i64 o, .bool b, .int .i64 n, .int .i64 t] 64)).cell? ⟨w.heap.size, 0, none⟩ = some (.int .i64 o) := by simp
  have tb1 : (w.alloc (.cells #[.int .i64 o, .bool b, .int .i64 n, .int .i64 t] 64)).cell? ⟨w.heap.size, 1, none⟩ = some (.bool b) := by simp
  have tn2 : (w.alloc (.cells #[.int .i64 o, .bool b, .int .i64 n, .int .i64 t] 64)).cell? ⟨w.heap.size, 2, none⟩ = some (.int .i64 n) := by simp
  have tt3 : (w.alloc (.cells #[.int .i64 o, .bool b, .int .i64 n, .int .i64 t] 64)).cell? ⟨w.heap.size, 3, none⟩ = some (.int .i64 t) := by simp
  obtain ⟨W, hW⟩ : ∃ W, W = w.alloc (.cells #[.int .i64 o, .bool b, .int .i64 n, .int .i64 t] 64) := ⟨_, rfl⟩
  have hz : W.heap.size = w.heap.size + 1 := by rw [hW]; simp
  rw [← hW] at hb0 t0 tb1 tn2 tt3
  have HW := Lib.hid hW
  have HB0 := Lib.hid hb0
  have HS : Hid (∀ X, Below W.heap.size W X → (X.cell? ⟨w.heap.size, 0, none⟩ = some (.int .i64 o) ∧ X.cell? ⟨w.heap.size, 2, none⟩ = some (.int .i64 n) ∧ X.cell? ⟨w.heap.size, 3, none⟩ = some (.int .i64 t))) := Lib.hid (fun X q => ⟨(q.cell (p := ⟨w.heap.size, 0, none⟩) (by show w.heap.size < _; omega)).trans t0, (q.cell (p := ⟨w.heap.size, 2, none⟩) (by show w.heap.size < _; omega)).trans tn2, (q.cell (p := ⟨w.heap.size, 3, none⟩) (by show w.heap.size < _; omega)).trans tt3⟩)
  have K1 : Hid (∀ X, Below W.heap.size W X → Calls Tryz.prog 57 #[.int .i64 o] X fun e w' => e = .returned (.string (tb (spt o))) ∧ Below X.heap.size X w') := Lib.hid (fun X q => printSpan_any o X ((hP.below hb0).below q) ((hU.below hb0).below q) (by omega) (by omega))
  have K2 : Hid (∀ X, Below W.heap.size W X → Calls Tryz.prog 88 #[.int .i64 n] X fun e w' => e = .returned (.string (tb (nt n))) ∧ Below X.heap.size X w') := Lib.hid (fun X q => itoa_nt n X ((hP.below hb0).below q) (by omega) (by omega))
  have K3 : Hid (∀ X, Below W.heap.size W X → Calls Tryz.prog 57 #[.int .i64 t] X fun e w' => e = .returned (.string (tb (spt t))) ∧ Below X.heap.size X w') := Lib.hid (fun X q => printSpan_any t X ((hP.below hb0).below q) ((hU.below hb0).below q) (by omega) (by omega))
  have LL : Hid (∀ z : List UInt8, z.length = 1 → (spt o).length + z.length + (nt n).length + (spt t).length ≤ 1000) := Lib.hid (fun z hz' => by
    have a1 := sptC_len (n := o) (by omega) (by omega)
    have a2 := sptC_len (n := t) (by omega) (by omega)
    have a3 := nt_len5 n1 n2
    omega)
  clear hb0 hP hU h o1 o2 n1 n2 t1 t2 t0 tn2 tt3 hW
  go_enter Tryz.func63, Tryz.ntmps63
  go_upto_region 1 with fail
  rw [← HW.out]
  clear HW
  cases b
  all_goals
    go_wp2_with fail
    go_region_held3 (fun X => (X.cell? ⟨w.heap.size, 0, none⟩ = some (.int .i64 o) ∧ X.cell? ⟨w.heap.size, 2, none⟩ = some (.int .i64 n) ∧ X.cell? ⟨w.heap.size, 3, none⟩ = some (.int .i64 t)))
      (first | exact HS.out _ (Below.drew (Below.refl _ W)) | exact HS.out _ ha1 | exact HS.out _ ha2 | exact HS.out _ ha3 | exact HS.out _ (Below.alloc ha3 (Below.size ha3) _) | exact HS.out _ ha4)
      (first
      | (go_at_call_of 57 (Value.int .i64 o); refine (K1.out _ (Below.drew (Below.refl _ W))).mono ?_; rintro x wp ⟨rfl, hp⟩; have ha1 : Below W.heap.size W wp := Below.trans (Below.drew (Below.refl _ W)) hp; clear hp)
      | (go_at_call 88; refine (K2.out _ ha1).mono ?_; rintro x wp ⟨rfl, hp⟩; have ha2 : Below W.heap.size W wp := Below.trans ha1 (Below.mono hp (Below.size ha1)); clear hp)
      | (go_at_call_of 57 (Value.int .i64 t); refine (K3.out _ ha2).mono ?_; rintro x wp ⟨rfl, hp⟩; have ha3 : Below W.heap.size W wp := Below.trans ha2 (Below.mono hp (Below.size ha2)); clear hp)
      | (go_at_call 87; refine (join_four _ _ (spt o) _ (nt n) (spt t) _ (by simp) (by simp; rfl) (by simp) (by simp) (by decide) (LL.out _ rfl)).mono ?_; rintro x wp ⟨rfl, hp⟩; have ha4 : Below W.heap.size W wp := Below.trans (Below.alloc ha3 (Below.size ha3) _) (Below.mono hp (by have := Below.size ha3; simp; omega)); clear hp))
    have ZZ := Lib.hid (HB0.out.trans (ha4.mono HB0.out.size))
    clear HS K1 K2 K3 LL ha1 ha2 ha3 ha4 HB0
    go_wp2
    go_ret
    exact ⟨rfl, ZZ.out⟩
end Go.Proofs.YtpplfcfhjpfckaaGreatDoor
