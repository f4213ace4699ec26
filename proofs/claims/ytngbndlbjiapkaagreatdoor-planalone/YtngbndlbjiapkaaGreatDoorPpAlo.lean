/-
  What is proved here: the walk of chimelaw4.PlanAlone: it returns true for every zone, event and two numbers, and turns nothing that was there; the table of months is asked as a premise.
-/
import Derived.Test.YtngbndlbjiapkaaGreatDoorPQ
import Derived.Test.YtngbndlbjiapkaaGreatDoorTiApp
import Derived.Deep.Cut
import Derived.Deep.CutRange
namespace Go.Proofs.YtngbndlbjiapkaaGreatDoor.Pp
open Go.RowKit Bz Cal Txt

theorem evO_nil (w : World) : EvB w evO nil8 := ⟨nil_int w, nil_int w, nil_nth w, nil_int w, nil_int w, nil_int w, nil_nth w, nil_alm w⟩
theorem evO_two (s : Evs) : teF (fun e => tbF 0 [] e 1 2000) (fun e => tbL 0 [] e 1 2000) [(evO, s), (evO, s)] = 0 ∧ clL (teF (fun e => tbF 0 [] e 1 2000) (fun e => tbL 0 [] e 1 2000) [(evO, s), (evO, s)]) (teL (fun e => tbF 0 [] e 1 2000) (fun e => tbL 0 [] e 1 2000) [(evO, s), (evO, s)]) = [(0, 1)] := by
  obtain ⟨h1, h2⟩ := evO_told
  have f : teF (fun e => tbF 0 [] e 1 2000) (fun e => tbL 0 [] e 1 2000) [(evO, s), (evO, s)] = 0 := by
    rw [te_two]
    show (if ¬ tbF 0 [] evO 1 2000 = 0 then _ else if 100 < (tbL 0 [] evO 1 2000).length then (4 : Int) else 0) = 0
    rw [h1, h2]
    rfl
  refine ⟨f, ?_⟩
  rw [cl_two f]
  show (if shB (tkb (tbL 0 [] evO 1 2000)) (tkb (tbL 0 [] evO 1 2000)) = true then [((0 : Int), (1 : Int))] else []) = _
  rw [h2]
  rfl
theorem evF_len {e : Evt} (h : evF e = 0) : 0 ≤ e.len := by
  unfold evF at h
  split at h
  · exact absurd h (by decide)
  · split at h
    · exact absurd h (by decide)
    · rename_i q
      have q2 : (ist e.start && decide (0 ≤ e.len ∧ e.len ≤ 100000)) = true := by simpa using q
      simp only [Bool.and_eq_true, decide_eq_true_eq] at q2
      exact q2.2.1
set_option maxRecDepth 100000 in
set_option maxHeartbeats 8000000 in
theorem palone (a : Int) (l : List (Int × Int)) (v : Value) (e : Evt) (s : Evs) (fr t : Int) (w : World) (hz : ZoneIn w v a l) (hv : EvB w e s) (hT : Tab w) :
    Calls Tryz.prog 3 #[v, .agg (ecells e s), .int .i64 fr, .int .i64 t] w fun x w' => x = .returned (.bool true) ∧ Below w.heap.size w w' := by
  have HZ := Lib.hid (fun W (q : Below w.heap.size w W) => hz.on q)
  have HV := Lib.hid (fun W (q : Below w.heap.size w W) => hv.on q)
  have HT := Lib.hid (fun W (q : Below w.heap.size w W) => hT.below q)
  obtain ⟨sa, sc, rfl⟩ := hz.form
  obtain ⟨W2, hW, B0, zz, Z0, R0⟩ := two_boxes w a l sa sc e s
  have HW := Lib.hid hW
  have HB := Lib.hid B0
  have HE := Lib.hid R0
  have HX := Lib.hid Z0
  have OC : Hid ((ecells evO nil8).all (fun x => x.oneCell') = true) := Lib.hid (by simp [Value.oneCell'])
  clear hz hv hT hW B0 Z0 R0 zz
  go_enter Tryz.func3, Tryz.ntmps3
  go_upto_region 1 with fail
  rw [← HW.out]
  clear HW
  go_upto_region 2 with (refine ev_store ?h1 (.tmp 9) (.tmp 19) ?h2 W2.heap.size _ _ ?h3 rfl evO nil8 ?h4 ?h5 ?h6 ?h7; (case h1 => rfl); (case h2 => rfl); (case h3 => rfl); (case h4 => exact OC.out); (case h5 => rfl); (case h6 => rfl); intro W3 r3 b3; have Q3 := Lib.hid (And.intro r3 b3); clear r3 b3)
  have B3 := Lib.hid (HB.out.trans (Q3.out.2.mono HB.out.size))
  have E3 := Lib.hid (HE.out.on Q3.out.2)
  have X3 := Lib.hid (HX.out.on Q3.out.2)
  go_wp2_with (first | (refine ev_load (by rfl) (.tmp 9) (by rfl) W2.heap.size evO nil8 (by rfl) Q3.out.1.1 ?_) | (refine ev_build2 (by rfl) (.tmp 22) (.tmp 23) (by rfl) (some 24) (by rfl) evO nil8 (by rfl) (by rfl) (evO_nil _) ?_; intro W4 r4 b4; have Q4 := Lib.hid (And.intro r4 b4); clear r4 b4))
  have B4 := Lib.hid (B3.out.trans (Q4.out.2.mono B3.out.size))
  have E4 := Lib.hid (E3.out.on Q4.out.2)
  have X4 := Lib.hid (X3.out.on Q4.out.2)
  have K := clash_any 0 [] [(evO, nil8), (evO, nil8)] 1 2000 _ _ W4 (zone_nil W4 0) Q4.out.1 (by decide) (HT.out W4 B4.out)
  rw [(evO_two nil8).2, (evO_two nil8).1] at K
  clear Q3 Q4 OC E3 X3 HE HX HB B3
  refine K.mono ?_
  clear K
  rintro x w5 ⟨u5, rfl, ho5, hb5⟩
  have B5 := Lib.hid (B4.out.trans (hb5.mono B4.out.size))
  have E5 := Lib.hid (E4.out.on hb5)
  have X5 := Lib.hid (X4.out.on hb5)
  have rb5 := ho5.rb
  obtain ⟨ua, uc, eu, _⟩ := id rb5
  subst eu
  obtain ⟨b, off, ea, _, c0, c1⟩ := rb_at rb5 (i := 0) (by decide)
  subst ea
  have k0 : w5.cell? ⟨b, off, none⟩ = some (.int .i64 0) := c0
  have k1 : w5.cell? ⟨b, off + 1, none⟩ = some (.int .i64 1) := c1
  have bl := cell_in k0
  have el : ([((0 : Int), (1 : Int))] : List Bz).length = 1 := rfl
  rw [el, fault_zero rfl]
  clear hb5 ho5 rb5 c0 c1 el E4 X4 B4
  obtain ⟨z0, z1⟩ := X5.out
  have zl := cell_in z0
  go_wp2_with (first | (refine ev_load (by rfl) (.tmp 5) (by rfl) (w.heap.size + 1) e s (by rfl) E5.out ?_) | (refine ev_build1 (by rfl) (.tmp 44) (by rfl) (some 45) (by rfl) e s (by rfl) (HV.out _ B5.out) ?_; intro W6 r6 b6; have Q6 := Lib.hid (And.intro r6 b6); clear r6 b6))
  clear k0 k1 bl z0 z1 zl
  have B6 := Lib.hid (B5.out.trans (Q6.out.2.mono B5.out.size))
  have E6 := Lib.hid (E5.out.on Q6.out.2)
  have X6 := Lib.hid (X5.out.on Q6.out.2)
  have K := clash_any a l [(e, s)] fr t _ _ W6 (HZ.out _ B6.out) Q6.out.1 (by simp) (HT.out W6 B6.out)
  rw [cl_one, te_one tb_few2] at K
  dsimp only at K
  have TB := Lib.hid (fun h => tb_good (a := a) (l := l) (e := e) (fr := fr) (t := t) h)
  have TN : Hid (∀ y ∈ tbL a l e fr t, y.2.2 = y.2.1 + e.len) := Lib.hid tb_len
  have K2 := Lib.hid (fun W vl (q : Below w.heap.size w W) (hL : Evl W vl [(e, s), (e, s)]) => clash_any a l [(e, s), (e, s)] fr t _ vl W (HZ.out W q) hL (by simp) (HT.out W q))
  have K3 := Lib.hid (fun W (q : Below w.heap.size w W) => tbetween_any a l _ e s fr t W (HZ.out W q) (HV.out W q) (HT.out W q))
  have F2 : Hid (teF (fun e => tbF a l e fr t) (fun e => tbL a l e fr t) [(e, s), (e, s)] = if ¬ tbF a l e fr t = 0 then tbF a l e fr t else if 100 < (tbL a l e fr t).length then 4 else 0) := Lib.hid te_two
  have M2 : Hid (teF (fun e => tbF a l e fr t) (fun e => tbL a l e fr t) [(e, s), (e, s)] = 0 → clL (teF (fun e => tbF a l e fr t) (fun e => tbL a l e fr t) [(e, s), (e, s)]) (teL (fun e => tbF a l e fr t) (fun e => tbL a l e fr t) [(e, s), (e, s)]) = if shB (tkb (tbL a l e fr t)) (tkb (tbL a l e fr t)) = true then [(0, 1)] else []) := Lib.hid cl_two
  generalize teF (fun e => tbF a l e fr t) (fun e => tbL a l e fr t) [(e, s), (e, s)] = F at K2 F2 M2
  generalize clL F (teL (fun e => tbF a l e fr t) (fun e => tbL a l e fr t) [(e, s), (e, s)]) = M at K2 M2
  have T9 : (tbL a l e fr t).length ≤ 200 := tb_few2
  generalize tbF a l e fr t = G at K K3 TB F2
  generalize tbL a l e fr t = T at K3 TB TN F2 M2 T9
  clear Q6 E5 X5 B5
  refine K.mono ?_
  clear K
  rintro x w7 ⟨u7, rfl, ho7, hb7⟩
  have B7 := Lib.hid (B6.out.trans (hb7.mono B6.out.size))
  have E7 := Lib.hid (E6.out.on hb7)
  have X7 := Lib.hid (X6.out.on hb7)
  obtain ⟨ua, uc, eu, _⟩ := ho7.rb
  subst eu
  clear hb7 ho7 E6 X6 B6
  by_cases hG : G = 0
  case neg =>
    rw [fault_not hG]
    clear TB TN K2 K3 F2 M2
    go_wp2
    go_ret
    exact ⟨rfl, B7.out⟩
  subst hG
  have EL : 0 ≤ e.len := evF_len (TB.out rfl).1.1
  have F3 : Hid (F = if 100 < T.length then 4 else 0) := Lib.hid (by rw [F2.out]; simp)
  have M3 : Hid (F = 0 → M = if (decide (0 < T.length) && decide (0 < e.len)) = true then [(0, 1)] else []) := Lib.hid (fun h => by rw [M2.out h, sh_same TN.out EL])
  rw [fault_zero rfl]
  clear TB TN F2 M2
  obtain ⟨z0, z1⟩ := X7.out
  have zl := cell_in z0
  go_wp2_with (first | (refine ev_load (by rfl) (.tmp 5) (by rfl) (w.heap.size + 1) e s (by rfl) E7.out ?_) | (refine ev_build2 (by rfl) (.tmp 55) (.tmp 56) (by rfl) (some 57) (by rfl) e s (by rfl) (by rfl) (HV.out _ B7.out) ?_; intro W8 r8 b8; have Q8 := Lib.hid (And.intro r8 b8); clear r8 b8))
  clear z0 z1 zl
  have B8 := Lib.hid (B7.out.trans (Q8.out.2.mono B7.out.size))
  have E8 := Lib.hid (E7.out.on Q8.out.2)
  have X8 := Lib.hid (X7.out.on Q8.out.2)
  refine (K2.out _ _ B8.out Q8.out.1).mono ?_
  rintro x w9 ⟨u9, rfl, ho9, hb9⟩
  have B9 := Lib.hid (B8.out.trans (hb9.mono B8.out.size))
  have E9 := Lib.hid (E8.out.on hb9)
  have X9 := Lib.hid (X8.out.on hb9)
  obtain ⟨va, vc, ev, _⟩ := ho9.rb
  subst ev
  clear hb9 ho9 E7 X7 B7 E8 X8 B8 Q8 K2
  obtain ⟨z0, z1⟩ := X9.out
  have zl := cell_in z0
  go_wp2_with (refine ev_load (by rfl) (.tmp 5) (by rfl) (w.heap.size + 1) e s (by rfl) E9.out ?_)
  clear z0 z1 zl
  refine (K3.out _ B9.out).mono ?_
  rintro x w10 ⟨u10, rfl, ht, hb, _⟩
  have B10 := Lib.hid (B9.out.trans (hb.mono B9.out.size))
  have E10 := E9.out.on hb
  obtain ⟨ta, tc, et, _⟩ := ht
  subst et
  rw [fault_zero rfl]
  have l3 := E10.1.2.2.2.1
  have ll := cell_in l3
  clear hb E9 X9 B9 K3 E10
  by_cases h1 : 100 < T.length
  · have f4 : F = 4 := by rw [F3.out, if_pos h1]
    subst f4
    rw [fault_not (by decide)]
    have n1 : (100 : Int) < (T.length : Int) := by omega
    clear M3 F3
    go_wp2
    go_ret
    exact ⟨by simp, B10.out⟩
  have f0 : F = 0 := by rw [F3.out, if_neg h1]
  have M4 : Hid (M = if (decide (0 < T.length) && decide (0 < e.len)) = true then [(0, 1)] else []) := Lib.hid (M3.out f0)
  subst f0
  rw [fault_zero rfl]
  clear M3 F3
  have T8 : T.length ≤ 100 := by omega
  generalize T.length = n at M4 T8 ⊢
  clear h1 T9
  by_cases h2 : 0 < n
  · have n2 : (0 : Int) < (n : Int) := by omega
    by_cases h3 : 0 < e.len
    · have m1 : M.length = 1 := by rw [M4.out]; simp [h2, h3]
      rw [m1]
      clear m1 M4
      go_wp2
      go_ret
      exact ⟨rfl, B10.out⟩
    · have m1 : M.length = 0 := by rw [M4.out]; simp [h3]
      rw [m1]
      clear m1 M4
      go_wp2
      go_ret
      exact ⟨rfl, B10.out⟩
  · have n2 : ¬ (0 : Int) < (n : Int) := by omega
    have m1 : M.length = 0 := by rw [M4.out]; simp [h2]
    rw [m1]
    clear m1 M4
    go_wp2
    go_ret
    exact ⟨rfl, B10.out⟩
end Go.Proofs.YtngbndlbjiapkaaGreatDoor.Pp
