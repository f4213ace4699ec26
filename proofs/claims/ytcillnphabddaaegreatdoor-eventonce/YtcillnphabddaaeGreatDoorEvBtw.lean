/-
  What is proved here: what event.between answers of any event that is right, out of what ofStart answers (a contract over the translation).
-/
import Derived.Test.YtcillnphabddaaeGreatDoorEvBet
namespace Go.Proofs.YtcillnphabddaaeGreatDoor
open Go.RowKit Cal Txt

/-- An append whose end is known. -/
theorem wpList_app {P : Program} {w : World} {ops : Array Oper} {rest : List Oper} {o : Oper} {a : Act} {Q : Exit → Act → World → Prop} (hgd : o.guard = none) (s x : Operand) (t : TypeId)
    (ho : o.op = .call { callee := .builtin .append, args := #[s, x], argTypes := #[t, t] }) (v vo v' : Value) (w' : World) (hs : a.eval s = v) (hx : a.eval x = vo)
    (hr : ∀ ty, (Builtin.append_ #[t, t] ty #[v, vo]).run P w = .ok v' w') (h : wpList P ops Q rest (a.put o.dst v') w') : wpList P ops Q (o :: rest) a w := by
  refine wpList_plain hgd fun K hK => ?_
  unfold Oper.wp execOp
  simp only [ho, resolve, invoke, builtin, Sem.run_bind, Sem.run_pure, Result.andThen_ok, List.map_toArray, List.map_cons, List.map_nil, hs, hx, hr]
  exact hK _ _ h
set_option maxRecDepth 100000 in
set_option maxHeartbeats 4000000 in
theorem between_of (e : Evt) (s : Evs) (fr t : Int) (l : List Int) (w : World) (hv : EvB w e s) (hr : risB e.nots = true) (hn : e.nots.length ≤ 100) (hm : e.more.length ≤ 100) (hl : l.length ≤ 200000)
    (hK : ∀ W, Below w.heap.size w W → Calls Tryz.prog 16 #[.agg (ecells e s), .int .i64 fr, .int .i64 t] W (OfA W.heap.size W l)) :
    Calls Tryz.prog 8 #[.agg (ecells e s), .int .i64 fr, .int .i64 t] w (LocA w (evL l e fr t)) := by
  obtain ⟨W0, hW, B0, z0, R0, cf, ct⟩ := three_new w e s fr t
  have HB0 := Lib.hid B0
  have HR0 := Lib.hid R0
  have HCF := Lib.hid cf
  have HCT := Lib.hid ct
  have K := Lib.hid (hK W0 B0)
  have HV := Lib.hid (fun W (q : Below w.heap.size w W) => hv.on q)
  have HN := Lib.hid hr
  have EL : Hid (evL l e fr t = Lib.compact (((l ++ e.more).filter (fun x => !outB e fr t x)).mergeSort (fun x y => decide (x ≤ y)))) := Lib.hid rfl
  generalize evL l e fr t = RES at EL ⊢
  clear hK hv hr B0 R0 cf ct
  have hW' := Lib.hid hW
  clear hW
  go_enter Tryz.func8, Tryz.ntmps8
  go_wp2_with fail
  rw [← hW'.out]
  clear hW'
  refine K.out.mono ?_
  rintro x w1 ⟨v1, rfl, ho, hb⟩
  have HB1 := Lib.hid hb
  have HO := Lib.hid ho
  clear hb ho K
  have c13 := (HR0.out.on HB1.out).2.2.1
  have sz1 : W0.heap.size ≤ w1.heap.size := HB1.out.size
  have Bw1 := Lib.hid (HB0.out.trans (HB1.out.mono (by omega)))
  obtain ⟨v2, w2, happ, ho2, hb2⟩ := app_any (vo := s.vo) (mo := e.more) HO.out (HV.out _ Bw1.out).2.2.2.2.1 sz1 (by omega)
  replace happ := Lib.hid happ
  have HO2 := Lib.hid ho2
  have HB2 := Lib.hid (HB1.out.trans hb2)
  clear ho2 hb2
  have CL : Hid (Cls W0.heap.size w2 (.pointer (some ⟨w.heap.size, 0, none⟩)) (.pointer (some ⟨w.heap.size + 1, 0, none⟩)) (.pointer (some ⟨w.heap.size + 2, 0, none⟩)) (outB e fr t)) := Lib.hid (fun x W q => by
    have q2 := HB2.out.trans q
    exact out_any e s _ _ _ fr t x W (HR0.out.onb q2 (by omega)) ((q2.cell (p := ⟨w.heap.size + 1, 0, none⟩) (by show w.heap.size + 1 < _; omega)).trans HCF.out) ((q2.cell (p := ⟨w.heap.size + 2, 0, none⟩) (by show w.heap.size + 2 < _; omega)).trans HCT.out) (HV.out _ (HB0.out.trans (q2.mono (by omega)))).2.2.2.2.2.1 HN.out hn)
  have hlt : w.heap.size < w1.heap.size := by omega
  rcases own_hol2 HO2.out with ⟨a, cap, ev, en, hmax⟩ | ⟨g, cap, ev, hpos, hg, hcap, hmax, hh⟩
  · subst ev
    have ER : Hid (RES = []) := Lib.hid (by rw [EL.out, en]; simp [Lib.compact, Lib.compactUpTo])
    clear en CL HO2 HO
    as_aux_lemma =>
      go_wp2_with (at_builtin; refine wpList_app rfl _ _ 22 rfl _ _ _ _ rfl rfl happ.out ?_; clear c13 happ)
      refine (del_none _ _ _ _ _ _).mono ?_
      rintro x w3 ⟨rfl, hw⟩
      replace hw := hw.symm
      subst hw
      go_wp2_with fail
      refine (Tryz.slices_Sort_int_none _ _ _).mono ?_
      rintro x w3 ⟨rfl, hw⟩
      replace hw := hw.symm
      subst hw
      go_wp2_with fail
      refine (Tryz.slices_Compact_int_empty _ _ _).mono ?_
      rintro x w3 ⟨rfl, hw⟩
      replace hw := hw.symm
      subst hw
      go_wp2
      go_ret2
      refine ⟨.slice a 0 cap, rfl, ?_, HB0.out.trans (HB2.out.mono (by omega))⟩
      rw [ER.out]
      exact ⟨a, cap, rfl, Nat.zero_le _, hmax, Or.inl rfl⟩
  · subst ev
    have HHx := Lib.hid hh
    have HG := Lib.hid hg
    have HM := Lib.hid hmax
    have LL : (l ++ e.more).length ≤ 200100 := by rw [List.length_append]; omega
    have KD := Lib.hid (del_any _ _ _ (outB e fr t) (l ++ e.more) W0.heap.size g 0 cap w2 CL.out hh hg hpos hcap (by omega))
    generalize l ++ e.more = ys at EL KD LL happ HHx hcap hpos
    have HP := Lib.hid hpos
    clear HO2 HO CL hh hg hmax hpos
    as_aux_lemma =>
      go_wp2_with (at_builtin; refine wpList_app rfl _ _ 22 rfl _ _ _ _ rfl rfl happ.out ?_; clear c13 happ)
      refine KD.out.mono ?_
      rintro x w3 ⟨rfl, hh3, hb3⟩
      have LF : (ys.filter (fun x => !outB e fr t x)).length ≤ ys.length := List.length_filter_le _ _
      generalize ys.filter (fun x => !outB e fr t x) = zs at EL LF hh3 ⊢
      have KS := Lib.hid (srt_any zs W0.heap.size g 0 cap w3 hh3 HG.out (by omega))
      have HB3 := Lib.hid (HB2.out.trans hb3)
      clear hh3 hb3 KD
      go_wp2_with fail
      refine KS.out.mono ?_
      rintro x w4 ⟨rfl, hh4, hb4⟩
      have LS : (zs.mergeSort (fun x y => decide (x ≤ y))).length = zs.length := List.length_mergeSort _
      generalize zs.mergeSort (fun x y => decide (x ≤ y)) = us at EL LS hh4
      have KC := cmp_any us W0.heap.size g 0 cap w4 hh4 HG.out (by omega) (by omega)
      rw [LS, ← EL.out] at KC
      have LC : RES.length ≤ cap := by rw [EL.out]; have := Lib.compact_length_le us; omega
      have HKC := Lib.hid KC
      have HLC := Lib.hid LC
      have HB4 := Lib.hid (HB3.out.trans hb4)
      clear hh4 hb4 KS KC LC EL HB3
      go_wp2_with fail
      refine HKC.out.mono ?_
      rintro x w5 ⟨rfl, hh5, hb5⟩
      have HH5 := Lib.hid hh5
      have HB5 := Lib.hid (HB4.out.trans hb5)
      clear hh5 hb5
      go_wp2
      go_ret2
      exact ⟨_, rfl, HH5.out.wr HG.out (by omega) HLC.out HM.out, HB0.out.trans (HB5.out.mono (by omega))⟩
end Go.Proofs.YtcillnphabddaaeGreatDoor
