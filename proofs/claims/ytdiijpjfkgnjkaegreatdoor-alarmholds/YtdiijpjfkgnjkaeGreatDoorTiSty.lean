/-
  What is proved here: what event.staying answers of an event that is right (a contract over the translation).
-/
import Derived.Test.YtdiijpjfkgnjkaeGreatDoorTiCln
import Derived.Test.YtdiijpjfkgnjkaeGreatDoorTiPure
namespace Go.Proofs.YtdiijpjfkgnjkaeGreatDoor
open Go.RowKit Cal Txt

theorem ebetween_any (e : Evt) (s : Evs) (fr t : Int) (w : World) (hv : EvB w e s) (hT : Tab w) (h : evF e = 0) :
    Calls Tryz.prog 27 #[.agg (ecells e s), .int .i64 fr, .int .i64 t] w fun x w' => ∃ v, x = .returned (.tuple #[v, .nilIface]) ∧ Wr w.heap.size w' v (evL (stL e fr t) e fr t) ∧ Below w.heap.size w w' :=
  between_of e s fr t (stL e fr t) w hv (evF_lens h).1.1 (evF_lens h).1.2.1 (evF_lens h).1.2.2 (stL_len h) (fun W' q' => ofStart_any e s fr t W' (hv.on q') (hT.below q') h)
theorem evL_len {l : List Int} {e : Evt} {fr t : Int} (h : evF e = 0) (hl : l.length ≤ 200000) : (evL l e fr t).length ≤ 200100 := by
  have hm := (evF_lens h).1.2.2
  unfold evL
  refine Nat.le_trans (Lib.compact_length_le _) ?_
  rw [List.length_mergeSort]
  refine Nat.le_trans (List.length_filter_le _ _) ?_
  rw [List.length_append]
  omega
/-- Those that stay, as far as k. -/
def stk (c : List (Int × Int)) (k : Nat) (l : List Int) : List (Int × Int) := ((l.take k).filter (fun x => (chOf c x).isNone)).map (fun x => (x, x))
theorem stk_len (c : List (Int × Int)) (k : Nat) (l : List Int) : (stk c k l).length ≤ k := by
  unfold stk
  rw [List.length_map]
  refine Nat.le_trans (List.length_filter_le _ _) ?_
  rw [List.length_take]; omega
theorem stk_yes {c : List (Int × Int)} {k : Nat} {l : List Int} (h : k < l.length) (hn : (chOf c (l.getD k 0)).isSome = false) : stk c (k + 1) l = stk c k l ++ [(l.getD k 0, l.getD k 0)] := by
  unfold stk
  rw [List.take_succ_eq_append_getElem h, List.filter_append, List.map_append]
  rw [List.getD_eq_getElem?_getD, List.getElem?_eq_getElem h] at hn ⊢
  have hn' : (chOf c l[k]).isNone = true := by
    have : (chOf c l[k]).isSome = false := hn
    rw [← Option.not_isSome, this]; rfl
  simp [hn']
theorem stk_no {c : List (Int × Int)} {k : Nat} {l : List Int} (h : k < l.length) (hn : (chOf c (l.getD k 0)).isSome = true) : stk c (k + 1) l = stk c k l := by
  unfold stk
  rw [List.take_succ_eq_append_getElem h, List.filter_append, List.map_append]
  rw [List.getD_eq_getElem?_getD, List.getElem?_eq_getElem h] at hn
  have hn' : (chOf c l[k]).isNone = false := by
    have : (chOf c l[k]).isSome = true := hn
    rw [← Option.not_isSome, this]; rfl
  simp [hn']
theorem stk_end (e : Evt) (fr t : Int) : stk e.chg (evL (stL e fr t) e fr t).length (evL (stL e fr t) e fr t) = sty e fr t := by unfold stk sty; rw [List.take_length]
/-- A row of changes of a call's own, and no error. -/
def RowC (w : World) (l : List (Int × Int)) (x : Ending) (w' : World) : Prop := ∃ v, x = .returned (.tuple #[v, .nilIface]) ∧ w'.ownsRow w.heap.size 54 2 v l.length (Zo.prc l) ∧ Below w.heap.size w w'
set_option maxRecDepth 100000 in
set_option maxHeartbeats 4000000 in
theorem staying_any (e : Evt) (s : Evs) (fr t : Int) (w : World) (hv : EvB w e s) (hT : Tab w) (h : evF e = 0) :
    Calls Tryz.prog 107 #[.agg (ecells e s), .int .i64 fr, .int .i64 t] w (RowC w (sty e fr t)) := by
  obtain ⟨i0, hi, hz0, hz1, hz2⟩ := info_parts info_ti_chg
  have B0 := (Below.refl w.heap.size w).alloc (Nat.le_refl _) (.cells (ecells e s) 29)
  have R0 := EBox.new w e s 29
  have HV := Lib.hid (fun W (q : Below w.heap.size w W) => hv.on q)
  obtain ⟨W0, hW⟩ : ∃ W0, W0 = w.alloc (.cells (ecells e s) 29) := ⟨_, rfl⟩
  rw [← hW] at B0 R0
  have HW := Lib.hid hW
  have HB := Lib.hid B0
  have HE := Lib.hid R0
  have K := Lib.hid (ebetween_any e s fr t W0 (hv.on B0) (hT.below B0) h)
  have cl := (evF_lens h).2.2.2.2.1
  have SE := Lib.hid (stk_end e fr t)
  have LL := evL_len (fr := fr) (t := t) h (stL_len (fr := fr) (t := t) h)
  generalize sty e fr t = R at SE ⊢
  generalize evL (stL e fr t) e fr t = L at K SE LL
  clear hv hT h B0 R0 hW
  go_enter Tryz.func107, Tryz.ntmps107
  go_upto_region 1 with fail
  rw [← HW.out]
  clear HW
  go_wp2_with (refine ev_load ?h1 (.tmp 3) ?h2 w.heap.size e s ?h3 HE.out ?h4; (case h1 => rfl); (case h2 => rfl); (case h3 => rfl))
  refine K.out.mono ?_
  rintro y w1 ⟨v, rfl, hw, hb⟩
  have B1 := Lib.hid (HB.out.trans (hb.mono HB.out.size))
  have E1 := Lib.hid (HE.out.on hb)
  obtain ⟨la, lc, rfl, lcell⟩ := hw.ints
  have LC := Lib.hid lcell
  clear hb hw K HB HE lcell
  go_wp2_with fail
  go_loopw [10, 12, 13, 14, 27] (fun lv _ _ _ iv wr => ∃ k : Nat, k ≤ L.length ∧ iv = .int .i64 k ∧ wr.ownsRow w1.heap.size 54 2 lv (stk e.chg k L).length (Zo.prc (stk e.chg k L)) ∧ Below w1.heap.size w1 wr) (fun _ _ _ _ iv _ => L.length - (intOf iv).toNat)
  case atStart => exact ⟨0, Nat.zero_le _, rfl, World.ownsRow_nil _ _ _ _, Below.refl _ _⟩
  case round =>
    obtain ⟨k, hk, rfl, hown, hB⟩ := hrel
    have HO := Lib.hid hown
    have HBa := Lib.hid hB
    have fl := stk_len e.chg k L
    clear hown
    by_cases hlt : k < L.length
    · rcases LC.out with hc | ⟨lb, lo, rfl, hc⟩
      · rw [hc] at hlt; simp at hlt
      have k0 := hc k hlt
      have k1 := (hB.cell (p := ⟨lb, lo + k, none⟩) (ecell_in k0)).trans k0
      have lb2 := ecell_in k1
      have Ea := Lib.hid (E1.out.on hB)
      have K := Lib.hid (changeOf_any e s (L.getD k 0) wr (HV.out _ (B1.out.trans (hB.mono B1.out.size))).2.2.2.2.2.2.1 (by omega))
      have SY := Lib.hid (fun q => stk_yes (c := e.chg) hlt q)
      have SN := Lib.hid (fun q => stk_no (c := e.chg) hlt q)
      obtain ⟨x, hx⟩ : ∃ x, x = L.getD k 0 := ⟨_, rfl⟩
      rw [← hx] at k1 K SY SN
      generalize chA e.chg x = CA at K
      generalize chT e.chg x = CT at K
      generalize (chOf e.chg x).isSome = CS at K SY SN
      generalize stk e.chg k L = xs at HO fl SY SN
      clear hc k0 hx hB
      go_wp2_with (refine ev_load ?k1 (.tmp 3) ?k2 w.heap.size e s ?k3 Ea.out ?k4; (case k1 => rfl); (case k2 => rfl); (case k3 => rfl))
      clear k1 lb2
      refine K.out.mono ?_
      rintro y w2 ⟨rfl, hb⟩
      have b3 : Below wr.heap.size wr (w2.alloc (.cells #[.int .i64 CA, .int .i64 CT] 54)) := hb.alloc hb.size _
      have HO3 := Lib.hid (ow_below HO.out b3)
      have B3 := Lib.hid b3
      have sz3 : w1.heap.size ≤ (w2.alloc (.cells #[.int .i64 CA, .int .i64 CT] 54)).heap.size := Nat.le_trans HBa.out.size b3.size
      obtain ⟨W3, hW3⟩ : ∃ W3, W3 = w2.alloc (.cells #[.int .i64 CA, .int .i64 CT] 54) := ⟨_, rfl⟩
      rw [← hW3] at HO3 B3 sz3
      have HW3 := Lib.hid hW3
      clear hb K b3 hW3
      go_upto_region 9 with fail
      rw [← HW3.out]
      clear HW3
      rcases CS with _ | _
      · have N1 := Lib.hid (SY.out rfl)
        clear SY SN
        go_wp2_with (at_builtin; refine wpList_append_own _ rfl _ _ 26 rfl w1.heap.size 54 i0 (.agg #[.int .i64 0, .int .i64 0]) 2 16 Tryz.underlying26 hi hz0 hz1 hz2 rfl (by decide) _ _ _ rfl (HO3.out.alloc _) ⟨W3.heap.size, 0, none⟩ 1 1 [.int .i64 x, .int .i64 x] rfl rfl ?d1 ?d2 ?d3 ?d4 ?d5 ?_)
        case d1 =>
          intro j u hj
          match j, hj with
          | 0, hj => simp at hj; subst hj; simp [Addr.add]
          | 1, hj => simp at hj; subst hj; simp [Addr.add]
        case d2 => intro u hu; simp at hu; subst hu; rfl
        case d3 => unfold maxLen; omega
        case d4 => omega
        case d5 => simp; omega
        intro v' w5 hown' hgrow _
        have Q2 := Lib.hid (ow_grow HBa.out.size HBa.out B3.out HO.out hgrow)
        have Q1 := Lib.hid hown'
        clear hown' hgrow HO HO3
        go_wp2
        go_roundw
        case rel => exact ⟨k + 1, by omega, by go_num, by rw [N1.out, List.length_append, Zo.prs_snoc]; exact Q1.out, Q2.out⟩
        case measure => simp [intOf]; omega
      · have N1 := Lib.hid (SN.out rfl)
        have Q2 := Lib.hid (HBa.out.trans (B3.out.mono HBa.out.size))
        clear SY SN
        go_wp2
        go_roundw
        case rel => exact ⟨k + 1, by omega, by go_num, by rw [N1.out]; exact HO3.out, Q2.out⟩
        case measure => simp [intOf]; omega
    · have ek : k = L.length := by omega
      have O9 := HO.out
      rw [ek, SE.out] at O9
      have OZ := Lib.hid (show wr.ownsRow w.heap.size 54 2 _ R.length (Zo.prc R) from ⟨O9.1, O9.2.imp id (fun ⟨g, cap, cur, h1, h2, h3⟩ => ⟨g, cap, cur, h1, Nat.le_trans B1.out.size h2, h3⟩)⟩)
      have B9 := Lib.hid (B1.out.trans (hB.mono B1.out.size))
      clear O9 HO ek
      go_wp2
      go_ret2
      exact ⟨_, rfl, OZ.out, B9.out⟩
end Go.Proofs.YtdiijpjfkgnjkaeGreatDoor
