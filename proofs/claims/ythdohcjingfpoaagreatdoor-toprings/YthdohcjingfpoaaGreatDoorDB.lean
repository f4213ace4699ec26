/-
  What is proved here: what event.staying answers of an event that is right (a contract over the translation).
  What is proved here: what the closures of event.movedInto and event.asker, and event.asker itself, answer (contracts over the translation).
  What is proved here: what event.movedInto and event.Real answer of an event that is right (contracts over the translation).
-/
import Derived.Test.YthdohcjingfpoaaGreatDoorRK
import Derived.Deep.RegionHeld3
namespace Go.Proofs.YthdohcjingfpoaaGreatDoor
open Go.RowKit Cal Txt

theorem ebetween_any (e : Evt) (s : Evs) (fr t : Int) (w : World) (hv : EvB w e s) (hT : Tab w) (h : evF e = 0) :
    Calls Tryz.prog 207 #[.agg (ecells e s), .int .i64 fr, .int .i64 t] w fun x w' => ∃ v, x = .returned (.tuple #[v, .nilIface]) ∧ Wr w.heap.size w' v (evL (stL e fr t) e fr t) ∧ Below w.heap.size w w' :=
  between_of e s fr t (stL e fr t) w hv (evF_lens h).1.1 (evF_lens h).1.2.1 (evF_lens h).1.2.2 (stL_len h) (fun W' q' => ofStart_any e s fr t W' (hv.on q') (hT.below q') h)
theorem evL_len {l : List Int} {e : Evt} {fr t : Int} (h : evF e = 0) (hl : l.length ≤ 200000) : (evL l e fr t).length ≤ 200100 := by
  have hm := (evF_lens h).1.2.2
  unfold evL
  refine Nat.le_trans (Lib.compact_length_le _) ?_
  rw [List.length_mergeSort]
  refine Nat.le_trans (List.length_filter_le _ _) ?_
  rw [List.length_append]
  omega
/-- Those that stay, as far as k. -/
def stk (c : List (Int × Int)) (k : Nat) (l : List Int) : List (Int × Int) := ((l.take k).filter (fun x => (chOf c x).isNone)).map (fun x => (x, x))
theorem stk_len (c : List (Int × Int)) (k : Nat) (l : List Int) : (stk c k l).length ≤ k := by
  unfold stk
  rw [List.length_map]
  refine Nat.le_trans (List.length_filter_le _ _) ?_
  rw [List.length_take]; omega
theorem stk_yes {c : List (Int × Int)} {k : Nat} {l : List Int} (h : k < l.length) (hn : (chOf c (l.getD k 0)).isSome = false) : stk c (k + 1) l = stk c k l ++ [(l.getD k 0, l.getD k 0)] := by
  unfold stk
  rw [List.take_succ_eq_append_getElem h, List.filter_append, List.map_append]
  rw [List.getD_eq_getElem?_getD, List.getElem?_eq_getElem h] at hn ⊢
  have hn' : (chOf c l[k]).isNone = true := by
    have : (chOf c l[k]).isSome = false := hn
    rw [← Option.not_isSome, this]; rfl
  simp [hn']
theorem stk_no {c : List (Int × Int)} {k : Nat} {l : List Int} (h : k < l.length) (hn : (chOf c (l.getD k 0)).isSome = true) : stk c (k + 1) l = stk c k l := by
  unfold stk
  rw [List.take_succ_eq_append_getElem h, List.filter_append, List.map_append]
  rw [List.getD_eq_getElem?_getD, List.getElem?_eq_getElem h] at hn
  have hn' : (chOf c l[k]).isNone = false := by
    have : (chOf c l[k]).isSome = true := hn
    rw [← Option.not_isSome, this]; rfl
  simp [hn']
theorem stk_end (e : Evt) (fr t : Int) : stk e.chg (evL (stL e fr t) e fr t).length (evL (stL e fr t) e fr t) = sty e fr t := by unfold stk sty; rw [List.take_length]
/-- A row of changes of a call's own, and no error. -/
def RowC (w : World) (l : List (Int × Int)) (x : Ending) (w' : World) : Prop := ∃ v, x = .returned (.tuple #[v, .nilIface]) ∧ w'.ownsRow w.heap.size 135 2 v l.length (Zo.prc l) ∧ Below w.heap.size w w'
set_option maxRecDepth 100000 in
set_option maxHeartbeats 4000000 in
theorem staying_any (e : Evt) (s : Evs) (fr t : Int) (w : World) (hv : EvB w e s) (hT : Tab w) (h : evF e = 0) :
    Calls Tryz.prog 189 #[.agg (ecells e s), .int .i64 fr, .int .i64 t] w (RowC w (sty e fr t)) := by
  obtain ⟨i0, hi, hz0, hz1, hz2⟩ := info_parts info_ti_chg
  have B0 := (Below.refl w.heap.size w).alloc (Nat.le_refl _) (.cells (ecells e s) 40)
  have R0 := EBox.new w e s 40
  have HV := Lib.hid (fun W (q : Below w.heap.size w W) => hv.on q)
  obtain ⟨W0, hW⟩ : ∃ W0, W0 = w.alloc (.cells (ecells e s) 40) := ⟨_, rfl⟩
  rw [← hW] at B0 R0
  have HW := Lib.hid hW
  have HB := Lib.hid B0
  have HE := Lib.hid R0
  have K := Lib.hid (ebetween_any e s fr t W0 (hv.on B0) (hT.below B0) h)
  have cl := (evF_lens h).2.2.2.2.1
  have SE := Lib.hid (stk_end e fr t)
  have LL := evL_len (fr := fr) (t := t) h (stL_len (fr := fr) (t := t) h)
  generalize sty e fr t = R at SE ⊢
  generalize evL (stL e fr t) e fr t = L at K SE LL
  clear hv hT h B0 R0 hW
  go_enter Tryz.func189, Tryz.ntmps189
  go_upto_region 1 with fail
  rw [← HW.out]
  clear HW
  go_wp2_with (refine ev_load ?h1 (.tmp 3) ?h2 w.heap.size e s ?h3 HE.out ?h4; (case h1 => rfl); (case h2 => rfl); (case h3 => rfl))
  refine K.out.mono ?_
  rintro y w1 ⟨v, rfl, hw, hb⟩
  have B1 := Lib.hid (HB.out.trans (hb.mono HB.out.size))
  have E1 := Lib.hid (HE.out.on hb)
  obtain ⟨la, lc, rfl, lcell⟩ := hw.ints
  have LC := Lib.hid lcell
  clear hb hw K HB HE lcell
  go_wp2_with fail
  go_loopw [10, 12, 13, 14, 27] (fun lv _ _ _ iv wr => ∃ k : Nat, k ≤ L.length ∧ iv = .int .i64 k ∧ wr.ownsRow w1.heap.size 135 2 lv (stk e.chg k L).length (Zo.prc (stk e.chg k L)) ∧ Below w1.heap.size w1 wr) (fun _ _ _ _ iv _ => L.length - (intOf iv).toNat)
  case atStart => exact ⟨0, Nat.zero_le _, rfl, World.ownsRow_nil _ _ _ _, Below.refl _ _⟩
  case round =>
    obtain ⟨k, hk, rfl, hown, hB⟩ := hrel
    have HO := Lib.hid hown
    have HBa := Lib.hid hB
    have fl := stk_len e.chg k L
    clear hown
    by_cases hlt : k < L.length
    · rcases LC.out with hc | ⟨lb, lo, rfl, hc⟩
      · rw [hc] at hlt; simp at hlt
      have k0 := hc k hlt
      have k1 := (hB.cell (p := ⟨lb, lo + k, none⟩) (ecell_in k0)).trans k0
      have lb2 := ecell_in k1
      have Ea := Lib.hid (E1.out.on hB)
      have K := Lib.hid (changeOf_any e s (L.getD k 0) wr (HV.out _ (B1.out.trans (hB.mono B1.out.size))).2.2.2.2.2.2.1 (by omega))
      have SY := Lib.hid (fun q => stk_yes (c := e.chg) hlt q)
      have SN := Lib.hid (fun q => stk_no (c := e.chg) hlt q)
      obtain ⟨x, hx⟩ : ∃ x, x = L.getD k 0 := ⟨_, rfl⟩
      rw [← hx] at k1 K SY SN
      generalize chA e.chg x = CA at K
      generalize chT e.chg x = CT at K
      generalize (chOf e.chg x).isSome = CS at K SY SN
      generalize stk e.chg k L = xs at HO fl SY SN
      clear hc k0 hx hB
      go_wp2_with (refine ev_load ?k1 (.tmp 3) ?k2 w.heap.size e s ?k3 Ea.out ?k4; (case k1 => rfl); (case k2 => rfl); (case k3 => rfl))
      clear k1 lb2
      refine K.out.mono ?_
      rintro y w2 ⟨rfl, hb⟩
      have b3 : Below wr.heap.size wr (w2.alloc (.cells #[.int .i64 CA, .int .i64 CT] 135)) := hb.alloc hb.size _
      have HO3 := Lib.hid (ow_below HO.out b3)
      have B3 := Lib.hid b3
      have sz3 : w1.heap.size ≤ (w2.alloc (.cells #[.int .i64 CA, .int .i64 CT] 135)).heap.size := Nat.le_trans HBa.out.size b3.size
      obtain ⟨W3, hW3⟩ : ∃ W3, W3 = w2.alloc (.cells #[.int .i64 CA, .int .i64 CT] 135) := ⟨_, rfl⟩
      rw [← hW3] at HO3 B3 sz3
      have HW3 := Lib.hid hW3
      clear hb K b3 hW3
      go_upto_region 9 with fail
      rw [← HW3.out]
      clear HW3
      rcases CS with _ | _
      · have N1 := Lib.hid (SY.out rfl)
        clear SY SN
        go_wp2_with (at_builtin; refine wpList_append_own _ rfl _ _ 38 rfl w1.heap.size 135 i0 (.agg #[.int .i64 0, .int .i64 0]) 2 16 Tryz.underlying38 hi hz0 hz1 hz2 rfl (by decide) _ _ _ rfl (HO3.out.alloc _) ⟨W3.heap.size, 0, none⟩ 1 1 [.int .i64 x, .int .i64 x] rfl rfl ?d1 ?d2 ?d3 ?d4 ?d5 ?_)
        case d1 =>
          intro j u hj
          match j, hj with
          | 0, hj => simp at hj; subst hj; simp [Addr.add]
          | 1, hj => simp at hj; subst hj; simp [Addr.add]
        case d2 => intro u hu; simp at hu; subst hu; rfl
        case d3 => unfold maxLen; omega
        case d4 => omega
        case d5 => simp; omega
        intro v' w5 hown' hgrow _
        have Q2 := Lib.hid (ow_grow HBa.out.size HBa.out B3.out HO.out hgrow)
        have Q1 := Lib.hid hown'
        clear hown' hgrow HO HO3
        go_wp2
        go_roundw
        case rel => exact ⟨k + 1, by omega, by go_num, by rw [N1.out, List.length_append, Zo.prs_snoc]; exact Q1.out, Q2.out⟩
        case measure => simp [intOf]; omega
      · have N1 := Lib.hid (SN.out rfl)
        have Q2 := Lib.hid (HBa.out.trans (B3.out.mono HBa.out.size))
        clear SY SN
        go_wp2
        go_roundw
        case rel => exact ⟨k + 1, by omega, by go_num, by rw [N1.out]; exact HO3.out, Q2.out⟩
        case measure => simp [intOf]; omega
    · have ek : k = L.length := by omega
      have O9 := HO.out
      rw [ek, SE.out] at O9
      have OZ := Lib.hid (show wr.ownsRow w.heap.size 135 2 _ R.length (Zo.prc R) from ⟨O9.1, O9.2.imp id (fun ⟨g, cap, cur, h1, h2, h3⟩ => ⟨g, cap, cur, h1, Nat.le_trans B1.out.size h2, h3⟩)⟩)
      have B9 := Lib.hid (B1.out.trans (hB.mono B1.out.size))
      clear O9 HO ek
      go_wp2
      go_ret2
      exact ⟨_, rfl, OZ.out, B9.out⟩
end Go.Proofs.YthdohcjingfpoaaGreatDoor
namespace Go.Proofs.YthdohcjingfpoaaGreatDoor
open Go.RowKit Cal Txt

theorem away_any (fr t : Int) (c : Int × Int) (fB tB : Nat) (w : World) (hf : w.cell? ⟨fB, 0, none⟩ = some (.int .i64 fr)) (ht : w.cell? ⟨tB, 0, none⟩ = some (.int .i64 t)) :
    Calls Tryz.prog 209 #[.agg #[.int .i64 c.1, .int .i64 c.2], .pointer (some ⟨fB, 0, none⟩), .pointer (some ⟨tB, 0, none⟩)] w fun e w' => e = .returned (.bool (!decide (fr ≤ c.2 ∧ c.2 ≤ t))) ∧ Below w.heap.size w w' := by
  have B0 := (Below.refl w.heap.size w).alloc (Nat.le_refl _) (.cells #[.int .i64 c.1, .int .i64 c.2] 135)
  have HB := Lib.hid B0
  have f1 := (B0.cell (p := ⟨fB, 0, none⟩) (ecell_in hf)).trans hf
  have t1 := (B0.cell (p := ⟨tB, 0, none⟩) (ecell_in ht)).trans ht
  have fl := ecell_in hf
  have tl := ecell_in ht
  clear B0 hf ht
  rcases hq : decide (fr ≤ c.2 ∧ c.2 ≤ t) with _ | _
  all_goals
    go_enter Tryz.func209, Tryz.ntmps209
    go_wp2_with (go_at_call 101; refine (isFrom_any _ _ _ _).mono ?_; rintro e w' ⟨rfl, hw⟩; replace hw := hw.symm; subst hw; rw [hq])
    go_ret
    exact ⟨rfl, HB.out⟩
theorem search2_any (l : List Int) (v : Value) (x : Int) (w : World) (hv : Ints w v l) (hr : l.Pairwise (· < ·)) (hl : l.length ≤ 1000000) :
    Calls Tryz.prog 229 #[v, .int .i64 x] w fun e w' => (∃ k, e = .returned (.tuple #[.int .i64 k, .bool (l.contains x)])) ∧ ∃ q, w' = w.drewN q := by
  obtain ⟨a, cap, rfl, hc⟩ := hv
  rcases hc with rfl | ⟨b, off, rfl, hc⟩
  · refine (Tryz.slices_BinarySearch_int_empty a cap x w).mono ?_
    rintro e w' ⟨rfl, rfl⟩
    exact ⟨⟨_, rfl⟩, 0, rfl⟩
  · refine (Tryz.slices_BinarySearch_int b off l.length cap l x w (Nat.le_refl _) (by omega) hc (by rw [List.take_length]; exact hr.imp (fun q => Int.le_of_lt q))).mono ?_
    rintro e w' ⟨rfl, q, rfl⟩
    exact ⟨⟨_, by rw [List.take_length]⟩, q, rfl⟩
set_option maxRecDepth 100000 in
theorem ask1_at (e : Evt) (s : Evs) (x : Int) (eB : Nat) (w : World) (hE : EBox w eB e s) (hv : EvB w e s) (hT : Tab w) (h : evF e = 0) :
    Calls Tryz.prog 235 #[.int .i64 x, .pointer (some ⟨eB, 0, none⟩)] w fun y w' => y = .returned (.bool (isEb e x)) ∧ Below w.heap.size w w' := by
  have K := Lib.hid (ebetween_any e s x x w hv hT h)
  have HE := Lib.hid hE
  have EI : Hid (isEb e x = !((evL (stL e x x) e x x).length == 0)) := Lib.hid rfl
  generalize isEb e x = R at EI ⊢
  generalize evL (stL e x x) e x x = L at K EI
  clear hE hv hT h
  go_enter Tryz.func235, Tryz.ntmps235
  go_wp2_with (refine ev_load ?h1 (.tmp 1) ?h2 eB e s ?h3 HE.out ?h4; (case h1 => rfl); (case h2 => rfl); (case h3 => rfl))
  refine K.out.mono ?_
  rintro y w1 ⟨v, rfl, hw, hb⟩
  obtain ⟨a, c, rfl, _⟩ := hw.ints
  have B1 := Lib.hid hb
  clear hb hw K HE
  generalize L.length = n at EI
  go_wp2
  go_ret
  exact ⟨ret_bool (by rw [EI.out, Bool.eq_iff_iff]; simp; omega), B1.out⟩
set_option maxRecDepth 100000 in
theorem ask2_at (l : List Int) (v : Value) (x : Int) (lB : Nat) (w : World) (hc : w.cell? ⟨lB, 0, none⟩ = some v) (hv : Ints w v l) (hr : l.Pairwise (· < ·)) (hl : l.length ≤ 1000000) :
    Calls Tryz.prog 236 #[.int .i64 x, .pointer (some ⟨lB, 0, none⟩)] w fun y w' => y = .returned (.bool (l.contains x)) ∧ Below w.heap.size w w' := by
  have K := Lib.hid (search2_any l v x w hv hr hl)
  have bl := ecell_in hc
  generalize l.contains x = R at K ⊢
  obtain ⟨a, c, rfl, _⟩ := hv
  clear hr hl
  go_enter Tryz.func236, Tryz.ntmps236
  go_wp2_with fail
  refine K.out.mono ?_
  rintro y w1 ⟨⟨k, rfl⟩, q, rfl⟩
  clear K hc
  go_wp2
  go_ret
  exact ⟨rfl, blw_drewN _ _ _⟩
/-- Blocks from n on are as they were. -/
def Kp (n : Nat) (w W : World) : Prop := ∀ k, n ≤ k → k < w.heap.size → W.heap[k]? = w.heap[k]?
theorem Kp.cell {n : Nat} {w W : World} (h : Kp n w W) {p : Addr} (h1 : n ≤ p.block) (h2 : p.block < w.heap.size) : W.cell? p = w.cell? p := by simp [World.cell?, h p.block h1 h2]
theorem kp_apt {n b : Nat} {w W : World} (h : Apt b w W) (hb : b < n) : Kp n w W := fun k k1 k2 => h.block k k2 (by omega)
theorem Kp.trans {n : Nat} {w W V : World} (h : Kp n w W) (k : Kp n W V) (hs : w.heap.size ≤ W.heap.size) : Kp n w V := fun i i1 i2 => (k i i1 (by omega)).trans (h i i1 i2)
theorem kp_below {n : Nat} {w W : World} (h : Below w.heap.size w W) : Kp n w W := fun k _ k2 => h.block k k2
/-- What asker answers: a question, and how it is answered ever after. -/
def AskA (w : World) (e : Evt) (s : Evs) (fr t : Int) (x : Ending) (w' : World) : Prop :=
  ∃ (g B : Nat) (q : Int → Bool), x = .returned (.tuple #[.func (.func g) #[] #[.pointer (some ⟨B, 0, none⟩)], .nilIface]) ∧ Below w.heap.size w w' ∧ (∀ args W, (callFunc g args).run Tryz.prog W = .ok (.enter g args) W) ∧
    (∀ y, fr ≤ y → y ≤ t → ist y = true → q y = isEb e y) ∧
    ∀ W, Kp w.heap.size w' W → EvB W e s → Tab W → ∀ y, Calls Tryz.prog g #[.int .i64 y, .pointer (some ⟨B, 0, none⟩)] W fun z W' => z = .returned (.bool (q y)) ∧ Below W.heap.size W W'
theorem apt_ebox {w W : World} {b eB : Nat} {e : Evt} {s : Evs} (h : EBox w eB e s) (q : Apt b w W) (hn : eB ≠ b) : EBox W eB e s := by
  have l := h.lt
  have k : ∀ (o : Nat) (v : Value), w.cell? ⟨eB, o, none⟩ = some v → W.cell? ⟨eB, o, none⟩ = some v := fun o v z => (q.cell (p := ⟨eB, o, none⟩) l hn).trans z
  obtain ⟨⟨a0, a1, a2, a3, a4⟩, ⟨b0, b1, b2, b3, b4, b5, b6, b7⟩, c0, c1, c2, c3⟩ := h
  exact ⟨⟨k _ _ a0, k _ _ a1, k _ _ a2, k _ _ a3, k _ _ a4⟩, ⟨k _ _ b0, k _ _ b1, k _ _ b2, k _ _ b3, k _ _ b4, k _ _ b5, k _ _ b6, k _ _ b7⟩, k _ _ c0, k _ _ c1, k _ _ c2, k _ _ c3⟩
theorem kp_ebox {w W : World} {n eB : Nat} {e : Evt} {s : Evs} (h : EBox w eB e s) (q : Kp n w W) (hn : n ≤ eB) : EBox W eB e s := by
  have l := h.lt
  have k : ∀ (o : Nat) (v : Value), w.cell? ⟨eB, o, none⟩ = some v → W.cell? ⟨eB, o, none⟩ = some v := fun o v z => (q.cell (p := ⟨eB, o, none⟩) hn l).trans z
  obtain ⟨⟨a0, a1, a2, a3, a4⟩, ⟨b0, b1, b2, b3, b4, b5, b6, b7⟩, c0, c1, c2, c3⟩ := h
  exact ⟨⟨k _ _ a0, k _ _ a1, k _ _ a2, k _ _ a3, k _ _ a4⟩, ⟨k _ _ b0, k _ _ b1, k _ _ b2, k _ _ b3, k _ _ b4, k _ _ b5, k _ _ b6, k _ _ b7⟩, k _ _ c0, k _ _ c1, k _ _ c2, k _ _ c3⟩
theorem wr_kp {w W : World} {n0 n : Nat} {v : Value} {l : List Int} (h : Wr n0 w v l) (q : Kp n w W) (hn : n ≤ n0) : Ints W v l := by
  obtain ⟨a, cap, rfl, _, _, hc⟩ := h.open
  refine ⟨a, cap, rfl, ?_⟩
  rcases hc with hc | ⟨g, off, rfl, hg, hh⟩
  · exact Or.inl hc
  · refine Or.inr ⟨g, off, rfl, fun i hi => ?_⟩
    have c := (hh i hi).1
    exact (q.cell (p := ⟨g, off + i, none⟩) (by show n ≤ g; omega) (ecell_in c)).trans c
theorem contains_is {e : Evt} {fr t y : Int} (h : evF e = 0) (hf : ist fr = true) (ht : ist t = true) (h1 : fr ≤ y) (h2 : y ≤ t) (hy : ist y = true) : (evL (stL e fr t) e fr t).contains y = isEb e y := by
  rw [Bool.eq_iff_iff, isEb_iff h hy, List.contains_iff_mem, evL_is h hf ht]
  exact ⟨fun q => q.1, fun q => ⟨q, h1, h2⟩⟩
set_option maxRecDepth 100000 in
set_option maxHeartbeats 2000000 in
theorem asker_any (e : Evt) (s : Evs) (fr t : Int) (w : World) (hv : EvB w e s) (hT : Tab w) (h : evF e = 0) (hf : ist fr = true) (ht : ist t = true) :
    Calls Tryz.prog 211 #[.agg (ecells e s), .int .i64 fr, .int .i64 t] w (AskA w e s fr t) := by
  have B0 := (Below.refl w.heap.size w).alloc (Nat.le_refl _) (.cells (ecells e s) 40)
  have R0 := EBox.new w e s 40
  obtain ⟨W0, hW⟩ : ∃ W0, W0 = w.alloc (.cells (ecells e s) 40) := ⟨_, rfl⟩
  rw [← hW] at B0 R0
  have HW := Lib.hid hW
  have HB := Lib.hid B0
  have HE := Lib.hid R0
  have K := Lib.hid (ebetween_any e s fr t W0 (hv.on B0) (hT.below B0) h)
  have H0 := Lib.hid (And.intro h (And.intro hf ht))
  have LL := Lib.hid (evL_len (fr := fr) (t := t) h (stL_len (fr := fr) (t := t) h))
  have c7 := R0.2.1.2.2.1
  have rl := R0.lt
  clear hv hT h hf ht B0 R0 hW
  rcases hq : (e.rule.count == 0) with _ | _
  case true =>
    have Z : Hid (AskA w e s fr t (.returned (.tuple #[.func (.func 235) #[] #[.pointer (some ⟨w.heap.size, 0, none⟩)], .nilIface])) W0) := Lib.hid
      ⟨235, w.heap.size, isEb e, rfl, HB.out, enters_of Tryz.func235 (by kernel_rfl) rfl, fun y _ _ _ => rfl, fun W qa hv' hT' y => ask1_at e s y w.heap.size W (kp_ebox HE.out qa (Nat.le_refl _)) hv' hT' H0.out.1⟩
    clear K
    go_enter Tryz.func211, Tryz.ntmps211
    go_upto_region 1 with fail
    rw [← HW.out]
    clear HW
    go_wp2
    go_ret2
    exact Z.out
  go_enter Tryz.func211, Tryz.ntmps211
  go_upto_region 1 with fail
  rw [← HW.out]
  clear HW
  go_wp2_with (refine ev_load ?h1 (.tmp 3) ?h2 w.heap.size e s ?h3 HE.out ?h4; (case h1 => rfl); (case h2 => rfl); (case h3 => rfl))
  refine K.out.mono ?_
  rintro y w1 ⟨v, rfl, hw, hb⟩
  have bA : Below w1.heap.size w1 (w1.alloc (.cells #[v] 34)) := (Below.refl _ _).alloc (Nat.le_refl _) _
  have Z : Hid (AskA w e s fr t (.returned (.tuple #[.func (.func 236) #[] #[.pointer (some ⟨w1.heap.size, 0, none⟩)], .nilIface])) (w1.alloc (.cells #[v] 34))) := Lib.hid (by
    have B1 := HB.out.trans (hb.mono HB.out.size)
    have cv : (w1.alloc (.cells #[v] 34)).cell? ⟨w1.heap.size, 0, none⟩ = some v := by simp
    refine ⟨236, w1.heap.size, fun z => (evL (stL e fr t) e fr t).contains z, rfl, B1.alloc B1.size _, enters_of Tryz.func236 (by kernel_rfl) rfl, fun z z1 z2 z3 => contains_is H0.out.1 H0.out.2.1 H0.out.2.2 z1 z2 z3, fun W qa hv' hT' z => ?_⟩
    have w1l : w.heap.size ≤ w1.heap.size := B1.size
    refine ask2_at _ v z w1.heap.size W ((qa.cell (p := ⟨w1.heap.size, 0, none⟩) w1l (ecell_in cv)).trans cv) ?_ (evL_rise _ _ _ _) (by have := LL.out; omega)
    have hw2 : Wr W0.heap.size (w1.alloc (.cells #[v] 34)) v (evL (stL e fr t) e fr t) := ow_below hw bA
    exact wr_kp hw2 qa HB.out.size)
  obtain ⟨a, c, rfl, _⟩ := hw.ints
  clear hb hw K HB HE c7 bA
  go_wp2
  go_ret2
  exact Z.out
end Go.Proofs.YthdohcjingfpoaaGreatDoor
namespace Go.Proofs.YthdohcjingfpoaaGreatDoor
open Go.RowKit Cal Txt

theorem isnt_any (g B : Nat) (q : Int → Bool) (fB : Nat) (c : Int × Int) (w : World) (hc : w.cell? ⟨fB, 0, none⟩ = some (.func (.func g) #[] #[.pointer (some ⟨B, 0, none⟩)])) (eg : ∀ args W, (callFunc g args).run Tryz.prog W = .ok (.enter g args) W)
    (hK : ∀ W, Below w.heap.size w W → Calls Tryz.prog g #[.int .i64 c.1, .pointer (some ⟨B, 0, none⟩)] W fun z W' => z = .returned (.bool (q c.1)) ∧ Below W.heap.size W W') :
    Calls Tryz.prog 212 #[.agg #[.int .i64 c.1, .int .i64 c.2], .pointer (some ⟨fB, 0, none⟩)] w fun e w' => e = .returned (.bool (!q c.1)) ∧ Below w.heap.size w w' := by
  have B0 := (Below.refl w.heap.size w).alloc (Nat.le_refl _) (.cells #[.int .i64 c.1, .int .i64 c.2] 135)
  have HB := Lib.hid B0
  have c1 := (B0.cell (p := ⟨fB, 0, none⟩) (ecell_in hc)).trans hc
  have cl := ecell_in hc
  have K := Lib.hid (hK _ B0)
  clear B0 hc hK
  generalize q c.1 = R at K ⊢
  go_enter Tryz.func212, Tryz.ntmps212
  go_wp2_with fail
  refine K.out.mono ?_
  rintro y w1 ⟨rfl, hb⟩
  have B1 := Lib.hid (HB.out.trans (hb.mono HB.out.size))
  clear hb K HB c1
  go_wp2
  go_ret
  exact ⟨rfl, B1.out⟩
theorem del2_none (a : Option Addr) (cap : Nat) (c1 c2 : Value) (w : World) :
    Calls Tryz.prog 210 #[.slice a 0 cap, .func (.func 209) #[] #[c1, c2]] w fun e w' => e = .returned (.slice a 0 cap) ∧ w' = w := by
  have KI : Calls Tryz.prog 234 #[.slice a 0 cap, .func (.func 209) #[] #[c1, c2]] w fun e w' => e = .returned (.int .i64 (-1)) ∧ w' = w := by
    go_enter Tryz.func234, Tryz.ntmps234
    go_wp2
    go_loop [8] (fun i => i = .int .i64 0) (fun _ => 0)
    case atStart => rfl
    case round =>
      subst hrel
      go_wp2
      go_ret
      exact ⟨rfl, rfl⟩
  have HK := Lib.hid KI
  clear KI
  go_enter Tryz.func210, Tryz.ntmps210
  go_wp2_with fail
  refine HK.out.mono ?_
  rintro e w1 ⟨rfl, hw⟩
  replace hw := hw.symm
  subst hw
  go_wp2
  go_ret
  exact ⟨rfl, rfl⟩
/-- Those that are moved into a stretch, whoever asks. -/
def inS (fr t : Int) (c : List (Int × Int)) : List (Int × Int) := c.filter (fun x => !(!decide (fr ≤ x.2 ∧ x.2 ≤ t)))
theorem inS_eq (fr t : Int) (c : List (Int × Int)) : inS fr t c = c.filter (fun x => decide (fr ≤ x.2 ∧ x.2 ≤ t)) := List.filter_congr (fun _ _ => Bool.not_not _)
theorem getD_mem {l : List (Int × Int)} {k : Nat} (h : k < l.length) : l.getD k (0, 0) ∈ l := by rw [List.getD_eq_getElem?_getD, List.getElem?_eq_getElem h]; exact List.getElem_mem h
theorem inS_ends {e : Evt} {fr t : Int} (h : evF e = 0) (h0 : 0 < (inS fr t e.chg).length) : (ist ((inS fr t e.chg).getD 0 (0, 0)).1 = true ∧ ist ((inS fr t e.chg).getD ((inS fr t e.chg).length - 1) (0, 0)).1 = true) ∧ ∀ c ∈ inS fr t e.chg, ist c.1 = true ∧ ((inS fr t e.chg).getD 0 (0, 0)).1 ≤ c.1 ∧ c.1 ≤ ((inS fr t e.chg).getD ((inS fr t e.chg).length - 1) (0, 0)).1 := by
  obtain ⟨h1, h2⟩ := evF_chg h
  have hp : (inS fr t e.chg).Pairwise (fun a b => a.1 < b.1) := (cri_pair h2).filter _
  have tm : ∀ d ∈ inS fr t e.chg, ist d.1 = true := fun d q => by
    have := List.all_eq_true.1 h1 d (List.mem_filter.1 q).1
    unfold chB at this
    rw [Bool.and_eq_true] at this
    exact this.1
  generalize inS fr t e.chg = l at h0 hp tm
  refine ⟨⟨tm _ (getD_mem h0), tm _ (getD_mem (by omega))⟩, fun c hc => ⟨tm c hc, ?_, ?_⟩⟩
  · obtain ⟨j, hj, rfl⟩ := List.getElem_of_mem hc
    rw [List.getD_eq_getElem?_getD, List.getElem?_eq_getElem h0]
    rcases Nat.eq_zero_or_pos j with q | q
    · subst q; exact Int.le_refl _
    · exact Int.le_of_lt (List.pairwise_iff_getElem.1 hp 0 j h0 hj q)
  · obtain ⟨j, hj, rfl⟩ := List.getElem_of_mem hc
    rw [List.getD_eq_getElem?_getD, List.getElem?_eq_getElem (by omega)]
    rcases Nat.lt_or_ge j (l.length - 1) with q | q
    · exact Int.le_of_lt (List.pairwise_iff_getElem.1 hp j (l.length - 1) hj (by omega) q)
    · have : j = l.length - 1 := by omega
      subst this; exact Int.le_refl _
/-- How a question is answered ever after. -/
def Ans (n : Nat) (w : World) (e : Evt) (s : Evs) (g B : Nat) (q : Int → Bool) : Prop := ∀ W, Kp n w W → EvB W e s → Tab W → ∀ y, Calls Tryz.prog g #[.int .i64 y, .pointer (some ⟨B, 0, none⟩)] W fun z W' => z = .returned (.bool (q y)) ∧ Below W.heap.size W W'
theorem Ans.alloc {n : Nat} {w : World} {e : Evt} {s : Evs} {g B : Nat} {q : Int → Bool} (h : Ans n w e s g B q) (o : Obj) : Ans n (w.alloc o) e s g B q := fun W k hv hT y =>
  h W (fun i i1 i2 => (k i i1 (by rw [World.size_alloc]; omega)).trans (((Below.refl w.heap.size w).alloc (Nat.le_refl _) o).block i i2)) hv hT y
theorem Ans.set {n m : Nat} {w : World} {e : Evt} {s : Evs} {g B : Nat} {q : Int → Bool} (h : Ans n w e s g B q) (hm : m < n) (v : Value) : Ans m (w.setCell ⟨m, 0, none⟩ v) e s g B q := fun W k hv hT y =>
  h W (fun i i1 i2 => (k i (by omega) (by simpa using i2)).trans (Below.heap_setCell w ⟨m, 0, none⟩ v i (by show i ≠ m; omega))) hv hT y
theorem fn_old {w2 w3 : World} {v : Value} {ty : TypeId} (hb : Below ((w2.alloc (.cells #[v] ty)).drew).heap.size ((w2.alloc (.cells #[v] ty)).drew) w3) : w3.cell? ⟨w2.heap.size, 0, none⟩ = some v ∧ w3.frozen? ⟨w2.heap.size, 0, none⟩ = false ∧ w2.heap.size < w3.heap.size := by
  obtain ⟨c, f⟩ := bcell hb
  have z := hb.size
  have hs : w2.heap.size < ((w2.alloc (.cells #[v] ty)).drew).heap.size := by show w2.heap.size < (w2.alloc (.cells #[v] ty)).heap.size; rw [World.size_alloc]; omega
  refine ⟨?_, ?_, by omega⟩
  · rw [c _ _ hs]; show (w2.alloc (.cells #[v] ty)).cell? _ = _; simp
  · rw [f _ _ hs]; show (w2.alloc (.cells #[v] ty)).frozen? _ = _; simp
/-- Changes that may be read, and no error. -/
def RowM (w : World) (l : List (Int × Int)) (x : Ending) (w' : World) : Prop := ∃ v, x = .returned (.tuple #[v, .nilIface]) ∧ Nths w' v l ∧ Below w.heap.size w w'
set_option maxRecDepth 100000 in
set_option maxHeartbeats 8000000 in
theorem movedInto_any (e : Evt) (s : Evs) (fr t : Int) (w : World) (hv : EvB w e s) (hT : Tab w) (h : evF e = 0) :
    Calls Tryz.prog 190 #[.agg (ecells e s), .int .i64 fr, .int .i64 t] w (RowM w (mvd e fr t)) := by
  obtain ⟨W0, hW, B0, z0, R0, cf, ct⟩ := three_new w e s fr t
  have HV := Lib.hid (fun W (q : Below w.heap.size w W) => hv.on q)
  have HT := Lib.hid (fun W (q : Below w.heap.size w W) => hT.below q)
  have cl := (evF_lens h).2.2.2.2.1
  have H0 := Lib.hid h
  have HW := Lib.hid hW
  have HB := Lib.hid B0
  have HE := Lib.hid R0
  have KC := Lib.hid (clone_any s.vc e.chg W0 (hv.on B0).2.2.2.2.2.2.1 (by omega))
  have c15 := R0.2.2.2.2.1
  have rl := R0.lt
  have MV : Hid (mvd e fr t = (inS fr t e.chg).filter (fun c => isEb e c.1)) := Lib.hid (by rw [inS_eq]; rfl)
  have IE := Lib.hid (inS_ends (fr := fr) (t := t) h)
  have HCF := Lib.hid (And.intro cf ct)
  clear hv hT h B0 R0 hW cf ct
  generalize mvd e fr t = MM at MV ⊢
  go_enter Tryz.func190, Tryz.ntmps190
  go_upto_region 1 with fail
  rw [← HW.out]
  clear HW
  go_wp2_with fail
  clear c15 rl
  refine KC.out.mono ?_
  rintro y w1 ⟨u, rfl, hb, hu⟩
  have B1 := Lib.hid (HB.out.trans (hb.mono HB.out.size))
  have E1 := Lib.hid (HE.out.on hb)
  have C1 := Lib.hid (And.intro ((hb.cell (p := ⟨w.heap.size + 1, 0, none⟩) (ecell_in HCF.out.1)).trans HCF.out.1) ((hb.cell (p := ⟨w.heap.size + 2, 0, none⟩) (ecell_in HCF.out.2)).trans HCF.out.2))
  clear hb KC HB HE HCF
  rcases hu with ⟨l0, a, c, rfl⟩ | ⟨lpos, g, cap, rfl, hg, hcap, hh⟩
  · have N : Hid (MM = []) := Lib.hid (by rw [MV.out, l0]; rfl)
    clear MV IE
    go_wp2_with (go_at_call 210; refine (del2_none _ _ _ _ _).mono ?_; rintro y w2 ⟨rfl, hw⟩; replace hw := hw.symm; subst hw)
    go_ret2
    exact ⟨_, rfl, by rw [N.out]; exact nil_nth _, B1.out⟩
  have CA : ClA g w1 (.pointer (some ⟨w.heap.size + 1, 0, none⟩)) (.pointer (some ⟨w.heap.size + 2, 0, none⟩)) (fun c => !decide (fr ≤ c.2 ∧ c.2 ≤ t)) := fun c W qa =>
    away_any fr t c (w.heap.size + 1) (w.heap.size + 2) W ((qa.cell (p := ⟨w.heap.size + 1, 0, none⟩) (ecell_in C1.out.1) (by show w.heap.size + 1 ≠ g; omega)).trans C1.out.1) ((qa.cell (p := ⟨w.heap.size + 2, 0, none⟩) (ecell_in C1.out.2) (by show w.heap.size + 2 ≠ g; omega)).trans C1.out.2)
  have KD := Lib.hid (delA _ _ _ e.chg g 0 cap w1 CA hh lpos hcap (by omega))
  have IL : (inS fr t e.chg).length ≤ e.chg.length := List.length_filter_le _ _
  clear CA hh C1
  go_wp2_with fail
  refine KD.out.mono ?_
  rintro y w2 ⟨rfl, hh2, ha2⟩
  have hh3 : Hol2 w2 g 0 (inS fr t e.chg) := hh2
  have B2 := Lib.hid (B1.out.trans (ha2.below (n0 := w.heap.size) (by omega) B1.out.size))
  have E2 := Lib.hid (apt_ebox E1.out ha2 (by omega))
  have HH := Lib.hid hh3
  have eL : (e.chg.filter (fun x => !(fun c : Int × Int => !decide (fr ≤ c.2 ∧ c.2 ≤ t)) x)) = inS fr t e.chg := rfl
  rw [eL]
  generalize inS fr t e.chg = L at HH MV IE IL
  clear KD hh2 hh3 ha2 eL B1 E1
  rcases Nat.eq_zero_or_pos L.length with l0 | lp
  · have N : Hid (MM = []) := Lib.hid (by rw [MV.out, List.eq_nil_of_length_eq_zero l0]; rfl)
    rw [l0]
    clear MV IE HH l0
    go_wp2
    go_ret2
    exact ⟨_, rfl, by rw [N.out]; exact nil_nth _, B2.out⟩
  obtain ⟨⟨t0, t1⟩, te⟩ := IE.out lp
  have TE := Lib.hid te
  obtain ⟨m, hm⟩ : ∃ m, L.length = m + 1 := ⟨L.length - 1, by omega⟩
  have hm1 : L.length - 1 = m := by omega
  rw [hm1] at t1 TE
  have k0 : w2.cell? ⟨g, 0, none⟩ = some (.int .i64 (L.getD 0 (0, 0)).1) := (HH.out 0 lp).1.1
  have k1 : w2.cell? ⟨g, 0 + m * 2, none⟩ = some (.int .i64 (L.getD m (0, 0)).1) := (HH.out m (by omega)).1.1
  rw [Nat.zero_add] at k1
  have gl := ecell_in k0
  generalize (L.getD 0 (0, 0)).1 = A0 at t0 TE k0
  generalize (L.getD m (0, 0)).1 = A1 at t1 TE k1
  have KA := Lib.hid (fun X (q : Below w2.heap.size w2 X) => asker_any e s A0 A1 X (HV.out _ (B2.out.trans (q.mono B2.out.size))) (HT.out _ (B2.out.trans (q.mono B2.out.size))) H0.out t0 t1)
  have HS : Hid (∀ X, Below w2.heap.size w2 X → (X.cell? ⟨w.heap.size, 0, none⟩ = some (.string e.name) ∧ X.cell? ⟨w.heap.size, 1, none⟩ = some (.string e.text) ∧ X.cell? ⟨w.heap.size, 2, none⟩ = some (.int .i64 e.start) ∧ X.cell? ⟨w.heap.size, 3, none⟩ = some (.int .i64 e.len) ∧ X.cell? ⟨w.heap.size, 4, none⟩ = some (.bool e.rep) ∧ X.cell? ⟨w.heap.size, 5, none⟩ = some (.int .i64 e.rule.freq) ∧ X.cell? ⟨w.heap.size, 6, none⟩ = some (.int .i64 e.rule.every) ∧ X.cell? ⟨w.heap.size, 7, none⟩ = some (.int .i64 e.rule.count) ∧ X.cell? ⟨w.heap.size, 8, none⟩ = some (.int .i64 e.rule.till) ∧ X.cell? ⟨w.heap.size, 9, none⟩ = some s.vm ∧ X.cell? ⟨w.heap.size, 10, none⟩ = some s.vd ∧ X.cell? ⟨w.heap.size, 11, none⟩ = some s.vw ∧ X.cell? ⟨w.heap.size, 12, none⟩ = some s.vp ∧ X.cell? ⟨w.heap.size, 13, none⟩ = some s.vo ∧ X.cell? ⟨w.heap.size, 14, none⟩ = some s.vn ∧ X.cell? ⟨w.heap.size, 15, none⟩ = some s.vc ∧ X.cell? ⟨w.heap.size, 16, none⟩ = some s.va) ∧ X.cell? ⟨g, 0, none⟩ = some (.int .i64 A0) ∧ X.cell? ⟨g, m * 2, none⟩ = some (.int .i64 A1)) := Lib.hid (fun X q => by
    obtain ⟨⟨a0, a1, a2, a3, a4⟩, ⟨b0, b1, b2, b3, b4, b5, b6, b7⟩, c0, c1, c2, c3⟩ := E2.out.on q
    exact ⟨⟨a0, a1, a2, a3, a4, b0, b1, b2, b3, b4, b5, b6, b7, c0, c1, c2, c3⟩, (q.cell (p := ⟨g, 0, none⟩) gl).trans k0, (q.cell (p := ⟨g, m * 2, none⟩) gl).trans k1⟩)
  obtain ⟨n, hn⟩ : ∃ n, n = L.length := ⟨_, rfl⟩
  have HM := Lib.hid hm
  have HN := Lib.hid hn
  have HLP := Lib.hid lp
  rw [← hn]
  have nl : n ≤ 1000 := by omega
  have nm : n = m + 1 := by omega
  have lne : ((n : Int) == 0) = false := by simp; omega
  have i1 : (0 : Int) ≤ (m : Int) := by omega
  have i2 : (m : Int) < (n : Int) := by omega
  have i3 : (n : Int) - 1 = (m : Int) := by omega
  have i4 : (0 : Int) < (n : Int) := by omega
  have i5 : 0 < n := by omega
  have i7 : m < n := by omega
  have i8 : IntKind.i64.wrap (m : Int) = (m : Int) := by rw [IntKind.wrap_i64]; omega
  have i9 : wrap64 (m : Int) = (m : Int) := by unfold wrap64; omega
  clear nm hn
  have HMV := Lib.hid MV.out
  clear hm1 hm lp t0 t1 te MV IE k0 k1 gl
  go_wp2_with fail
  go_region_held3 (fun X => (X.cell? ⟨w.heap.size, 0, none⟩ = some (.string e.name) ∧ X.cell? ⟨w.heap.size, 1, none⟩ = some (.string e.text) ∧ X.cell? ⟨w.heap.size, 2, none⟩ = some (.int .i64 e.start) ∧ X.cell? ⟨w.heap.size, 3, none⟩ = some (.int .i64 e.len) ∧ X.cell? ⟨w.heap.size, 4, none⟩ = some (.bool e.rep) ∧ X.cell? ⟨w.heap.size, 5, none⟩ = some (.int .i64 e.rule.freq) ∧ X.cell? ⟨w.heap.size, 6, none⟩ = some (.int .i64 e.rule.every) ∧ X.cell? ⟨w.heap.size, 7, none⟩ = some (.int .i64 e.rule.count) ∧ X.cell? ⟨w.heap.size, 8, none⟩ = some (.int .i64 e.rule.till) ∧ X.cell? ⟨w.heap.size, 9, none⟩ = some s.vm ∧ X.cell? ⟨w.heap.size, 10, none⟩ = some s.vd ∧ X.cell? ⟨w.heap.size, 11, none⟩ = some s.vw ∧ X.cell? ⟨w.heap.size, 12, none⟩ = some s.vp ∧ X.cell? ⟨w.heap.size, 13, none⟩ = some s.vo ∧ X.cell? ⟨w.heap.size, 14, none⟩ = some s.vn ∧ X.cell? ⟨w.heap.size, 15, none⟩ = some s.vc ∧ X.cell? ⟨w.heap.size, 16, none⟩ = some s.va) ∧ X.cell? ⟨g, 0, none⟩ = some (.int .i64 A0) ∧ X.cell? ⟨g, m * 2, none⟩ = some (.int .i64 A1))
    (first | exact HS.out _ (Below.drew (Below.refl _ w2)) | exact HS.out _ hb3 | exact HS.out _ (Below.alloc hb3 (Below.size hb3) _) | exact HS.out _ (Below.drew (Below.alloc (Below.refl _ w2) (Nat.le_refl _) _)) | exact HS.out _ (Below.setCell hb3 (Nat.le_refl _) _))
    (first
    | (go_at_call 211; refine (KA.out _ (Below.drew (Below.refl _ w2))).mono ?_; rintro y w3 ⟨gf, Bf, qf, rfl, hb3', egf, qe, hask⟩; have hb3 : Below w2.heap.size w2 w3 := Below.trans (Below.drew (Below.refl _ w2)) hb3'; have HEG := Lib.hid egf; have HQE := Lib.hid qe; have PP : Hid (Ans w2.heap.size w3 e s gf Bf qf) := Lib.hid hask; clear hb3' hask egf qe)
    | (go_at_call 211; refine (KA.out _ (Below.drew (Below.alloc (Below.refl _ w2) (Nat.le_refl _) _))).mono ?_; rintro y w3 ⟨gf, Bf, qf, rfl, hb3', egf, qe, hask⟩; have hb3 : Below w2.heap.size w2 w3 := Below.trans (Below.drew (Below.alloc (Below.refl _ w2) (Nat.le_refl _) _)) (Below.mono hb3' (by simp)); have HEG := Lib.hid egf; have HQE := Lib.hid qe; have PP : Hid (Ans (w2.heap.size + 1) w3 e s gf Bf qf) := Lib.hid (by have q := hask; simp at q; exact q); obtain ⟨hfc, hff, hfl⟩ := fn_old hb3'; clear hb3' hask egf qe))
  · have hb5 : Below w2.heap.size w2 (w3.alloc (.cells #[.func (.func gf) #[] #[.pointer (some ⟨Bf, 0, none⟩)]] 88)) := hb3.alloc hb3.size _
    have fc5 : (w3.alloc (.cells #[.func (.func gf) #[] #[.pointer (some ⟨Bf, 0, none⟩)]] 88)).cell? ⟨w3.heap.size, 0, none⟩ = some (.func (.func gf) #[] #[.pointer (some ⟨Bf, 0, none⟩)]) := by simp
    have ha5 := PP.out.alloc (.cells #[.func (.func gf) #[] #[.pointer (some ⟨Bf, 0, none⟩)]] 88)
    have sz := hb3.size
    clear PP i1 i2 i3 i4 i5 i7 i8 i9 lne KA HS
    generalize w3.alloc (.cells #[.func (.func gf) #[] #[.pointer (some ⟨Bf, 0, none⟩)]] 88) = W5 at hb5 fc5 ha5 ⊢
    have gl2 : g < w2.heap.size := HH.out.lt HLP.out
    have CB : ClB g W5 (.pointer (some ⟨w3.heap.size, 0, none⟩)) (fun c => !qf c.1) := fun c W qa => by
      refine isnt_any gf Bf qf w3.heap.size c W ((qa.cell (p := ⟨w3.heap.size, 0, none⟩) (ecell_in fc5) (by show w3.heap.size ≠ g; omega)).trans fc5) HEG.out (fun W' q' => ?_)
      have bw : Below w.heap.size w W' := ((B2.out.trans (hb5.mono B2.out.size)).trans (qa.below (n0 := w.heap.size) (by omega) (Nat.le_trans B2.out.size hb5.size))).trans (q'.mono (Nat.le_trans (Nat.le_trans B2.out.size hb5.size) qa.size))
      exact ha5 W' ((kp_apt qa gl2).trans (kp_below q') qa.size) (HV.out _ bw) (HT.out _ bw) c.1
    have KD := Lib.hid (delB _ _ L g 0 cap W5 CB (HH.out.on hb5) HLP.out (by omega) (by omega))
    rw [← HN.out] at KD
    have EQ : Hid (L.filter (fun x => !(fun c : Int × Int => !qf c.1) x) = MM) := Lib.hid (by
      rw [HMV.out]
      refine List.filter_congr (fun c hc => ?_)
      obtain ⟨q1, q2, q3⟩ := TE.out c hc
      show (!(!qf c.1)) = isEb e c.1
      rw [Bool.not_not]
      exact HQE.out c.1 q2 q3 q1)
    have B5 := Lib.hid (B2.out.trans (hb5.mono B2.out.size))
    have G5 : Hid (w.heap.size ≤ g ∧ w.heap.size ≤ W5.heap.size) := Lib.hid ⟨by omega, B5.out.size⟩
    clear CB hb5 fc5 ha5 TE HQE HEG HMV
    go_wp2_with fail
    refine KD.out.mono ?_
    rintro y w6 ⟨rfl, hh6, ha6⟩
    rw [EQ.out] at hh6
    rw [EQ.out]
    have ZZ := Lib.hid (show RowM w MM (.returned (.tuple #[.slice (some ⟨g, 0, none⟩) MM.length cap, .nilIface])) w6 from ⟨_, rfl, hh6.nths, B5.out.trans (ha6.below G5.out.1 G5.out.2)⟩)
    clear KD hh6 ha6
    go_wp2
    go_ret2
    exact ZZ.out
  · have hb5 : Below w2.heap.size w2 (w3.setCell ⟨w2.heap.size, 0, none⟩ (.func (.func gf) #[] #[.pointer (some ⟨Bf, 0, none⟩)])) := hb3.setCell (Nat.le_refl _) _
    have fc5 : (w3.setCell ⟨w2.heap.size, 0, none⟩ (.func (.func gf) #[] #[.pointer (some ⟨Bf, 0, none⟩)])).cell? ⟨w2.heap.size, 0, none⟩ = some (.func (.func gf) #[] #[.pointer (some ⟨Bf, 0, none⟩)]) := World.cell?_setCell_same _ _ _ hfc
    have ha5 := PP.out.set (m := w2.heap.size) (by omega) (.func (.func gf) #[] #[.pointer (some ⟨Bf, 0, none⟩)])
    clear PP i1 i2 i3 i4 i5 i7 i8 i9 lne KA HS hfc hff hfl
    generalize w3.setCell ⟨w2.heap.size, 0, none⟩ (.func (.func gf) #[] #[.pointer (some ⟨Bf, 0, none⟩)]) = W5 at hb5 fc5 ha5 ⊢
    have gl2 : g < w2.heap.size := HH.out.lt HLP.out
    have CB : ClB g W5 (.pointer (some ⟨w2.heap.size, 0, none⟩)) (fun c => !qf c.1) := fun c W qa => by
      refine isnt_any gf Bf qf w2.heap.size c W ((qa.cell (p := ⟨w2.heap.size, 0, none⟩) (ecell_in fc5) (by show w2.heap.size ≠ g; omega)).trans fc5) HEG.out (fun W' q' => ?_)
      have bw : Below w.heap.size w W' := ((B2.out.trans (hb5.mono B2.out.size)).trans (qa.below (n0 := w.heap.size) (by omega) (Nat.le_trans B2.out.size hb5.size))).trans (q'.mono (Nat.le_trans (Nat.le_trans B2.out.size hb5.size) qa.size))
      exact ha5 W' ((kp_apt qa gl2).trans (kp_below q') qa.size) (HV.out _ bw) (HT.out _ bw) c.1
    have KD := Lib.hid (delB _ _ L g 0 cap W5 CB (HH.out.on hb5) HLP.out (by omega) (by omega))
    rw [← HN.out] at KD
    have EQ : Hid (L.filter (fun x => !(fun c : Int × Int => !qf c.1) x) = MM) := Lib.hid (by
      rw [HMV.out]
      refine List.filter_congr (fun c hc => ?_)
      obtain ⟨q1, q2, q3⟩ := TE.out c hc
      show (!(!qf c.1)) = isEb e c.1
      rw [Bool.not_not]
      exact HQE.out c.1 q2 q3 q1)
    have B5 := Lib.hid (B2.out.trans (hb5.mono B2.out.size))
    have G5 : Hid (w.heap.size ≤ g ∧ w.heap.size ≤ W5.heap.size) := Lib.hid ⟨by omega, B5.out.size⟩
    clear CB hb5 fc5 ha5 TE HQE HEG HMV
    go_wp2_with fail
    refine KD.out.mono ?_
    rintro y w6 ⟨rfl, hh6, ha6⟩
    rw [EQ.out] at hh6
    rw [EQ.out]
    have ZZ := Lib.hid (show RowM w MM (.returned (.tuple #[.slice (some ⟨g, 0, none⟩) MM.length cap, .nilIface])) w6 from ⟨_, rfl, hh6.nths, B5.out.trans (ha6.below G5.out.1 G5.out.2)⟩)
    clear KD hh6 ha6
    go_wp2
    go_ret2
    exact ZZ.out
end Go.Proofs.YthdohcjingfpoaaGreatDoor
