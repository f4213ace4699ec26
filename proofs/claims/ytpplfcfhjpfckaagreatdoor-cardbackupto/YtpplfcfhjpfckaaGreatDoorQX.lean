/-
  What is proved here: what package rule's parseWeek answers (a contract over the translation).
  What is proved here: what package rule's parsePart answers, and what it writes into the rule (contracts over the translation).
  What is proved here: what package rule's parseWords answers (a contract over the translation).
-/
import Derived.Test.YtpplfcfhjpfckaaGreatDoorQG
import Derived.Deep.RegionHeld3
namespace Go.Proofs.YtpplfcfhjpfckaaGreatDoor
open Go.RowKit Cal Txt

/-- Two numbers, both 0, lie in a block of a call's own. -/
def Res2 (W : World) (b : Nat) : Prop := (W.cell? ⟨b, 0, none⟩ = some (.int .i64 0) ∧ W.cell? ⟨b, 1, none⟩ = some (.int .i64 0)) ∧ W.frozen? ⟨b, 0, none⟩ = false ∧ W.frozen? ⟨b, 1, none⟩ = false
theorem Res2.new (W : World) (t : TypeId) : Res2 (W.alloc (.cells #[.int .i64 0, .int .i64 0] t)) W.heap.size := ⟨⟨by simp, by simp⟩, by simp, by simp⟩
theorem Res2.lt {W : World} {b : Nat} (h : Res2 W b) : b < W.heap.size := cell_lt h.1.1
theorem Res2.on {W W' : World} {b : Nat} (h : Res2 W b) (q : Below W.heap.size W W') : Res2 W' b := by
  obtain ⟨c, f⟩ := bcell q
  exact ⟨⟨by rw [c _ _ h.lt]; exact h.1.1, by rw [c _ _ h.lt]; exact h.1.2⟩, by rw [f _ _ h.lt]; exact h.2.1, by rw [f _ _ h.lt]; exact h.2.2⟩
theorem ext_data (s : ByteArray) (a b : Nat) : (s.extract a b).data.toList = (s.data.toList.drop a).take (b - a) := by
  rw [ByteArray.data_extract, Array.toList_extract, List.extract_eq_take_drop]
theorem ext_len (s : ByteArray) : s.data.toList.length = s.size := rfl
set_option maxRecDepth 100000 in
set_option maxHeartbeats 2000000 in
theorem parseWeek_any (s : ByteArray) (w : World) (hP : Pow w) (hE : ErS w) (hW : WdW w) (hs : s.size ≤ 2000000) :
    Calls Tryz.prog 145 #[.string s] w fun e w' => ∃ v, e = .returned v ∧ nthA (wr s.data.toList) v ∧ Below w.heap.size w w' := by
  have B0 : Below w.heap.size w (w.alloc (.cells #[.int .i64 0, .int .i64 0] 109)) := (Below.refl _ _).alloc (Nat.le_refl _) _
  have HB := Lib.hid B0
  have HP := Lib.hid (hP.below B0)
  have HE := Lib.hid (hE.below B0)
  have HW := Lib.hid (hW.below B0)
  have R0 := Res2.new w 109
  clear B0 hP hE hW
  have LN : s.data.toList.length = s.size := rfl
  by_cases h2 : s.size < 2
  · have h2' : (s.size : Int) < 2 := by omega
    have N1 : Hid (wr s.data.toList = none) := Lib.hid (by unfold wr; rw [if_pos (by rw [LN]; exact h2)])
    clear R0
    go_enter Tryz.func145, Tryz.ntmps145
    go_wp2
    refine bodyPost_ret (v := .tuple #[.agg #[.int .i64 0, .int .i64 0], .bool false]) (by simp [results, Tryz.results145, go_sem]) rfl ⟨_, rfl, Or.inl ⟨N1.out, _, _, rfl⟩, HB.out⟩
  · have h2' : (2 : Int) ≤ s.size := by omega
    have DK : Hid ((s.extract (s.size - 2) s.size).data.toList = s.data.toList.drop (s.data.toList.length - 2)) := Lib.hid (by rw [ext_data, LN, List.take_of_length_le (by rw [List.length_drop, LN]; omega)])
    have TK : Hid ((s.extract 0 (s.size - 2)).data.toList = s.data.toList.take (s.data.toList.length - 2)) := Lib.hid (by rw [ext_data, LN]; simp)
    obtain ⟨k, hk⟩ : ∃ k, k = dk (s.data.toList.drop (s.data.toList.length - 2)) := ⟨_, rfl⟩
    have HK := Lib.hid hk
    clear hk R0
    have KW := Lib.hid (parseWeekday_any (s.extract (s.size - 2) s.size) _ HW.out)
    rw [DK.out, ← HK.out] at KW
    by_cases h0 : k = 0
    · have N1 : Hid (wr s.data.toList = none) := Lib.hid (by unfold wr; rw [if_neg (by rw [LN]; exact h2), if_pos (by rw [← HK.out]; exact h0)])
      rw [posA_none h0] at KW
      clear h0
      go_enter Tryz.func145, Tryz.ntmps145
      go_wp2_with fail
      refine KW.out.mono ?_
      rintro e w1 ⟨rfl, hw⟩
      subst hw
      go_wp2
      refine bodyPost_ret (v := .tuple #[.agg #[.int .i64 0, .int .i64 0], .bool false]) (by simp [results, Tryz.results145, go_sem]) rfl ⟨_, rfl, Or.inl ⟨N1.out, _, _, rfl⟩, ?_⟩
      repeat (first | exact HB.out | exact (Below.refl _ _).alloc (Nat.le_refl _) _ | refine Below.setCell ?_ (by first | omega | (simp <;> omega)) _)
    · rw [posA_some rfl h0] at KW
      by_cases h3 : s.size = 2
      · have h3' : True := trivial
        have N1 : Hid (wr s.data.toList = some (0, k)) := Lib.hid (by unfold wr; rw [if_neg (by rw [LN]; exact h2), if_neg (by rw [← HK.out]; exact h0), if_pos (by rw [LN]; exact h3), ← HK.out])
        have H3 := Lib.hid h3
        clear h0 h3 h3'
        go_enter Tryz.func145, Tryz.ntmps145
        go_wp2_with fail
        refine KW.out.mono ?_
        rintro e w1 ⟨rfl, hw⟩
        subst hw
        have h4 : (s.size : Int) - 2 = 0 := by have := H3.out; omega
        go_wp2
        refine bodyPost_ret (v := .tuple #[.agg #[.int .i64 0, .int .i64 k], .bool true]) (by simp [results, Tryz.results145, go_sem]) rfl ⟨_, rfl, Or.inr ⟨_, N1.out, rfl⟩, ?_⟩
        repeat (first | exact HB.out | exact (Below.refl _ _).alloc (Nat.le_refl _) _ | refine Below.setCell ?_ (by first | omega | (simp <;> omega)) _)
      · have h3' : ((s.size : Int) - 2 == 0) = false := by rw [beq_eq_false_iff_ne]; omega
        have KN := Lib.hid (parseNumber_any (s.extract 0 (s.size - 2)) _ HP.out HE.out (by rw [← ext_len]; rw [TK.out, List.length_take, LN]; omega))
        rw [TK.out] at KN
        have HR := Lib.hid (Res2.new w 109)
        rcases hn : nr 4 (s.data.toList.take (s.data.toList.length - 2)) with _ | n
        · have N1 : Hid (wr s.data.toList = none) := Lib.hid (by unfold wr; rw [if_neg (by rw [LN]; exact h2), if_neg (by rw [← HK.out]; exact h0), if_neg (by rw [LN]; exact h3), hn])
          rw [hn, numA_none rfl] at KN
          clear h0 hn
          go_enter Tryz.func145, Tryz.ntmps145
          go_wp2_with fail
          refine KW.out.mono ?_
          rintro e w1 ⟨rfl, hw⟩
          subst hw
          go_wp2_with fail
          refine KN.out.mono ?_
          rintro e w1 ⟨rfl, hb⟩
          have hB1 := HB.out.trans (hb.mono HB.out.size)
          obtain ⟨⟨c1, c2⟩, f1, f2⟩ := HR.out.on hb
          clear hb HR HB HP HE HW KN KW
          go_wp2
          refine bodyPost_ret (v := .tuple #[.agg #[.int .i64 0, .int .i64 k], .bool false]) (by simp [results, Tryz.results145, go_sem, c1, c2]) rfl ⟨_, rfl, Or.inl ⟨N1.out, _, _, rfl⟩, ?_⟩
          repeat (first | exact hB1 | refine Below.setCell ?_ (by first | omega | (simp <;> omega)) _)
        · rw [hn, numA_some rfl] at KN
          by_cases hz : n = 0
          · have N1 : Hid (wr s.data.toList = none) := Lib.hid (by unfold wr; rw [if_neg (by rw [LN]; exact h2), if_neg (by rw [← HK.out]; exact h0), if_neg (by rw [LN]; exact h3), hn]; show (if n = 0 then none else _) = _; rw [if_pos hz])
            subst hz
            clear h0 hn
            go_enter Tryz.func145, Tryz.ntmps145
            go_wp2_with fail
            refine KW.out.mono ?_
            rintro e w1 ⟨rfl, hw⟩
            subst hw
            go_wp2_with fail
            refine KN.out.mono ?_
            rintro e w1 ⟨rfl, hb⟩
            have hB1 := HB.out.trans (hb.mono HB.out.size)
            obtain ⟨⟨c1, c2⟩, f1, f2⟩ := HR.out.on hb
            clear hb HR HB HP HE HW KN KW
            go_wp2
            refine bodyPost_ret (v := .tuple #[.agg #[.int .i64 0, .int .i64 k], .bool false]) (by simp [results, Tryz.results145, go_sem, c1, c2]) rfl ⟨_, rfl, Or.inl ⟨N1.out, _, _, rfl⟩, ?_⟩
            repeat (first | exact hB1 | refine Below.setCell ?_ (by first | omega | (simp <;> omega)) _)
          · have N1 : Hid (wr s.data.toList = some (n, k)) := Lib.hid (by unfold wr; rw [if_neg (by rw [LN]; exact h2), if_neg (by rw [← HK.out]; exact h0), if_neg (by rw [LN]; exact h3), hn]; show (if n = 0 then none else _) = _; rw [if_neg hz, ← HK.out])
            have hz' : (n != 0) = true := by simp [hz]
            clear h0 hn hz
            go_enter Tryz.func145, Tryz.ntmps145
            go_wp2_with fail
            refine KW.out.mono ?_
            rintro e w1 ⟨rfl, hw⟩
            subst hw
            go_wp2_with fail
            refine KN.out.mono ?_
            rintro e w1 ⟨rfl, hb⟩
            have hB1 := HB.out.trans (hb.mono HB.out.size)
            obtain ⟨⟨c1, c2⟩, f1, f2⟩ := HR.out.on hb
            clear hb HR HB HP HE HW KN KW
            go_wp2
            refine bodyPost_ret (v := .tuple #[.agg #[.int .i64 n, .int .i64 k], .bool true]) (by simp [results, Tryz.results145, go_sem, c1, c2]) rfl ⟨_, rfl, Or.inr ⟨_, N1.out, rfl⟩, ?_⟩
            repeat (first | exact hB1 | refine Below.setCell ?_ (by first | omega | (simp <;> omega)) _)
end Go.Proofs.YtpplfcfhjpfckaaGreatDoor
namespace Go.Proofs.YtpplfcfhjpfckaaGreatDoor
open Go.RowKit Cal Txt

/-- What a slice names lies behind a block. -/
def Far (b : Nat) (v : Value) : Prop := ∀ a k c, v = .slice (some a) k c → b < a.block
theorem Far.none (b n c : Nat) : Far b (.slice none n c) := fun a k c' h => by cases h
theorem Far.new {b n : Nat} {v : Value} (h : NewB n v) (hb : b < n) : Far b v := fun a k c e => by have := h a k c e; omega
theorem sc_other (W : World) {b g o i : Nat} (x : Value) (h : g ≠ b ∨ i ≠ o) : (W.setCell ⟨b, o, none⟩ x).cell? ⟨g, i, none⟩ = W.cell? ⟨g, i, none⟩ := by
  apply World.cell?_setCell_other
  intro q
  injection q with q1 q2 _
  rcases h with h | h
  · exact h q1.symm
  · exact h q2.symm
theorem sc_same {W : World} {b o : Nat} {u : Value} (x : Value) (h : W.cell? ⟨b, o, none⟩ = some u) : (W.setCell ⟨b, o, none⟩ x).cell? ⟨b, o, none⟩ = some x := by
  apply World.cell?_setCell_same
  exact h
theorem Ints.set {W : World} {v : Value} {l : List Int} (h : Ints W v l) {b : Nat} (hf : Far b v) (o : Nat) (x : Value) : Ints (W.setCell ⟨b, o, none⟩ x) v l := by
  obtain ⟨a, cap, e, hc⟩ := h
  refine ⟨a, cap, e, hc.imp id ?_⟩
  rintro ⟨g, off, ea, hc⟩
  refine ⟨g, off, ea, fun i hi => ?_⟩
  rw [sc_other W x (Or.inl (Nat.ne_of_gt (hf ⟨g, off, none⟩ _ _ (by rw [e, ea]))))]
  exact hc i hi
theorem Nths.set {W : World} {v : Value} {l : List (Int × Int)} (h : Nths W v l) {b : Nat} (hf : Far b v) (o : Nat) (x : Value) : Nths (W.setCell ⟨b, o, none⟩ x) v l := by
  obtain ⟨a, cap, e, hc⟩ := h
  refine ⟨a, cap, e, hc.imp id ?_⟩
  rintro ⟨g, off, ea, hc⟩
  refine ⟨g, off, ea, fun i hi => ?_⟩
  have hne : g ≠ b := Nat.ne_of_gt (hf ⟨g, off, none⟩ _ _ (by rw [e, ea]))
  rw [sc_other W x (Or.inl hne), sc_other W x (Or.inl hne)]
  exact hc i hi
/-- What lies behind a block is kept where all behind it is. -/
theorem Ints.keep {W W' : World} {v : Value} {l : List Int} (h : Ints W v l) {b : Nat} (hf : Far b v) (q : ∀ g o, b < g → W'.cell? ⟨g, o, none⟩ = W.cell? ⟨g, o, none⟩) : Ints W' v l := by
  obtain ⟨a, cap, e, hc⟩ := h
  refine ⟨a, cap, e, hc.imp id ?_⟩
  rintro ⟨g, off, ea, hc⟩
  exact ⟨g, off, ea, fun i hi => by rw [q _ _ (hf ⟨g, off, none⟩ _ _ (by rw [e, ea]))]; exact hc i hi⟩
theorem Nths.keep {W W' : World} {v : Value} {l : List (Int × Int)} (h : Nths W v l) {b : Nat} (hf : Far b v) (q : ∀ g o, b < g → W'.cell? ⟨g, o, none⟩ = W.cell? ⟨g, o, none⟩) : Nths W' v l := by
  obtain ⟨a, cap, e, hc⟩ := h
  refine ⟨a, cap, e, hc.imp id ?_⟩
  rintro ⟨g, off, ea, hc⟩
  have hg := hf ⟨g, off, none⟩ _ _ (by rw [e, ea])
  exact ⟨g, off, ea, fun i hi => by rw [q _ _ hg, q _ _ hg]; exact hc i hi⟩
theorem wpList_store_keep {P : Program} {ops : Array Oper} {rest : List Oper} {op : Oper} {a : Act} {w : World} {Q : Exit → Act → World → Prop} (hgd : op.guard = none) (ty : TypeId) (x y : Operand) (ho : op.op = .store ty x y)
    (b : Nat) (cells : Array Value) (hx : a.eval x = .pointer (some ⟨b, 0, none⟩)) (hy : a.eval y = .agg cells) (ht : w.there b 0 cells.size) (hi : (P.info? ty).map (·.size) = some cells.size) (h1 : cells.all (·.oneCell') = true)
    {B : Nat} {w0 : World} (hB : Below B w0 w) (hb : B ≤ b) (h : ∀ W4 : World, W4.rangeAt b 0 cells.toList → Below B w0 W4 → (∀ g o, b < g → W4.cell? ⟨g, o, none⟩ = w.cell? ⟨g, o, none⟩) → wpList P ops Q rest (a.put op.dst undef) W4) : wpList P ops Q (op :: rest) a w :=
  wpList_store_mid hgd ty x y ho b 0 cells hx hy ht hi h1 (h _ (World.rangeAt_setCells_same w b 0 cells.toList (by simpa using ht)) (below_setCells b cells.toList 0 w hB hb)
    (fun g o hg => World.cell?_setCells_out b cells.toList 0 w ⟨g, o, none⟩ (fun e _ => absurd e (Nat.ne_of_gt hg))))
/-- A rule lies in a block of a call's own, its lists elsewhere. -/
def BoxR (W : World) (b : Nat) (r : Rl) : Prop :=
  ∃ vm vd vw vp, RBox W b r.freq r.every r.count r.till vm vd vw vp ∧ (∀ o, W.frozen? ⟨b, o, none⟩ = false) ∧ (Ints W vm r.months ∧ Far b vm) ∧ (Ints W vd r.days ∧ Far b vd) ∧ (Nths W vw r.weeks ∧ Far b vw) ∧ (Ints W vp r.pick ∧ Far b vp)
theorem BoxR.lt {W : World} {b : Nat} {r : Rl} (h : BoxR W b r) : b < W.heap.size := by
  obtain ⟨_, _, _, _, hR, _⟩ := h
  exact hR.lt
theorem BoxR.on {W W' : World} {b : Nat} {r : Rl} (h : BoxR W b r) (q : Below W.heap.size W W') : BoxR W' b r := by
  have hl := h.lt
  obtain ⟨vm, vd, vw, vp, hR, hf, ⟨a1, a2⟩, ⟨b1, b2⟩, ⟨c1, c2⟩, d1, d2⟩ := h
  exact ⟨vm, vd, vw, vp, hR.on q, fun o => by rw [(bcell q).2 _ _ hl]; exact hf o, ⟨a1.on q, a2⟩, ⟨b1.on q, b2⟩, ⟨c1.on q, c2⟩, d1.on q, d2⟩
/-- What is answered of a part, and what lies in the rule then. -/
def PartA (w : World) (b : Nat) (o : Option Rl) (e : Ending) (w' : World) : Prop :=
  Below b w w' ∧ ((o = none ∧ e = .returned (.bool false)) ∨ ∃ r, o = some r ∧ e = .returned (.bool true) ∧ BoxR w' b r)
theorem RBox.set1 {W : World} {b : Nat} {f e c u : Int} {vm vd vw vp : Value} (h : RBox W b f e c u vm vd vw vp) (n : Int) : RBox (W.setCell ⟨b, 1, none⟩ (.int .i64 n)) b f n c u vm vd vw vp := by
  obtain ⟨h0, h1, h2, h3, h4, h5, h6, h7⟩ := h
  exact ⟨(sc_other W _ (Or.inr (by decide))).trans h0, sc_same _ h1, (sc_other W _ (Or.inr (by decide))).trans h2, (sc_other W _ (Or.inr (by decide))).trans h3, (sc_other W _ (Or.inr (by decide))).trans h4, (sc_other W _ (Or.inr (by decide))).trans h5, (sc_other W _ (Or.inr (by decide))).trans h6, (sc_other W _ (Or.inr (by decide))).trans h7⟩
theorem RBox.set2 {W : World} {b : Nat} {f e c u : Int} {vm vd vw vp : Value} (h : RBox W b f e c u vm vd vw vp) (n : Int) : RBox (W.setCell ⟨b, 2, none⟩ (.int .i64 n)) b f e n u vm vd vw vp := by
  obtain ⟨h0, h1, h2, h3, h4, h5, h6, h7⟩ := h
  exact ⟨(sc_other W _ (Or.inr (by decide))).trans h0, (sc_other W _ (Or.inr (by decide))).trans h1, sc_same _ h2, (sc_other W _ (Or.inr (by decide))).trans h3, (sc_other W _ (Or.inr (by decide))).trans h4, (sc_other W _ (Or.inr (by decide))).trans h5, (sc_other W _ (Or.inr (by decide))).trans h6, (sc_other W _ (Or.inr (by decide))).trans h7⟩
theorem RBox.set3 {W : World} {b : Nat} {f e c u : Int} {vm vd vw vp : Value} (h : RBox W b f e c u vm vd vw vp) (n : Int) : RBox (W.setCell ⟨b, 3, none⟩ (.int .i64 n)) b f e c n vm vd vw vp := by
  obtain ⟨h0, h1, h2, h3, h4, h5, h6, h7⟩ := h
  exact ⟨(sc_other W _ (Or.inr (by decide))).trans h0, (sc_other W _ (Or.inr (by decide))).trans h1, (sc_other W _ (Or.inr (by decide))).trans h2, sc_same _ h3, (sc_other W _ (Or.inr (by decide))).trans h4, (sc_other W _ (Or.inr (by decide))).trans h5, (sc_other W _ (Or.inr (by decide))).trans h6, (sc_other W _ (Or.inr (by decide))).trans h7⟩
theorem RBox.set4 {W : World} {b : Nat} {f e c u : Int} {vm vd vw vp : Value} (h : RBox W b f e c u vm vd vw vp) (v : Value) : RBox (W.setCell ⟨b, 4, none⟩ (v)) b f e c u v vd vw vp := by
  obtain ⟨h0, h1, h2, h3, h4, h5, h6, h7⟩ := h
  exact ⟨(sc_other W _ (Or.inr (by decide))).trans h0, (sc_other W _ (Or.inr (by decide))).trans h1, (sc_other W _ (Or.inr (by decide))).trans h2, (sc_other W _ (Or.inr (by decide))).trans h3, sc_same _ h4, (sc_other W _ (Or.inr (by decide))).trans h5, (sc_other W _ (Or.inr (by decide))).trans h6, (sc_other W _ (Or.inr (by decide))).trans h7⟩
theorem RBox.set5 {W : World} {b : Nat} {f e c u : Int} {vm vd vw vp : Value} (h : RBox W b f e c u vm vd vw vp) (v : Value) : RBox (W.setCell ⟨b, 5, none⟩ (v)) b f e c u vm v vw vp := by
  obtain ⟨h0, h1, h2, h3, h4, h5, h6, h7⟩ := h
  exact ⟨(sc_other W _ (Or.inr (by decide))).trans h0, (sc_other W _ (Or.inr (by decide))).trans h1, (sc_other W _ (Or.inr (by decide))).trans h2, (sc_other W _ (Or.inr (by decide))).trans h3, (sc_other W _ (Or.inr (by decide))).trans h4, sc_same _ h5, (sc_other W _ (Or.inr (by decide))).trans h6, (sc_other W _ (Or.inr (by decide))).trans h7⟩
theorem RBox.set6 {W : World} {b : Nat} {f e c u : Int} {vm vd vw vp : Value} (h : RBox W b f e c u vm vd vw vp) (v : Value) : RBox (W.setCell ⟨b, 6, none⟩ (v)) b f e c u vm vd v vp := by
  obtain ⟨h0, h1, h2, h3, h4, h5, h6, h7⟩ := h
  exact ⟨(sc_other W _ (Or.inr (by decide))).trans h0, (sc_other W _ (Or.inr (by decide))).trans h1, (sc_other W _ (Or.inr (by decide))).trans h2, (sc_other W _ (Or.inr (by decide))).trans h3, (sc_other W _ (Or.inr (by decide))).trans h4, (sc_other W _ (Or.inr (by decide))).trans h5, sc_same _ h6, (sc_other W _ (Or.inr (by decide))).trans h7⟩
theorem RBox.set7 {W : World} {b : Nat} {f e c u : Int} {vm vd vw vp : Value} (h : RBox W b f e c u vm vd vw vp) (v : Value) : RBox (W.setCell ⟨b, 7, none⟩ (v)) b f e c u vm vd vw v := by
  obtain ⟨h0, h1, h2, h3, h4, h5, h6, h7⟩ := h
  exact ⟨(sc_other W _ (Or.inr (by decide))).trans h0, (sc_other W _ (Or.inr (by decide))).trans h1, (sc_other W _ (Or.inr (by decide))).trans h2, (sc_other W _ (Or.inr (by decide))).trans h3, (sc_other W _ (Or.inr (by decide))).trans h4, (sc_other W _ (Or.inr (by decide))).trans h5, (sc_other W _ (Or.inr (by decide))).trans h6, sc_same _ h7⟩
set_option maxRecDepth 100000 in
set_option maxHeartbeats 2000000 in
theorem part_0 (s : ByteArray) (r : Rl) (b : Nat) (w : World) (h : BoxR w b r) (KN : Hid (Calls Tryz.prog 141 #[.string s] w fun e w' => e = .returned (numA (nr 4 s.data.toList)) ∧ Below w.heap.size w w')) :
    Calls Tryz.prog 126 #[.pointer (some ⟨b, 0, none⟩), .int .i64 0, .string s] w (PartA w b (ap 0 s.data.toList r)) := by
  obtain ⟨vm, vd, vw, vp, hR, hf, ⟨m1, m2⟩, ⟨d1, d2⟩, ⟨k1, k2⟩, p1, p2⟩ := h
  have HR := Lib.hid hR
  have HF := Lib.hid hf
  have hl := hR.lt
  have BX := Lib.hid (And.intro (And.intro m1 m2) (And.intro (And.intro d1 d2) (And.intro (And.intro k1 k2) (And.intro p1 p2))))
  clear hR hf m1 m2 d1 d2 k1 k2 p1 p2
  rcases hn : nr 4 s.data.toList with _ | n
  · have N1 : Hid (ap 0 s.data.toList r = none) := Lib.hid (by simp [ap, hn])
    rw [hn, numA_none rfl] at KN
    clear hn
    go_enter Tryz.func126, Tryz.ntmps126
    go_wp2_with fail
    refine KN.out.mono ?_
    rintro e w1 ⟨rfl, hb⟩
    have R1 := HR.out.on hb
    have F1 := (bcell hb).2 b 1 hl
    rw [HF.out] at F1
    obtain ⟨q0, q1, q2, q3, q4, q5, q6, q7⟩ := id R1
    have hl1 := R1.lt
    have hB : Below b w w1 := hb.mono (by omega)
    go_wp2
    go_ret
    exact ⟨hB.setCell (Nat.le_refl _) _, Or.inl ⟨N1.out, rfl⟩⟩
  · rw [hn, numA_some rfl] at KN
    by_cases hz : n = 1
    · have N1 : Hid (ap 0 s.data.toList r = none) := Lib.hid (by simp [ap, hn, hz])
      subst hz
      clear hn
      go_enter Tryz.func126, Tryz.ntmps126
      go_wp2_with fail
      refine KN.out.mono ?_
      rintro e w1 ⟨rfl, hb⟩
      have R1 := HR.out.on hb
      have F1 := (bcell hb).2 b 1 hl
      rw [HF.out] at F1
      obtain ⟨q0, q1, q2, q3, q4, q5, q6, q7⟩ := id R1
      have hl1 := R1.lt
      have hB : Below b w w1 := hb.mono (by omega)
      go_wp2
      go_ret
      exact ⟨hB.setCell (Nat.le_refl _) _, Or.inl ⟨N1.out, rfl⟩⟩
    · have N1 : Hid (ap 0 s.data.toList r = some { r with every := n }) := Lib.hid (by simp [ap, hn, hz])
      have hz' : (n != 1) = true := by simp [hz]
      clear hn hz
      go_enter Tryz.func126, Tryz.ntmps126
      go_wp2_with fail
      refine KN.out.mono ?_
      rintro e w1 ⟨rfl, hb⟩
      have R1 := HR.out.on hb
      have F1 := (bcell hb).2 b 1 hl
      rw [HF.out] at F1
      obtain ⟨q0, q1, q2, q3, q4, q5, q6, q7⟩ := id R1
      have hl1 := R1.lt
      have hB : Below b w w1 := hb.mono (by omega)
      have BN : Hid (BoxR (w1.setCell ⟨b, 1, none⟩ (.int .i64 n)) b { r with every := n }) := Lib.hid ⟨_, _, _, _, R1.set1 _, fun o => by rw [World.frozen?_setCell, (bcell hb).2 b o hl]; exact HF.out o, ⟨(BX.out.1.1.on hb).set BX.out.1.2 1 _, BX.out.1.2⟩, ⟨(BX.out.2.1.1.on hb).set BX.out.2.1.2 1 _, BX.out.2.1.2⟩, ⟨(BX.out.2.2.1.1.on hb).set BX.out.2.2.1.2 1 _, BX.out.2.2.1.2⟩, ⟨(BX.out.2.2.2.1.on hb).set BX.out.2.2.2.2 1 _, BX.out.2.2.2.2⟩⟩
      go_wp2
      go_ret
      exact ⟨hB.setCell (Nat.le_refl _) _, Or.inr ⟨_, N1.out, rfl, BN.out⟩⟩
set_option maxRecDepth 100000 in
set_option maxHeartbeats 2000000 in
theorem part_1 (s : ByteArray) (r : Rl) (b : Nat) (w : World) (h : BoxR w b r) (KN : Hid (Calls Tryz.prog 141 #[.string s] w fun e w' => e = .returned (numA (nr 4 s.data.toList)) ∧ Below w.heap.size w w')) :
    Calls Tryz.prog 126 #[.pointer (some ⟨b, 0, none⟩), .int .i64 1, .string s] w (PartA w b (ap 1 s.data.toList r)) := by
  obtain ⟨vm, vd, vw, vp, hR, hf, ⟨m1, m2⟩, ⟨d1, d2⟩, ⟨k1, k2⟩, p1, p2⟩ := h
  have HR := Lib.hid hR
  have HF := Lib.hid hf
  have hl := hR.lt
  have BX := Lib.hid (And.intro (And.intro m1 m2) (And.intro (And.intro d1 d2) (And.intro (And.intro k1 k2) (And.intro p1 p2))))
  clear hR hf m1 m2 d1 d2 k1 k2 p1 p2
  rcases hn : nr 4 s.data.toList with _ | n
  · have N1 : Hid (ap 1 s.data.toList r = none) := Lib.hid (by simp [ap, hn])
    rw [hn, numA_none rfl] at KN
    clear hn
    go_enter Tryz.func126, Tryz.ntmps126
    go_wp2_with fail
    refine KN.out.mono ?_
    rintro e w1 ⟨rfl, hb⟩
    have R1 := HR.out.on hb
    have F1 := (bcell hb).2 b 2 hl
    rw [HF.out] at F1
    obtain ⟨q0, q1, q2, q3, q4, q5, q6, q7⟩ := id R1
    have hl1 := R1.lt
    have hB : Below b w w1 := hb.mono (by omega)
    go_wp2
    go_ret
    exact ⟨hB.setCell (Nat.le_refl _) _, Or.inl ⟨N1.out, rfl⟩⟩
  · rw [hn, numA_some rfl] at KN
    by_cases hz : n = 0
    · have N1 : Hid (ap 1 s.data.toList r = none) := Lib.hid (by simp [ap, hn, hz])
      subst hz
      clear hn
      go_enter Tryz.func126, Tryz.ntmps126
      go_wp2_with fail
      refine KN.out.mono ?_
      rintro e w1 ⟨rfl, hb⟩
      have R1 := HR.out.on hb
      have F1 := (bcell hb).2 b 2 hl
      rw [HF.out] at F1
      obtain ⟨q0, q1, q2, q3, q4, q5, q6, q7⟩ := id R1
      have hl1 := R1.lt
      have hB : Below b w w1 := hb.mono (by omega)
      go_wp2
      go_ret
      exact ⟨hB.setCell (Nat.le_refl _) _, Or.inl ⟨N1.out, rfl⟩⟩
    · have N1 : Hid (ap 1 s.data.toList r = some { r with count := n }) := Lib.hid (by simp [ap, hn, hz])
      have hz' : (n != 0) = true := by simp [hz]
      clear hn hz
      go_enter Tryz.func126, Tryz.ntmps126
      go_wp2_with fail
      refine KN.out.mono ?_
      rintro e w1 ⟨rfl, hb⟩
      have R1 := HR.out.on hb
      have F1 := (bcell hb).2 b 2 hl
      rw [HF.out] at F1
      obtain ⟨q0, q1, q2, q3, q4, q5, q6, q7⟩ := id R1
      have hl1 := R1.lt
      have hB : Below b w w1 := hb.mono (by omega)
      have BN : Hid (BoxR (w1.setCell ⟨b, 2, none⟩ (.int .i64 n)) b { r with count := n }) := Lib.hid ⟨_, _, _, _, R1.set2 _, fun o => by rw [World.frozen?_setCell, (bcell hb).2 b o hl]; exact HF.out o, ⟨(BX.out.1.1.on hb).set BX.out.1.2 2 _, BX.out.1.2⟩, ⟨(BX.out.2.1.1.on hb).set BX.out.2.1.2 2 _, BX.out.2.1.2⟩, ⟨(BX.out.2.2.1.1.on hb).set BX.out.2.2.1.2 2 _, BX.out.2.2.1.2⟩, ⟨(BX.out.2.2.2.1.on hb).set BX.out.2.2.2.2 2 _, BX.out.2.2.2.2⟩⟩
      go_wp2
      go_ret
      exact ⟨hB.setCell (Nat.le_refl _) _, Or.inr ⟨_, N1.out, rfl, BN.out⟩⟩
set_option maxRecDepth 100000 in
set_option maxHeartbeats 2000000 in
theorem part_2 (s : ByteArray) (r : Rl) (b : Nat) (w : World) (h : BoxR w b r) (KN : Hid (Calls Tryz.prog 142 #[.string s] w fun e w' => e = .returned (numA (dr s.data.toList)) ∧ Below w.heap.size w w')) :
    Calls Tryz.prog 126 #[.pointer (some ⟨b, 0, none⟩), .int .i64 2, .string s] w (PartA w b (ap 2 s.data.toList r)) := by
  obtain ⟨vm, vd, vw, vp, hR, hf, ⟨m1, m2⟩, ⟨d1, d2⟩, ⟨k1, k2⟩, p1, p2⟩ := h
  have HR := Lib.hid hR
  have HF := Lib.hid hf
  have hl := hR.lt
  have BX := Lib.hid (And.intro (And.intro m1 m2) (And.intro (And.intro d1 d2) (And.intro (And.intro k1 k2) (And.intro p1 p2))))
  clear hR hf m1 m2 d1 d2 k1 k2 p1 p2
  rcases hn : dr s.data.toList with _ | n
  · have N1 : Hid (ap 2 s.data.toList r = none) := Lib.hid (by simp [ap, hn])
    rw [hn, numA_none rfl] at KN
    clear hn
    go_enter Tryz.func126, Tryz.ntmps126
    go_wp2_with fail
    refine KN.out.mono ?_
    rintro e w1 ⟨rfl, hb⟩
    have R1 := HR.out.on hb
    have F1 := (bcell hb).2 b 3 hl
    rw [HF.out] at F1
    obtain ⟨q0, q1, q2, q3, q4, q5, q6, q7⟩ := id R1
    have hl1 := R1.lt
    have hB : Below b w w1 := hb.mono (by omega)
    go_wp2
    go_ret
    exact ⟨hB.setCell (Nat.le_refl _) _, Or.inl ⟨N1.out, rfl⟩⟩
  · have N1 : Hid (ap 2 s.data.toList r = some { r with till := n }) := Lib.hid (by simp [ap, hn])
    rw [hn, numA_some rfl] at KN
    clear hn
    go_enter Tryz.func126, Tryz.ntmps126
    go_wp2_with fail
    refine KN.out.mono ?_
    rintro e w1 ⟨rfl, hb⟩
    have R1 := HR.out.on hb
    have F1 := (bcell hb).2 b 3 hl
    rw [HF.out] at F1
    obtain ⟨q0, q1, q2, q3, q4, q5, q6, q7⟩ := id R1
    have hl1 := R1.lt
    have hB : Below b w w1 := hb.mono (by omega)
    have BN : Hid (BoxR (w1.setCell ⟨b, 3, none⟩ (.int .i64 n)) b { r with till := n }) := Lib.hid ⟨_, _, _, _, R1.set3 _, fun o => by rw [World.frozen?_setCell, (bcell hb).2 b o hl]; exact HF.out o, ⟨(BX.out.1.1.on hb).set BX.out.1.2 3 _, BX.out.1.2⟩, ⟨(BX.out.2.1.1.on hb).set BX.out.2.1.2 3 _, BX.out.2.1.2⟩, ⟨(BX.out.2.2.1.1.on hb).set BX.out.2.2.1.2 3 _, BX.out.2.2.1.2⟩, ⟨(BX.out.2.2.2.1.on hb).set BX.out.2.2.2.2 3 _, BX.out.2.2.2.2⟩⟩
    go_wp2
    go_ret
    exact ⟨hB.setCell (Nat.le_refl _) _, Or.inr ⟨_, N1.out, rfl, BN.out⟩⟩
set_option maxRecDepth 100000 in
set_option maxHeartbeats 2000000 in
theorem part_3 (s : ByteArray) (r : Rl) (b : Nat) (w : World) (h : BoxR w b r) (KN : Hid (Calls Tryz.prog 143 #[.string s, .func (.func 141) #[] #[]] w (ListA Ints w (lr (nr 4) s.data.toList)))) :
    Calls Tryz.prog 126 #[.pointer (some ⟨b, 0, none⟩), .int .i64 3, .string s] w (PartA w b (ap 3 s.data.toList r)) := by
  obtain ⟨vm, vd, vw, vp, hR, hf, ⟨m1, m2⟩, ⟨d1, d2⟩, ⟨k1, k2⟩, p1, p2⟩ := h
  have HR := Lib.hid hR
  have HF := Lib.hid hf
  have hl := hR.lt
  have BX := Lib.hid (And.intro (And.intro m1 m2) (And.intro (And.intro d1 d2) (And.intro (And.intro k1 k2) (And.intro p1 p2))))
  clear hR hf m1 m2 d1 d2 k1 k2 p1 p2
  go_enter Tryz.func126, Tryz.ntmps126
  go_wp2_with fail
  refine KN.out.mono ?_
  rintro e w1 ⟨hb, hv⟩
  have R1 := HR.out.on hb
  have F1 := (bcell hb).2 b 4 hl
  rw [HF.out] at F1
  obtain ⟨q0, q1, q2, q3, q4, q5, q6, q7⟩ := id R1
  have hl1 := R1.lt
  have hB : Below b w w1 := hb.mono (by omega)
  rcases hv with ⟨hn, rfl⟩ | ⟨xs, v, hn, rfl, RV, NV⟩
  · have N1 : Hid (ap 3 s.data.toList r = none) := Lib.hid (by simp [ap, hn])
    clear hn
    go_wp2
    go_ret
    exact ⟨hB.setCell (Nat.le_refl _) _, Or.inl ⟨N1.out, rfl⟩⟩
  · have N1 : Hid (ap 3 s.data.toList r = some { r with months := xs }) := Lib.hid (by simp [ap, hn])
    have FV : Far b v := Far.new NV hl
    have BN : Hid (BoxR (w1.setCell ⟨b, 4, none⟩ v) b { r with months := xs }) := Lib.hid ⟨_, _, _, _, R1.set4 _, fun o => by rw [World.frozen?_setCell, (bcell hb).2 b o hl]; exact HF.out o, ⟨RV.set FV 4 _, FV⟩, ⟨(BX.out.2.1.1.on hb).set BX.out.2.1.2 4 _, BX.out.2.1.2⟩, ⟨(BX.out.2.2.1.1.on hb).set BX.out.2.2.1.2 4 _, BX.out.2.2.1.2⟩, ⟨(BX.out.2.2.2.1.on hb).set BX.out.2.2.2.2 4 _, BX.out.2.2.2.2⟩⟩
    obtain ⟨va, vc, rfl, _⟩ := id RV
    clear hn RV NV FV
    go_wp2
    go_ret
    exact ⟨hB.setCell (Nat.le_refl _) _, Or.inr ⟨_, N1.out, rfl, BN.out⟩⟩
set_option maxRecDepth 100000 in
set_option maxHeartbeats 2000000 in
theorem part_4 (s : ByteArray) (r : Rl) (b : Nat) (w : World) (h : BoxR w b r) (KN : Hid (Calls Tryz.prog 143 #[.string s, .func (.func 141) #[] #[]] w (ListA Ints w (lr (nr 4) s.data.toList)))) :
    Calls Tryz.prog 126 #[.pointer (some ⟨b, 0, none⟩), .int .i64 4, .string s] w (PartA w b (ap 4 s.data.toList r)) := by
  obtain ⟨vm, vd, vw, vp, hR, hf, ⟨m1, m2⟩, ⟨d1, d2⟩, ⟨k1, k2⟩, p1, p2⟩ := h
  have HR := Lib.hid hR
  have HF := Lib.hid hf
  have hl := hR.lt
  have BX := Lib.hid (And.intro (And.intro m1 m2) (And.intro (And.intro d1 d2) (And.intro (And.intro k1 k2) (And.intro p1 p2))))
  clear hR hf m1 m2 d1 d2 k1 k2 p1 p2
  go_enter Tryz.func126, Tryz.ntmps126
  go_wp2_with fail
  refine KN.out.mono ?_
  rintro e w1 ⟨hb, hv⟩
  have R1 := HR.out.on hb
  have F1 := (bcell hb).2 b 5 hl
  rw [HF.out] at F1
  obtain ⟨q0, q1, q2, q3, q4, q5, q6, q7⟩ := id R1
  have hl1 := R1.lt
  have hB : Below b w w1 := hb.mono (by omega)
  rcases hv with ⟨hn, rfl⟩ | ⟨xs, v, hn, rfl, RV, NV⟩
  · have N1 : Hid (ap 4 s.data.toList r = none) := Lib.hid (by simp [ap, hn])
    clear hn
    go_wp2
    go_ret
    exact ⟨hB.setCell (Nat.le_refl _) _, Or.inl ⟨N1.out, rfl⟩⟩
  · have N1 : Hid (ap 4 s.data.toList r = some { r with days := xs }) := Lib.hid (by simp [ap, hn])
    have FV : Far b v := Far.new NV hl
    have BN : Hid (BoxR (w1.setCell ⟨b, 5, none⟩ v) b { r with days := xs }) := Lib.hid ⟨_, _, _, _, R1.set5 _, fun o => by rw [World.frozen?_setCell, (bcell hb).2 b o hl]; exact HF.out o, ⟨(BX.out.1.1.on hb).set BX.out.1.2 5 _, BX.out.1.2⟩, ⟨RV.set FV 5 _, FV⟩, ⟨(BX.out.2.2.1.1.on hb).set BX.out.2.2.1.2 5 _, BX.out.2.2.1.2⟩, ⟨(BX.out.2.2.2.1.on hb).set BX.out.2.2.2.2 5 _, BX.out.2.2.2.2⟩⟩
    obtain ⟨va, vc, rfl, _⟩ := id RV
    clear hn RV NV FV
    go_wp2
    go_ret
    exact ⟨hB.setCell (Nat.le_refl _) _, Or.inr ⟨_, N1.out, rfl, BN.out⟩⟩
set_option maxRecDepth 100000 in
set_option maxHeartbeats 2000000 in
theorem part_5 (s : ByteArray) (r : Rl) (b : Nat) (w : World) (h : BoxR w b r) (KN : Hid (Calls Tryz.prog 144 #[.string s, .func (.func 145) #[] #[]] w (ListA Nths w (lr wr s.data.toList)))) :
    Calls Tryz.prog 126 #[.pointer (some ⟨b, 0, none⟩), .int .i64 5, .string s] w (PartA w b (ap 5 s.data.toList r)) := by
  obtain ⟨vm, vd, vw, vp, hR, hf, ⟨m1, m2⟩, ⟨d1, d2⟩, ⟨k1, k2⟩, p1, p2⟩ := h
  have HR := Lib.hid hR
  have HF := Lib.hid hf
  have hl := hR.lt
  have BX := Lib.hid (And.intro (And.intro m1 m2) (And.intro (And.intro d1 d2) (And.intro (And.intro k1 k2) (And.intro p1 p2))))
  clear hR hf m1 m2 d1 d2 k1 k2 p1 p2
  go_enter Tryz.func126, Tryz.ntmps126
  go_wp2_with fail
  refine KN.out.mono ?_
  rintro e w1 ⟨hb, hv⟩
  have R1 := HR.out.on hb
  have F1 := (bcell hb).2 b 6 hl
  rw [HF.out] at F1
  obtain ⟨q0, q1, q2, q3, q4, q5, q6, q7⟩ := id R1
  have hl1 := R1.lt
  have hB : Below b w w1 := hb.mono (by omega)
  rcases hv with ⟨hn, rfl⟩ | ⟨xs, v, hn, rfl, RV, NV⟩
  · have N1 : Hid (ap 5 s.data.toList r = none) := Lib.hid (by simp [ap, hn])
    clear hn
    go_wp2
    go_ret
    exact ⟨hB.setCell (Nat.le_refl _) _, Or.inl ⟨N1.out, rfl⟩⟩
  · have N1 : Hid (ap 5 s.data.toList r = some { r with weeks := xs }) := Lib.hid (by simp [ap, hn])
    have FV : Far b v := Far.new NV hl
    have BN : Hid (BoxR (w1.setCell ⟨b, 6, none⟩ v) b { r with weeks := xs }) := Lib.hid ⟨_, _, _, _, R1.set6 _, fun o => by rw [World.frozen?_setCell, (bcell hb).2 b o hl]; exact HF.out o, ⟨(BX.out.1.1.on hb).set BX.out.1.2 6 _, BX.out.1.2⟩, ⟨(BX.out.2.1.1.on hb).set BX.out.2.1.2 6 _, BX.out.2.1.2⟩, ⟨RV.set FV 6 _, FV⟩, ⟨(BX.out.2.2.2.1.on hb).set BX.out.2.2.2.2 6 _, BX.out.2.2.2.2⟩⟩
    obtain ⟨va, vc, rfl, _⟩ := id RV
    clear hn RV NV FV
    go_wp2
    go_ret
    exact ⟨hB.setCell (Nat.le_refl _) _, Or.inr ⟨_, N1.out, rfl, BN.out⟩⟩
set_option maxRecDepth 100000 in
set_option maxHeartbeats 2000000 in
theorem part_6 (s : ByteArray) (r : Rl) (b : Nat) (w : World) (h : BoxR w b r) (KN : Hid (Calls Tryz.prog 143 #[.string s, .func (.func 141) #[] #[]] w (ListA Ints w (lr (nr 4) s.data.toList)))) :
    Calls Tryz.prog 126 #[.pointer (some ⟨b, 0, none⟩), .int .i64 6, .string s] w (PartA w b (ap 6 s.data.toList r)) := by
  obtain ⟨vm, vd, vw, vp, hR, hf, ⟨m1, m2⟩, ⟨d1, d2⟩, ⟨k1, k2⟩, p1, p2⟩ := h
  have HR := Lib.hid hR
  have HF := Lib.hid hf
  have hl := hR.lt
  have BX := Lib.hid (And.intro (And.intro m1 m2) (And.intro (And.intro d1 d2) (And.intro (And.intro k1 k2) (And.intro p1 p2))))
  clear hR hf m1 m2 d1 d2 k1 k2 p1 p2
  go_enter Tryz.func126, Tryz.ntmps126
  go_wp2_with fail
  refine KN.out.mono ?_
  rintro e w1 ⟨hb, hv⟩
  have R1 := HR.out.on hb
  have F1 := (bcell hb).2 b 7 hl
  rw [HF.out] at F1
  obtain ⟨q0, q1, q2, q3, q4, q5, q6, q7⟩ := id R1
  have hl1 := R1.lt
  have hB : Below b w w1 := hb.mono (by omega)
  rcases hv with ⟨hn, rfl⟩ | ⟨xs, v, hn, rfl, RV, NV⟩
  · have N1 : Hid (ap 6 s.data.toList r = none) := Lib.hid (by simp [ap, hn])
    clear hn
    go_wp2
    go_ret
    exact ⟨hB.setCell (Nat.le_refl _) _, Or.inl ⟨N1.out, rfl⟩⟩
  · have N1 : Hid (ap 6 s.data.toList r = some { r with pick := xs }) := Lib.hid (by simp [ap, hn])
    have FV : Far b v := Far.new NV hl
    have BN : Hid (BoxR (w1.setCell ⟨b, 7, none⟩ v) b { r with pick := xs }) := Lib.hid ⟨_, _, _, _, R1.set7 _, fun o => by rw [World.frozen?_setCell, (bcell hb).2 b o hl]; exact HF.out o, ⟨(BX.out.1.1.on hb).set BX.out.1.2 7 _, BX.out.1.2⟩, ⟨(BX.out.2.1.1.on hb).set BX.out.2.1.2 7 _, BX.out.2.1.2⟩, ⟨(BX.out.2.2.1.1.on hb).set BX.out.2.2.1.2 7 _, BX.out.2.2.1.2⟩, ⟨RV.set FV 7 _, FV⟩⟩
    obtain ⟨va, vc, rfl, _⟩ := id RV
    clear hn RV NV FV
    go_wp2
    go_ret
    exact ⟨hB.setCell (Nat.le_refl _) _, Or.inr ⟨_, N1.out, rfl, BN.out⟩⟩
end Go.Proofs.YtpplfcfhjpfckaaGreatDoor
namespace Go.Proofs.YtpplfcfhjpfckaaGreatDoor
open Go.RowKit Cal Txt

theorem idxP (k : Nat) (h : k < 7) (W : World) : (Instr.index 156 (.agg #[.string (tb (kw 0)), .string (tb (kw 1)), .string (tb (kw 2)), .string (tb (kw 3)), .string (tb (kw 4)), .string (tb (kw 5)), .string (tb (kw 6))]) (.int .i64 k)).run Tryz.prog W = .ok (.string (tb (kw k))) W := by
  rcases seven h with rfl | rfl | rfl | rfl | rfl | rfl | rfl <;> kernel_rfl
/-- A rule's value, its lists behind a block. -/
def RuleFr (w : World) (n : Nat) (v : Value) (r : Rl) : Prop :=
  ∃ vm vd vw vp, v = .agg #[.int .i64 r.freq, .int .i64 r.every, .int .i64 r.count, .int .i64 r.till, vm, vd, vw, vp] ∧ (Ints w vm r.months ∧ Far n vm) ∧ (Ints w vd r.days ∧ Far n vd) ∧ (Nths w vw r.weeks ∧ Far n vw) ∧ (Ints w vp r.pick ∧ Far n vp)
theorem Far.le {n m : Nat} {v : Value} (h : Far m v) (hn : n ≤ m) : Far n v := fun a k c e => Nat.lt_of_le_of_lt hn (h a k c e)
/-- What was read of words, and what is answered. -/
def WordsA (w : World) (o : Option Rl) (e : Ending) (w' : World) : Prop :=
  Below w.heap.size w w' ∧ ((o = none ∧ ∃ r v, e = .returned (.tuple #[v, .bool false]) ∧ RuleFr w' w.heap.size v r) ∨ ∃ r v, o = some r ∧ e = .returned (.tuple #[v, .bool true]) ∧ RuleFr w' w.heap.size v r)
/-- The rule of words, as rr has it. -/
def rw1 (ws : List (List UInt8)) : Option Rl := match ws with
  | [] => none
  | w :: ws => if fk w = 0 then none else rdF 7 (r0 (fk w)) ws
/-- Texts lie in a block. -/
def WdB (W : World) (b : Nat) (ps : List ByteArray) : Prop := ∀ (j : Nat) (h : j < ps.length), W.cell? ⟨b, j, none⟩ = some (.string ps[j])
/-- All that the reading of a part asks. -/
structure KeepP (W : World) : Prop where
  pow : Pow W
  ers : ErS W
  wdw : WdW W
  tab : Tab W
  paw : PaW W
  frw : FrW W
theorem KeepP.below {W W' : World} (h : KeepP W) (q : Below W.heap.size W W') : KeepP W' := ⟨h.pow.below q, h.ers.below q, h.wdw.below q, h.tab.below q, h.paw.below q, h.frw.below q⟩
theorem fN : ∀ args w, (callFunc 141 args).run Tryz.prog w = .ok (.enter 141 args) w := enters_of Tryz.func141 (by kernel_rfl) rfl
theorem fWk : ∀ args w, (callFunc 145 args).run Tryz.prog w = .ok (.enter 145 args) w := enters_of Tryz.func145 (by kernel_rfl) rfl
/-- parsePart, at any part. -/
theorem parsePart_any (k : Nat) (hk : k < 7) (s : ByteArray) (r : Rl) (b : Nat) (w : World) (h : BoxR w b r) (hK : KeepP w) (hs : s.size ≤ 2000000) :
    Calls Tryz.prog 126 #[.pointer (some ⟨b, 0, none⟩), .int .i64 k, .string s] w (PartA w b (ap k s.data.toList r)) := by
  have K1 := Lib.hid (parseNumber_any s w hK.pow hK.ers hs)
  have K2 := Lib.hid (parseDay_any s w hK.tab hs)
  have K3 := Lib.hid (parseList_int _ (nr 4) fN s w hs (fun x hx W hb => parseNumber_any x W (hK.pow.below hb) (hK.ers.below hb) (by omega)))
  have K4 := Lib.hid (parseList_nth _ wr fWk s w hs (fun x hx W hb => parseWeek_any x W (hK.pow.below hb) (hK.ers.below hb) (hK.wdw.below hb) (by omega)))
  rcases seven hk with rfl | rfl | rfl | rfl | rfl | rfl | rfl
  · exact part_0 s r b w h K1
  · exact part_1 s r b w h K1
  · exact part_2 s r b w h K2
  · exact part_3 s r b w h K3
  · exact part_4 s r b w h K3
  · exact part_5 s r b w h K4
  · exact part_6 s r b w h K3
theorem there_on {W W' : World} {B b n : Nat} (h : W.there b 0 n) (q : Below B W W') (hb : b < B) : W'.there b 0 n := fun j hj => by
  obtain ⟨h1, h2⟩ := h j hj
  rw [q.cell (p := ⟨b, 0 + j, none⟩) hb, q.frozen (p := ⟨b, 0 + j, none⟩) hb]
  exact ⟨h1, h2⟩
theorem there_new (W : World) (t : TypeId) : (W.alloc (.cells #[.int .i64 0, .int .i64 0, .int .i64 0, .int .i64 0, .slice none 0 0, .slice none 0 0, .slice none 0 0, .slice none 0 0] t)).there W.heap.size 0 8 := fun j hj => by
  rcases (by omega : j = 0 ∨ j = 1 ∨ j = 2 ∨ j = 3 ∨ j = 4 ∨ j = 5 ∨ j = 6 ∨ j = 7) with rfl | rfl | rfl | rfl | rfl | rfl | rfl | rfl <;> simp
theorem zero_in (w : World) (n : Nat) : RuleFr w n (.agg #[.int .i64 0, .int .i64 0, .int .i64 0, .int .i64 0, .slice none 0 0, .slice none 0 0, .slice none 0 0, .slice none 0 0]) ⟨0, 0, 0, 0, [], [], [], []⟩ :=
  ⟨_, _, _, _, rfl, ⟨⟨none, 0, rfl, Or.inl rfl⟩, Far.none _ _ _⟩, ⟨⟨none, 0, rfl, Or.inl rfl⟩, Far.none _ _ _⟩, ⟨⟨none, 0, rfl, Or.inl rfl⟩, Far.none _ _ _⟩, ⟨none, 0, rfl, Or.inl rfl⟩, Far.none _ _ _⟩
theorem box_new (W : World) (f : Int) (t : TypeId) : BoxR (W.alloc (.cells #[.int .i64 f, .int .i64 1, .int .i64 0, .int .i64 0, .slice none 0 0, .slice none 0 0, .slice none 0 0, .slice none 0 0] t)) W.heap.size (r0 f) :=
  ⟨_, _, _, _, RBox.new W f 1 0 0 (.slice none 0 0) (.slice none 0 0) (.slice none 0 0) (.slice none 0 0) t, fun o => by simp, ⟨⟨none, 0, rfl, Or.inl rfl⟩, Far.none _ _ _⟩, ⟨⟨none, 0, rfl, Or.inl rfl⟩, Far.none _ _ _⟩, ⟨⟨none, 0, rfl, Or.inl rfl⟩, Far.none _ _ _⟩, ⟨none, 0, rfl, Or.inl rfl⟩, Far.none _ _ _⟩
/-- The words from a place on. -/
def rest (ps : List ByteArray) (d : Nat) : List (List UInt8) := (ps.drop d).map (·.data.toList)
theorem rest_two {ps : List ByteArray} {d : Nat} (h : d + 1 < ps.length) : rest ps d = (ps[d]).data.toList :: (ps[d + 1]).data.toList :: rest ps (d + 2) := by
  unfold rest
  rw [List.drop_eq_getElem_cons (by omega), List.map_cons, List.drop_eq_getElem_cons h, List.map_cons]
theorem rest_len (ps : List ByteArray) (d : Nat) : (rest ps d).length = ps.length - d := by unfold rest; rw [List.length_map, List.length_drop]
theorem rdF_short (m : Nat) (r : Rl) (ws : List (List UInt8)) (h : ws.length < 2) : rdF (m + 1) r ws = rdF m r ws := by
  match ws, h with
  | [], _ => cases m <;> simp [rdF]
  | [a], _ => cases m <;> simp [rdF]
theorem rdF_skip {m : Nat} {r : Rl} {x y : List UInt8} {ws : List (List UInt8)} (h : x ≠ kw (6 - m)) : rdF (m + 1) r (x :: y :: ws) = rdF m r (x :: y :: ws) := by
  conv => lhs; unfold rdF
  dsimp only
  rw [if_neg h]
theorem rdF_no {m : Nat} {r : Rl} {x y : List UInt8} {ws : List (List UInt8)} (h : x = kw (6 - m)) (ha : ap (6 - m) y r = none) : rdF (m + 1) r (x :: y :: ws) = none := by
  conv => lhs; unfold rdF
  dsimp only
  rw [if_pos h, ha]
theorem rdF_yes {m : Nat} {r r' : Rl} {x y : List UInt8} {ws : List (List UInt8)} (h : x = kw (6 - m)) (ha : ap (6 - m) y r = some r') : rdF (m + 1) r (x :: y :: ws) = rdF m r' ws := by
  conv => lhs; unfold rdF
  dsimp only
  rw [if_pos h, ha]
theorem rdF_end {r : Rl} {ws : List (List UInt8)} : rdF 0 r ws = if ws = [] then some r else none := rfl
/-- Where what is left of the words lies. -/
def LeftA (bw n d : Nat) (a : Option Addr) : Prop := d < n → a = some ⟨bw, d, none⟩
theorem box_in {W : World} {b : Nat} {r : Rl} (h : BoxR W b r) : ∃ vm vd vw vp, RBox W b r.freq r.every r.count r.till vm vd vw vp ∧ (Ints W vm r.months ∧ Ints W vd r.days ∧ Nths W vw r.weeks ∧ Ints W vp r.pick) := by
  obtain ⟨vm, vd, vw, vp, hR, _, ⟨a1, _⟩, ⟨b1, _⟩, ⟨c1, _⟩, d1, _⟩ := h
  exact ⟨vm, vd, vw, vp, hR, a1, b1, c1, d1⟩
set_option maxRecDepth 100000 in
set_option maxHeartbeats 4000000 in
theorem parseWords_any (ps : List ByteArray) (bw : Nat) (w : World) (hp : WdB w bw ps) (hn : 0 < ps.length) (hl : ps.length ≤ 2000001) (hs : ∀ x ∈ ps, x.size ≤ 2000000) (hK : KeepP w) :
    Calls Tryz.prog 99 #[.slice (some ⟨bw, 0, none⟩) ps.length ps.length] w (WordsA w (rw1 (ps.map (·.data.toList)))) := by
  have c0 := hp 0 hn
  have hbw : bw < w.heap.size := cell_lt c0
  obtain ⟨x0, hx0⟩ : ∃ x, x = ps[0] := ⟨_, rfl⟩
  rw [← hx0] at c0
  have B0 : Below w.heap.size w (w.alloc (.cells #[.int .i64 0, .int .i64 0, .int .i64 0, .int .i64 0, .slice none 0 0, .slice none 0 0, .slice none 0 0, .slice none 0 0] 25)) := (Below.refl _ _).alloc (Nat.le_refl _) _
  have HB := Lib.hid B0
  have HT := Lib.hid (there_new w 25)
  have HK := Lib.hid (hK.below B0)
  have HP : Hid (WdB (w.alloc (.cells #[.int .i64 0, .int .i64 0, .int .i64 0, .int .i64 0, .slice none 0 0, .slice none 0 0, .slice none 0 0, .slice none 0 0] 25)) bw ps) := Lib.hid (fun j h => (B0.cell (p := ⟨bw, j, none⟩) hbw).trans (hp j h))
  have KF := Lib.hid (parseFreq_any x0 _ HK.out.frw)
  have RW : Hid (rw1 (ps.map (·.data.toList)) = if fk x0.data.toList = 0 then none else rdF 7 (r0 (fk x0.data.toList)) ((ps.drop 1).map (·.data.toList))) := Lib.hid (by
    cases ps with
    | nil => simp at hn
    | cons a r => rw [hx0]; rfl)
  have hK0 := hK
  have hp0 := hp
  have hs0 := hs
  clear B0 hp hK hx0 hs
  by_cases h0 : fk x0.data.toList = 0
  · rw [posA_none h0] at KF
    have N1 : Hid (rw1 (ps.map (·.data.toList)) = none) := Lib.hid (by rw [RW.out, if_pos h0])
    clear h0
    go_enter Tryz.func99, Tryz.ntmps99
    go_wp2_with fail
    refine KF.out.mono ?_
    rintro e w1 ⟨rfl, hw⟩
    subst hw
    go_wp2
    refine bodyPost_ret (v := .tuple #[.agg #[.int .i64 0, .int .i64 0, .int .i64 0, .int .i64 0, .slice none 0 0, .slice none 0 0, .slice none 0 0, .slice none 0 0], .bool false]) (by simp [results, Tryz.results99, go_sem]) rfl ⟨HB.out, Or.inl ⟨N1.out, _, _, rfl, zero_in _ _⟩⟩
  · have hf := fq_fk h0
    obtain ⟨f, hfe⟩ : ∃ f, f = fk x0.data.toList := ⟨_, rfl⟩
    rw [posA_some rfl h0] at KF
    rw [if_neg h0] at RW
    rw [← hfe] at KF RW hf
    clear h0 hfe
    go_enter Tryz.func99, Tryz.ntmps99
    go_wp2_with fail
    refine KF.out.mono ?_
    rintro e w1 ⟨rfl, hw⟩
    subst hw
    clear KF
    have pl1 : (1 : Int) ≤ ps.length := by omega
    go_wp2_with fail
    go_region_held3 (fun _ => True) (trivial) (fail)
    have X1 : Hid (BoxR ((w.alloc (.cells #[.int .i64 0, .int .i64 0, .int .i64 0, .int .i64 0, .slice none 0 0, .slice none 0 0, .slice none 0 0, .slice none 0 0] 25)).alloc (.cells #[.int .i64 f, .int .i64 1, .int .i64 0, .int .i64 0, .slice none 0 0, .slice none 0 0, .slice none 0 0, .slice none 0 0] 25)).drew (w.heap.size + 1) (r0 f)) := Lib.hid (by
      have := (box_new (w.alloc (.cells #[.int .i64 0, .int .i64 0, .int .i64 0, .int .i64 0, .slice none 0 0, .slice none 0 0, .slice none 0 0, .slice none 0 0] 25)) f 25).on (Below.drew (Below.refl _ _))
      simpa using this)
    have B1 : Hid (Below w.heap.size w ((w.alloc (.cells #[.int .i64 0, .int .i64 0, .int .i64 0, .int .i64 0, .slice none 0 0, .slice none 0 0, .slice none 0 0, .slice none 0 0] 25)).alloc (.cells #[.int .i64 f, .int .i64 1, .int .i64 0, .int .i64 0, .slice none 0 0, .slice none 0 0, .slice none 0 0, .slice none 0 0] 25)).drew) := Lib.hid ((HB.out.alloc HB.out.size _).drew)
    have T1 : Hid (((w.alloc (.cells #[.int .i64 0, .int .i64 0, .int .i64 0, .int .i64 0, .slice none 0 0, .slice none 0 0, .slice none 0 0, .slice none 0 0] 25)).alloc (.cells #[.int .i64 f, .int .i64 1, .int .i64 0, .int .i64 0, .slice none 0 0, .slice none 0 0, .slice none 0 0, .slice none 0 0] 25)).drew.there w.heap.size 0 8) := Lib.hid (there_on HT.out (((Below.refl _ _).alloc (Nat.le_refl _) _).drew) (by simp))
    have HKW : Hid (∀ W, Below w.heap.size w W → KeepP W) := Lib.hid (fun W q => hK0.below q)
    have HPW : Hid (∀ W, Below w.heap.size w W → WdB W bw ps) := Lib.hid (fun W q j h => (q.cell (p := ⟨bw, j, none⟩) hbw).trans (hp0 j h))
    clear HB HT HK HP hK0 hp0 c0 pl1
    generalize hav : (if ps.length = 1 then some (⟨bw, 0, none⟩ : Addr) else some ⟨bw, 1, none⟩) = av
    have LA : LeftA bw ps.length 1 av := fun h => by rw [← hav, if_neg (by omega)]
    clear hav
    generalize ((w.alloc (.cells #[.int .i64 0, .int .i64 0, .int .i64 0, .int .i64 0, .slice none 0 0, .slice none 0 0, .slice none 0 0, .slice none 0 0] 25)).alloc (.cells #[.int .i64 f, .int .i64 1, .int .i64 0, .int .i64 0, .slice none 0 0, .slice none 0 0, .slice none 0 0, .slice none 0 0] 25)).drew = W1 at X1 B1 T1 ⊢
    have P7 := (HKW.out _ B1.out).paw
    have e0 := P7 0 (by decide)
    have e1 := P7 1 (by decide)
    have e2 := P7 2 (by decide)
    have e3 := P7 3 (by decide)
    have e4 := P7 4 (by decide)
    have e5 := P7 5 (by decide)
    have e6 := P7 6 (by decide)
    clear P7
    go_wp2
    clear e0 e1 e2 e3 e4 e5 e6
    go_loopw [7, 25] (fun lv i wr => ∃ (k d : Nat) (a : Option Addr) (r : Rl), k ≤ 7 ∧ i = .int .i64 k ∧ d ≤ ps.length ∧ lv = .slice a (ps.length - d) (ps.length - d) ∧ LeftA bw ps.length d a ∧ BoxR wr (w.heap.size + 1) r ∧ Below (w.heap.size + 1) W1 wr ∧ rdF (7 - k) r (rest ps d) = rw1 (ps.map (·.data.toList))) (fun _ i _ => 7 - (intOf i).toNat)
    case atStart => exact ⟨0, 1, av, r0 f, by omega, rfl, by omega, rfl, LA, X1.out, Below.refl _ _, RW.out.symm⟩
    case round =>
      clear X1 LA
      obtain ⟨k, d, a, r, hk, rfl, hd, rfl, hLA, hX, hB, hI⟩ := hrel
      have hBw : Below w.heap.size w wr := B1.out.trans (hB.mono (by omega))
      have HX := Lib.hid hX
      have HBB := Lib.hid hB
      have HBW := Lib.hid hBw
      have HI := Lib.hid hI
      have HLA := Lib.hid hLA
      clear hX hB hBw hI hLA
      by_cases hlt : k < 7
      · have ix := idxP k hlt
        have k7 : (k : Int) < 7 := by omega
        have ek : 7 - k = (6 - k) + 1 := by omega
        have ek2 : 6 - (6 - k) = k := by omega
        have ek3 : 7 - (k + 1) = 6 - k := by omega
        by_cases h2 : ps.length - d < 2
        · have h2' : ((ps.length - d : Nat) : Int) < 2 := by omega
          have N1 : Hid (rdF (7 - (k + 1)) r (rest ps d) = rw1 (ps.map (·.data.toList))) := Lib.hid (by rw [ek3, ← HI.out, ek, rdF_short _ _ _ (by rw [rest_len]; exact h2)])
          clear ek ek2 ek3
          go_wp2
          go_roundw
          case rel => exact ⟨k + 1, d, a, r, by omega, by go_num, hd, rfl, HLA.out, HX.out, HBB.out, N1.out⟩
          case measure => simp [intOf]; omega
        · have h2' : (2 : Int) ≤ ((ps.length - d : Nat) : Int) := by omega
          have hdn : d + 1 < ps.length := by omega
          have ea : a = some ⟨bw, d, none⟩ := HLA.out (by omega)
          subst ea
          have WB := HPW.out _ HBW.out
          have cx := WB d (by omega)
          have cy := WB (d + 1) hdn
          obtain ⟨x, hx⟩ : ∃ x, x = ps[d] := ⟨_, rfl⟩
          obtain ⟨y, hy⟩ : ∃ y, y = ps[d + 1] := ⟨_, rfl⟩
          rw [← hx] at cx
          rw [← hy] at cy
          have hys : y.size ≤ 2000000 := by rw [hy]; exact hs0 _ (List.getElem_mem hdn)
          have RT : Hid (rest ps d = x.data.toList :: y.data.toList :: rest ps (d + 2)) := Lib.hid (by rw [hx, hy]; exact rest_two hdn)
          clear hx hy WB
          by_cases hw : x.data.toList = kw k
          · have e1 : (x.toList == (tb (kw k)).toList) = true := by rw [Lib.toList_data, Lib.toList_data, tb_data, hw]; simp
            have KP := Lib.hid (parsePart_any k hlt y r (w.heap.size + 1) wr HX.out (HKW.out _ HBW.out) hys)
            have HW := Lib.hid hw
            clear hw
            go_wp2_with fail
            refine KP.out.mono ?_
            rintro e w2 ⟨hb2, hv⟩
            have T3 := there_on T1.out (HBB.out.trans hb2) (Nat.lt_succ_self _)
            have BW := HBW.out.trans (hb2.mono (by omega))
            have B3 := Lib.hid (HBB.out.trans hb2)
            rcases hv with ⟨ho, rfl⟩ | ⟨r', ho, rfl, hX2⟩
            · have N1 : Hid (rw1 (ps.map (·.data.toList)) = none) := Lib.hid (by rw [← HI.out, ek, RT.out, rdF_no (by rw [ek2]; exact HW.out) (by rw [ek2]; exact ho)])
              clear ho ek ek2 ek3 hb2
              go_wp2_with (refine wpList_store_keep rfl 25 (.tmp 2) (.tmp 45) rfl w.heap.size #[.int .i64 0, .int .i64 0, .int .i64 0, .int .i64 0, .slice none 0 0, .slice none 0 0, .slice none 0 0, .slice none 0 0] rfl rfl T3 (by kernel_rfl) (by simp [Value.oneCell']) BW (Nat.le_refl _) ?_)
              intro W4 R4 B4 _
              have r0 := R4 0 _ rfl
              have r1 := R4 1 _ rfl
              have r2 := R4 2 _ rfl
              have r3 := R4 3 _ rfl
              have r4 := R4 4 _ rfl
              have r5 := R4 5 _ rfl
              have r6 := R4 6 _ rfl
              have r7 := R4 7 _ rfl
              simp only [Nat.zero_add] at r0 r1 r2 r3 r4 r5 r6 r7
              clear R4
              go_wp2
              refine bodyPost_ret (v := .tuple #[.agg #[.int .i64 0, .int .i64 0, .int .i64 0, .int .i64 0, .slice none 0 0, .slice none 0 0, .slice none 0 0, .slice none 0 0], .bool false]) (by simp [results, Tryz.results99, go_sem, r0, r1, r2, r3, r4, r5, r6, r7]) rfl ⟨B4, Or.inl ⟨N1.out, _, _, rfl, zero_in _ _⟩⟩
            · have N1 : Hid (rdF (7 - (k + 1)) r' (rest ps (d + 2)) = rw1 (ps.map (·.data.toList))) := Lib.hid (by rw [ek3, ← HI.out, ek, RT.out, rdF_yes (by rw [ek2]; exact HW.out) (by rw [ek2]; exact ho)])
              have HX2 := Lib.hid hX2
              clear ho ek ek2 ek3 hb2 hX2 T3 BW
              go_wp2
              go_roundw
              case rel => exact ⟨k + 1, d + 2, _, r', by omega, by go_num, by omega, by rw [show ps.length - (d + 2) = ps.length - d - 2 by omega], fun h => by rw [if_neg (by omega)], HX2.out, B3.out, N1.out⟩
              case measure => simp [intOf]; omega
          · have e1 : (x.toList == (tb (kw k)).toList) = false := by rw [Lib.toList_data, Lib.toList_data, tb_data]; simpa using hw
            have N1 : Hid (rdF (7 - (k + 1)) r (rest ps d) = rw1 (ps.map (·.data.toList))) := Lib.hid (by rw [ek3, ← HI.out, ek, RT.out, rdF_skip (by rw [ek2]; exact hw)])
            clear hw ek ek2 ek3
            go_wp2
            go_roundw
            case rel => exact ⟨k + 1, d, _, r, by omega, by go_num, hd, rfl, HLA.out, HX.out, HBB.out, N1.out⟩
            case measure => simp [intOf]; omega
      · obtain rfl : k = 7 := by omega
        have hI := HI.out
        rw [show 7 - 7 = 0 from rfl, rdF_end] at hI
        have T3 := there_on T1.out HBB.out (Nat.lt_succ_self _)
        obtain ⟨vm, vd, vw, vp, hR, hf, ⟨m1, m2⟩, ⟨d1, d2⟩, ⟨k1, k2⟩, p1, p2⟩ := HX.out
        have KI := Lib.hid (And.intro (And.intro m1 m2) (And.intro (And.intro d1 d2) (And.intro (And.intro k1 k2) (And.intro p1 p2))))
        obtain ⟨am, cm, rfl, _⟩ := id m1
        obtain ⟨ad, cd, rfl, _⟩ := id d1
        obtain ⟨aw, cw, rfl, _⟩ := id k1
        obtain ⟨ap, cp, rfl, _⟩ := id p1
        obtain ⟨q0, q1, q2, q3, q4, q5, q6, q7⟩ := hR
        have BW := HBW.out
        clear m1 m2 d1 d2 k1 k2 p1 p2 hf HX
        have fin : ∀ W4 : World, Below w.heap.size w W4 → (∀ g o, w.heap.size < g → W4.cell? ⟨g, o, none⟩ = wr.cell? ⟨g, o, none⟩) → RuleFr W4 w.heap.size (.agg #[.int .i64 r.freq, .int .i64 r.every, .int .i64 r.count, .int .i64 r.till, .slice am r.months.length cm, .slice ad r.days.length cd, .slice aw r.weeks.length cw, .slice ap r.pick.length cp]) r := fun W4 _ q => by
          obtain ⟨⟨m1, m2⟩, ⟨d1, d2⟩, ⟨k1, k2⟩, p1, p2⟩ := KI.out
          have q' : ∀ g o, w.heap.size + 1 < g → W4.cell? ⟨g, o, none⟩ = wr.cell? ⟨g, o, none⟩ := fun g o h => q g o (by omega)
          exact ⟨_, _, _, _, rfl, ⟨m1.keep m2 q', m2.le (by omega)⟩, ⟨d1.keep d2 q', d2.le (by omega)⟩, ⟨k1.keep k2 q', k2.le (by omega)⟩, p1.keep p2 q', p2.le (by omega)⟩
        have FN := Lib.hid fin
        clear fin KI
        by_cases hz : ps.length - d = 0
        · have N1 : Hid (rw1 (ps.map (·.data.toList)) = some r) := Lib.hid (by rw [← hI, if_pos (List.eq_nil_of_length_eq_zero (by rw [rest_len]; exact hz))])
          clear hI
          go_wp2_with (refine wpList_store_keep rfl 25 (.tmp 2) (.tmp 49) rfl w.heap.size _ rfl rfl T3 (by kernel_rfl) (by simp [Value.oneCell']) BW (Nat.le_refl _) ?_)
          intro W4 R4 B4 Q4
          have RI := Lib.hid (FN.out W4 B4 Q4)
          have r0 := R4 0 _ rfl
          have r1 := R4 1 _ rfl
          have r2 := R4 2 _ rfl
          have r3 := R4 3 _ rfl
          have r4 := R4 4 _ rfl
          have r5 := R4 5 _ rfl
          have r6 := R4 6 _ rfl
          have r7 := R4 7 _ rfl
          simp only [Nat.zero_add] at r0 r1 r2 r3 r4 r5 r6 r7
          clear R4 Q4
          go_wp2
          refine bodyPost_ret (v := .tuple #[.agg #[.int .i64 r.freq, .int .i64 r.every, .int .i64 r.count, .int .i64 r.till, .slice am r.months.length cm, .slice ad r.days.length cd, .slice aw r.weeks.length cw, .slice ap r.pick.length cp], .bool true]) (by simp [results, Tryz.results99, go_sem, r0, r1, r2, r3, r4, r5, r6, r7]) rfl ⟨B4, Or.inr ⟨_, _, N1.out, rfl, RI.out⟩⟩
        · have N1 : Hid (rw1 (ps.map (·.data.toList)) = none) := Lib.hid (by rw [← hI, if_neg (fun e => hz (by rw [← rest_len, e]; rfl))])
          have hz' : (((ps.length - d : Nat) : Int) == 0) = false := by rw [beq_eq_false_iff_ne]; omega
          clear hI
          go_wp2_with (refine wpList_store_keep rfl 25 (.tmp 2) (.tmp 49) rfl w.heap.size _ rfl rfl T3 (by kernel_rfl) (by simp [Value.oneCell']) BW (Nat.le_refl _) ?_)
          intro W4 R4 B4 Q4
          have RI := Lib.hid (FN.out W4 B4 Q4)
          have r0 := R4 0 _ rfl
          have r1 := R4 1 _ rfl
          have r2 := R4 2 _ rfl
          have r3 := R4 3 _ rfl
          have r4 := R4 4 _ rfl
          have r5 := R4 5 _ rfl
          have r6 := R4 6 _ rfl
          have r7 := R4 7 _ rfl
          simp only [Nat.zero_add] at r0 r1 r2 r3 r4 r5 r6 r7
          clear R4 Q4
          go_wp2
          refine bodyPost_ret (v := .tuple #[.agg #[.int .i64 r.freq, .int .i64 r.every, .int .i64 r.count, .int .i64 r.till, .slice am r.months.length cm, .slice ad r.days.length cd, .slice aw r.weeks.length cw, .slice ap r.pick.length cp], .bool false]) (by simp [results, Tryz.results99, go_sem, r0, r1, r2, r3, r4, r5, r6, r7]) rfl ⟨B4, Or.inl ⟨N1.out, _, _, rfl, RI.out⟩⟩
end Go.Proofs.YtpplfcfhjpfckaaGreatDoor
