/-
  What is proved here: what package rule's parsePart answers, and what it writes into the rule (contracts over the translation).
-/
import Derived.Test.YtoafdacgekmomabGreatDoorRpWeek
namespace Go.Proofs.YtoafdacgekmomabGreatDoor
open Go.RowKit Cal Txt

/-- What a slice names lies behind a block. -/
def Far (b : Nat) (v : Value) : Prop := ∀ a k c, v = .slice (some a) k c → b < a.block
theorem Far.none (b n c : Nat) : Far b (.slice none n c) := fun a k c' h => by cases h
theorem Far.new {b n : Nat} {v : Value} (h : NewB n v) (hb : b < n) : Far b v := fun a k c e => by have := h a k c e; omega
theorem sc_other (W : World) {b g o i : Nat} (x : Value) (h : g ≠ b ∨ i ≠ o) : (W.setCell ⟨b, o, none⟩ x).cell? ⟨g, i, none⟩ = W.cell? ⟨g, i, none⟩ := by
  apply World.cell?_setCell_other
  intro q
  injection q with q1 q2 _
  rcases h with h | h
  · exact h q1.symm
  · exact h q2.symm
theorem sc_same {W : World} {b o : Nat} {u : Value} (x : Value) (h : W.cell? ⟨b, o, none⟩ = some u) : (W.setCell ⟨b, o, none⟩ x).cell? ⟨b, o, none⟩ = some x := by
  apply World.cell?_setCell_same
  exact h
theorem Ints.set {W : World} {v : Value} {l : List Int} (h : Ints W v l) {b : Nat} (hf : Far b v) (o : Nat) (x : Value) : Ints (W.setCell ⟨b, o, none⟩ x) v l := by
  obtain ⟨a, cap, e, hc⟩ := h
  refine ⟨a, cap, e, hc.imp id ?_⟩
  rintro ⟨g, off, ea, hc⟩
  refine ⟨g, off, ea, fun i hi => ?_⟩
  rw [sc_other W x (Or.inl (Nat.ne_of_gt (hf ⟨g, off, none⟩ _ _ (by rw [e, ea]))))]
  exact hc i hi
theorem Nths.set {W : World} {v : Value} {l : List (Int × Int)} (h : Nths W v l) {b : Nat} (hf : Far b v) (o : Nat) (x : Value) : Nths (W.setCell ⟨b, o, none⟩ x) v l := by
  obtain ⟨a, cap, e, hc⟩ := h
  refine ⟨a, cap, e, hc.imp id ?_⟩
  rintro ⟨g, off, ea, hc⟩
  refine ⟨g, off, ea, fun i hi => ?_⟩
  have hne : g ≠ b := Nat.ne_of_gt (hf ⟨g, off, none⟩ _ _ (by rw [e, ea]))
  rw [sc_other W x (Or.inl hne), sc_other W x (Or.inl hne)]
  exact hc i hi
/-- What lies behind a block is kept where all behind it is. -/
theorem Ints.keep {W W' : World} {v : Value} {l : List Int} (h : Ints W v l) {b : Nat} (hf : Far b v) (q : ∀ g o, b < g → W'.cell? ⟨g, o, none⟩ = W.cell? ⟨g, o, none⟩) : Ints W' v l := by
  obtain ⟨a, cap, e, hc⟩ := h
  refine ⟨a, cap, e, hc.imp id ?_⟩
  rintro ⟨g, off, ea, hc⟩
  exact ⟨g, off, ea, fun i hi => by rw [q _ _ (hf ⟨g, off, none⟩ _ _ (by rw [e, ea]))]; exact hc i hi⟩
theorem Nths.keep {W W' : World} {v : Value} {l : List (Int × Int)} (h : Nths W v l) {b : Nat} (hf : Far b v) (q : ∀ g o, b < g → W'.cell? ⟨g, o, none⟩ = W.cell? ⟨g, o, none⟩) : Nths W' v l := by
  obtain ⟨a, cap, e, hc⟩ := h
  refine ⟨a, cap, e, hc.imp id ?_⟩
  rintro ⟨g, off, ea, hc⟩
  have hg := hf ⟨g, off, none⟩ _ _ (by rw [e, ea])
  exact ⟨g, off, ea, fun i hi => by rw [q _ _ hg, q _ _ hg]; exact hc i hi⟩
theorem wpList_store_keep {P : Program} {ops : Array Oper} {rest : List Oper} {op : Oper} {a : Act} {w : World} {Q : Exit → Act → World → Prop} (hgd : op.guard = none) (ty : TypeId) (x y : Operand) (ho : op.op = .store ty x y)
    (b : Nat) (cells : Array Value) (hx : a.eval x = .pointer (some ⟨b, 0, none⟩)) (hy : a.eval y = .agg cells) (ht : w.there b 0 cells.size) (hi : (P.info? ty).map (·.size) = some cells.size) (h1 : cells.all (·.oneCell') = true)
    {B : Nat} {w0 : World} (hB : Below B w0 w) (hb : B ≤ b) (h : ∀ W4 : World, W4.rangeAt b 0 cells.toList → Below B w0 W4 → (∀ g o, b < g → W4.cell? ⟨g, o, none⟩ = w.cell? ⟨g, o, none⟩) → wpList P ops Q rest (a.put op.dst undef) W4) : wpList P ops Q (op :: rest) a w :=
  wpList_store_mid hgd ty x y ho b 0 cells hx hy ht hi h1 (h _ (World.rangeAt_setCells_same w b 0 cells.toList (by simpa using ht)) (below_setCells b cells.toList 0 w hB hb)
    (fun g o hg => World.cell?_setCells_out b cells.toList 0 w ⟨g, o, none⟩ (fun e _ => absurd e (Nat.ne_of_gt hg))))
/-- A rule lies in a block of a call's own, its lists elsewhere. -/
def BoxR (W : World) (b : Nat) (r : Rl) : Prop :=
  ∃ vm vd vw vp, RBox W b r.freq r.every r.count r.till vm vd vw vp ∧ (∀ o, W.frozen? ⟨b, o, none⟩ = false) ∧ (Ints W vm r.months ∧ Far b vm) ∧ (Ints W vd r.days ∧ Far b vd) ∧ (Nths W vw r.weeks ∧ Far b vw) ∧ (Ints W vp r.pick ∧ Far b vp)
theorem BoxR.lt {W : World} {b : Nat} {r : Rl} (h : BoxR W b r) : b < W.heap.size := by
  obtain ⟨_, _, _, _, hR, _⟩ := h
  exact hR.lt
theorem BoxR.on {W W' : World} {b : Nat} {r : Rl} (h : BoxR W b r) (q : Below W.heap.size W W') : BoxR W' b r := by
  have hl := h.lt
  obtain ⟨vm, vd, vw, vp, hR, hf, ⟨a1, a2⟩, ⟨b1, b2⟩, ⟨c1, c2⟩, d1, d2⟩ := h
  exact ⟨vm, vd, vw, vp, hR.on q, fun o => by rw [(bcell q).2 _ _ hl]; exact hf o, ⟨a1.on q, a2⟩, ⟨b1.on q, b2⟩, ⟨c1.on q, c2⟩, d1.on q, d2⟩
/-- What is answered of a part, and what lies in the rule then. -/
def PartA (w : World) (b : Nat) (o : Option Rl) (e : Ending) (w' : World) : Prop :=
  Below b w w' ∧ ((o = none ∧ e = .returned (.bool false)) ∨ ∃ r, o = some r ∧ e = .returned (.bool true) ∧ BoxR w' b r)
theorem RBox.set1 {W : World} {b : Nat} {f e c u : Int} {vm vd vw vp : Value} (h : RBox W b f e c u vm vd vw vp) (n : Int) : RBox (W.setCell ⟨b, 1, none⟩ (.int .i64 n)) b f n c u vm vd vw vp := by
  obtain ⟨h0, h1, h2, h3, h4, h5, h6, h7⟩ := h
  exact ⟨(sc_other W _ (Or.inr (by decide))).trans h0, sc_same _ h1, (sc_other W _ (Or.inr (by decide))).trans h2, (sc_other W _ (Or.inr (by decide))).trans h3, (sc_other W _ (Or.inr (by decide))).trans h4, (sc_other W _ (Or.inr (by decide))).trans h5, (sc_other W _ (Or.inr (by decide))).trans h6, (sc_other W _ (Or.inr (by decide))).trans h7⟩
theorem RBox.set2 {W : World} {b : Nat} {f e c u : Int} {vm vd vw vp : Value} (h : RBox W b f e c u vm vd vw vp) (n : Int) : RBox (W.setCell ⟨b, 2, none⟩ (.int .i64 n)) b f e n u vm vd vw vp := by
  obtain ⟨h0, h1, h2, h3, h4, h5, h6, h7⟩ := h
  exact ⟨(sc_other W _ (Or.inr (by decide))).trans h0, (sc_other W _ (Or.inr (by decide))).trans h1, sc_same _ h2, (sc_other W _ (Or.inr (by decide))).trans h3, (sc_other W _ (Or.inr (by decide))).trans h4, (sc_other W _ (Or.inr (by decide))).trans h5, (sc_other W _ (Or.inr (by decide))).trans h6, (sc_other W _ (Or.inr (by decide))).trans h7⟩
theorem RBox.set3 {W : World} {b : Nat} {f e c u : Int} {vm vd vw vp : Value} (h : RBox W b f e c u vm vd vw vp) (n : Int) : RBox (W.setCell ⟨b, 3, none⟩ (.int .i64 n)) b f e c n vm vd vw vp := by
  obtain ⟨h0, h1, h2, h3, h4, h5, h6, h7⟩ := h
  exact ⟨(sc_other W _ (Or.inr (by decide))).trans h0, (sc_other W _ (Or.inr (by decide))).trans h1, (sc_other W _ (Or.inr (by decide))).trans h2, sc_same _ h3, (sc_other W _ (Or.inr (by decide))).trans h4, (sc_other W _ (Or.inr (by decide))).trans h5, (sc_other W _ (Or.inr (by decide))).trans h6, (sc_other W _ (Or.inr (by decide))).trans h7⟩
theorem RBox.set4 {W : World} {b : Nat} {f e c u : Int} {vm vd vw vp : Value} (h : RBox W b f e c u vm vd vw vp) (v : Value) : RBox (W.setCell ⟨b, 4, none⟩ (v)) b f e c u v vd vw vp := by
  obtain ⟨h0, h1, h2, h3, h4, h5, h6, h7⟩ := h
  exact ⟨(sc_other W _ (Or.inr (by decide))).trans h0, (sc_other W _ (Or.inr (by decide))).trans h1, (sc_other W _ (Or.inr (by decide))).trans h2, (sc_other W _ (Or.inr (by decide))).trans h3, sc_same _ h4, (sc_other W _ (Or.inr (by decide))).trans h5, (sc_other W _ (Or.inr (by decide))).trans h6, (sc_other W _ (Or.inr (by decide))).trans h7⟩
theorem RBox.set5 {W : World} {b : Nat} {f e c u : Int} {vm vd vw vp : Value} (h : RBox W b f e c u vm vd vw vp) (v : Value) : RBox (W.setCell ⟨b, 5, none⟩ (v)) b f e c u vm v vw vp := by
  obtain ⟨h0, h1, h2, h3, h4, h5, h6, h7⟩ := h
  exact ⟨(sc_other W _ (Or.inr (by decide))).trans h0, (sc_other W _ (Or.inr (by decide))).trans h1, (sc_other W _ (Or.inr (by decide))).trans h2, (sc_other W _ (Or.inr (by decide))).trans h3, (sc_other W _ (Or.inr (by decide))).trans h4, sc_same _ h5, (sc_other W _ (Or.inr (by decide))).trans h6, (sc_other W _ (Or.inr (by decide))).trans h7⟩
theorem RBox.set6 {W : World} {b : Nat} {f e c u : Int} {vm vd vw vp : Value} (h : RBox W b f e c u vm vd vw vp) (v : Value) : RBox (W.setCell ⟨b, 6, none⟩ (v)) b f e c u vm vd v vp := by
  obtain ⟨h0, h1, h2, h3, h4, h5, h6, h7⟩ := h
  exact ⟨(sc_other W _ (Or.inr (by decide))).trans h0, (sc_other W _ (Or.inr (by decide))).trans h1, (sc_other W _ (Or.inr (by decide))).trans h2, (sc_other W _ (Or.inr (by decide))).trans h3, (sc_other W _ (Or.inr (by decide))).trans h4, (sc_other W _ (Or.inr (by decide))).trans h5, sc_same _ h6, (sc_other W _ (Or.inr (by decide))).trans h7⟩
theorem RBox.set7 {W : World} {b : Nat} {f e c u : Int} {vm vd vw vp : Value} (h : RBox W b f e c u vm vd vw vp) (v : Value) : RBox (W.setCell ⟨b, 7, none⟩ (v)) b f e c u vm vd vw v := by
  obtain ⟨h0, h1, h2, h3, h4, h5, h6, h7⟩ := h
  exact ⟨(sc_other W _ (Or.inr (by decide))).trans h0, (sc_other W _ (Or.inr (by decide))).trans h1, (sc_other W _ (Or.inr (by decide))).trans h2, (sc_other W _ (Or.inr (by decide))).trans h3, (sc_other W _ (Or.inr (by decide))).trans h4, (sc_other W _ (Or.inr (by decide))).trans h5, (sc_other W _ (Or.inr (by decide))).trans h6, sc_same _ h7⟩
set_option maxRecDepth 100000 in
set_option maxHeartbeats 2000000 in
theorem part_0 (s : ByteArray) (r : Rl) (b : Nat) (w : World) (h : BoxR w b r) (KN : Hid (Calls Tryz.prog 75 #[.string s] w fun e w' => e = .returned (numA (nr 4 s.data.toList)) ∧ Below w.heap.size w w')) :
    Calls Tryz.prog 61 #[.pointer (some ⟨b, 0, none⟩), .int .i64 0, .string s] w (PartA w b (ap 0 s.data.toList r)) := by
  obtain ⟨vm, vd, vw, vp, hR, hf, ⟨m1, m2⟩, ⟨d1, d2⟩, ⟨k1, k2⟩, p1, p2⟩ := h
  have HR := Lib.hid hR
  have HF := Lib.hid hf
  have hl := hR.lt
  have BX := Lib.hid (And.intro (And.intro m1 m2) (And.intro (And.intro d1 d2) (And.intro (And.intro k1 k2) (And.intro p1 p2))))
  clear hR hf m1 m2 d1 d2 k1 k2 p1 p2
  rcases hn : nr 4 s.data.toList with _ | n
  · have N1 : Hid (ap 0 s.data.toList r = none) := Lib.hid (by simp [ap, hn])
    rw [hn, numA_none rfl] at KN
    clear hn
    go_enter Tryz.func61, Tryz.ntmps61
    go_wp2_with fail
    refine KN.out.mono ?_
    rintro e w1 ⟨rfl, hb⟩
    have R1 := HR.out.on hb
    have F1 := (bcell hb).2 b 1 hl
    rw [HF.out] at F1
    obtain ⟨q0, q1, q2, q3, q4, q5, q6, q7⟩ := id R1
    have hl1 := R1.lt
    have hB : Below b w w1 := hb.mono (by omega)
    go_wp2
    go_ret
    exact ⟨hB.setCell (Nat.le_refl _) _, Or.inl ⟨N1.out, rfl⟩⟩
  · rw [hn, numA_some rfl] at KN
    by_cases hz : n = 1
    · have N1 : Hid (ap 0 s.data.toList r = none) := Lib.hid (by simp [ap, hn, hz])
      subst hz
      clear hn
      go_enter Tryz.func61, Tryz.ntmps61
      go_wp2_with fail
      refine KN.out.mono ?_
      rintro e w1 ⟨rfl, hb⟩
      have R1 := HR.out.on hb
      have F1 := (bcell hb).2 b 1 hl
      rw [HF.out] at F1
      obtain ⟨q0, q1, q2, q3, q4, q5, q6, q7⟩ := id R1
      have hl1 := R1.lt
      have hB : Below b w w1 := hb.mono (by omega)
      go_wp2
      go_ret
      exact ⟨hB.setCell (Nat.le_refl _) _, Or.inl ⟨N1.out, rfl⟩⟩
    · have N1 : Hid (ap 0 s.data.toList r = some { r with every := n }) := Lib.hid (by simp [ap, hn, hz])
      have hz' : (n != 1) = true := by simp [hz]
      clear hn hz
      go_enter Tryz.func61, Tryz.ntmps61
      go_wp2_with fail
      refine KN.out.mono ?_
      rintro e w1 ⟨rfl, hb⟩
      have R1 := HR.out.on hb
      have F1 := (bcell hb).2 b 1 hl
      rw [HF.out] at F1
      obtain ⟨q0, q1, q2, q3, q4, q5, q6, q7⟩ := id R1
      have hl1 := R1.lt
      have hB : Below b w w1 := hb.mono (by omega)
      have BN : Hid (BoxR (w1.setCell ⟨b, 1, none⟩ (.int .i64 n)) b { r with every := n }) := Lib.hid ⟨_, _, _, _, R1.set1 _, fun o => by rw [World.frozen?_setCell, (bcell hb).2 b o hl]; exact HF.out o, ⟨(BX.out.1.1.on hb).set BX.out.1.2 1 _, BX.out.1.2⟩, ⟨(BX.out.2.1.1.on hb).set BX.out.2.1.2 1 _, BX.out.2.1.2⟩, ⟨(BX.out.2.2.1.1.on hb).set BX.out.2.2.1.2 1 _, BX.out.2.2.1.2⟩, ⟨(BX.out.2.2.2.1.on hb).set BX.out.2.2.2.2 1 _, BX.out.2.2.2.2⟩⟩
      go_wp2
      go_ret
      exact ⟨hB.setCell (Nat.le_refl _) _, Or.inr ⟨_, N1.out, rfl, BN.out⟩⟩
set_option maxRecDepth 100000 in
set_option maxHeartbeats 2000000 in
theorem part_1 (s : ByteArray) (r : Rl) (b : Nat) (w : World) (h : BoxR w b r) (KN : Hid (Calls Tryz.prog 75 #[.string s] w fun e w' => e = .returned (numA (nr 4 s.data.toList)) ∧ Below w.heap.size w w')) :
    Calls Tryz.prog 61 #[.pointer (some ⟨b, 0, none⟩), .int .i64 1, .string s] w (PartA w b (ap 1 s.data.toList r)) := by
  obtain ⟨vm, vd, vw, vp, hR, hf, ⟨m1, m2⟩, ⟨d1, d2⟩, ⟨k1, k2⟩, p1, p2⟩ := h
  have HR := Lib.hid hR
  have HF := Lib.hid hf
  have hl := hR.lt
  have BX := Lib.hid (And.intro (And.intro m1 m2) (And.intro (And.intro d1 d2) (And.intro (And.intro k1 k2) (And.intro p1 p2))))
  clear hR hf m1 m2 d1 d2 k1 k2 p1 p2
  rcases hn : nr 4 s.data.toList with _ | n
  · have N1 : Hid (ap 1 s.data.toList r = none) := Lib.hid (by simp [ap, hn])
    rw [hn, numA_none rfl] at KN
    clear hn
    go_enter Tryz.func61, Tryz.ntmps61
    go_wp2_with fail
    refine KN.out.mono ?_
    rintro e w1 ⟨rfl, hb⟩
    have R1 := HR.out.on hb
    have F1 := (bcell hb).2 b 2 hl
    rw [HF.out] at F1
    obtain ⟨q0, q1, q2, q3, q4, q5, q6, q7⟩ := id R1
    have hl1 := R1.lt
    have hB : Below b w w1 := hb.mono (by omega)
    go_wp2
    go_ret
    exact ⟨hB.setCell (Nat.le_refl _) _, Or.inl ⟨N1.out, rfl⟩⟩
  · rw [hn, numA_some rfl] at KN
    by_cases hz : n = 0
    · have N1 : Hid (ap 1 s.data.toList r = none) := Lib.hid (by simp [ap, hn, hz])
      subst hz
      clear hn
      go_enter Tryz.func61, Tryz.ntmps61
      go_wp2_with fail
      refine KN.out.mono ?_
      rintro e w1 ⟨rfl, hb⟩
      have R1 := HR.out.on hb
      have F1 := (bcell hb).2 b 2 hl
      rw [HF.out] at F1
      obtain ⟨q0, q1, q2, q3, q4, q5, q6, q7⟩ := id R1
      have hl1 := R1.lt
      have hB : Below b w w1 := hb.mono (by omega)
      go_wp2
      go_ret
      exact ⟨hB.setCell (Nat.le_refl _) _, Or.inl ⟨N1.out, rfl⟩⟩
    · have N1 : Hid (ap 1 s.data.toList r = some { r with count := n }) := Lib.hid (by simp [ap, hn, hz])
      have hz' : (n != 0) = true := by simp [hz]
      clear hn hz
      go_enter Tryz.func61, Tryz.ntmps61
      go_wp2_with fail
      refine KN.out.mono ?_
      rintro e w1 ⟨rfl, hb⟩
      have R1 := HR.out.on hb
      have F1 := (bcell hb).2 b 2 hl
      rw [HF.out] at F1
      obtain ⟨q0, q1, q2, q3, q4, q5, q6, q7⟩ := id R1
      have hl1 := R1.lt
      have hB : Below b w w1 := hb.mono (by omega)
      have BN : Hid (BoxR (w1.setCell ⟨b, 2, none⟩ (.int .i64 n)) b { r with count := n }) := Lib.hid ⟨_, _, _, _, R1.set2 _, fun o => by rw [World.frozen?_setCell, (bcell hb).2 b o hl]; exact HF.out o, ⟨(BX.out.1.1.on hb).set BX.out.1.2 2 _, BX.out.1.2⟩, ⟨(BX.out.2.1.1.on hb).set BX.out.2.1.2 2 _, BX.out.2.1.2⟩, ⟨(BX.out.2.2.1.1.on hb).set BX.out.2.2.1.2 2 _, BX.out.2.2.1.2⟩, ⟨(BX.out.2.2.2.1.on hb).set BX.out.2.2.2.2 2 _, BX.out.2.2.2.2⟩⟩
      go_wp2
      go_ret
      exact ⟨hB.setCell (Nat.le_refl _) _, Or.inr ⟨_, N1.out, rfl, BN.out⟩⟩
set_option maxRecDepth 100000 in
set_option maxHeartbeats 2000000 in
theorem part_2 (s : ByteArray) (r : Rl) (b : Nat) (w : World) (h : BoxR w b r) (KN : Hid (Calls Tryz.prog 76 #[.string s] w fun e w' => e = .returned (numA (dr s.data.toList)) ∧ Below w.heap.size w w')) :
    Calls Tryz.prog 61 #[.pointer (some ⟨b, 0, none⟩), .int .i64 2, .string s] w (PartA w b (ap 2 s.data.toList r)) := by
  obtain ⟨vm, vd, vw, vp, hR, hf, ⟨m1, m2⟩, ⟨d1, d2⟩, ⟨k1, k2⟩, p1, p2⟩ := h
  have HR := Lib.hid hR
  have HF := Lib.hid hf
  have hl := hR.lt
  have BX := Lib.hid (And.intro (And.intro m1 m2) (And.intro (And.intro d1 d2) (And.intro (And.intro k1 k2) (And.intro p1 p2))))
  clear hR hf m1 m2 d1 d2 k1 k2 p1 p2
  rcases hn : dr s.data.toList with _ | n
  · have N1 : Hid (ap 2 s.data.toList r = none) := Lib.hid (by simp [ap, hn])
    rw [hn, numA_none rfl] at KN
    clear hn
    go_enter Tryz.func61, Tryz.ntmps61
    go_wp2_with fail
    refine KN.out.mono ?_
    rintro e w1 ⟨rfl, hb⟩
    have R1 := HR.out.on hb
    have F1 := (bcell hb).2 b 3 hl
    rw [HF.out] at F1
    obtain ⟨q0, q1, q2, q3, q4, q5, q6, q7⟩ := id R1
    have hl1 := R1.lt
    have hB : Below b w w1 := hb.mono (by omega)
    go_wp2
    go_ret
    exact ⟨hB.setCell (Nat.le_refl _) _, Or.inl ⟨N1.out, rfl⟩⟩
  · have N1 : Hid (ap 2 s.data.toList r = some { r with till := n }) := Lib.hid (by simp [ap, hn])
    rw [hn, numA_some rfl] at KN
    clear hn
    go_enter Tryz.func61, Tryz.ntmps61
    go_wp2_with fail
    refine KN.out.mono ?_
    rintro e w1 ⟨rfl, hb⟩
    have R1 := HR.out.on hb
    have F1 := (bcell hb).2 b 3 hl
    rw [HF.out] at F1
    obtain ⟨q0, q1, q2, q3, q4, q5, q6, q7⟩ := id R1
    have hl1 := R1.lt
    have hB : Below b w w1 := hb.mono (by omega)
    have BN : Hid (BoxR (w1.setCell ⟨b, 3, none⟩ (.int .i64 n)) b { r with till := n }) := Lib.hid ⟨_, _, _, _, R1.set3 _, fun o => by rw [World.frozen?_setCell, (bcell hb).2 b o hl]; exact HF.out o, ⟨(BX.out.1.1.on hb).set BX.out.1.2 3 _, BX.out.1.2⟩, ⟨(BX.out.2.1.1.on hb).set BX.out.2.1.2 3 _, BX.out.2.1.2⟩, ⟨(BX.out.2.2.1.1.on hb).set BX.out.2.2.1.2 3 _, BX.out.2.2.1.2⟩, ⟨(BX.out.2.2.2.1.on hb).set BX.out.2.2.2.2 3 _, BX.out.2.2.2.2⟩⟩
    go_wp2
    go_ret
    exact ⟨hB.setCell (Nat.le_refl _) _, Or.inr ⟨_, N1.out, rfl, BN.out⟩⟩
set_option maxRecDepth 100000 in
set_option maxHeartbeats 2000000 in
theorem part_3 (s : ByteArray) (r : Rl) (b : Nat) (w : World) (h : BoxR w b r) (KN : Hid (Calls Tryz.prog 77 #[.string s, .func (.func 75) #[] #[]] w (ListA Ints w (lr (nr 4) s.data.toList)))) :
    Calls Tryz.prog 61 #[.pointer (some ⟨b, 0, none⟩), .int .i64 3, .string s] w (PartA w b (ap 3 s.data.toList r)) := by
  obtain ⟨vm, vd, vw, vp, hR, hf, ⟨m1, m2⟩, ⟨d1, d2⟩, ⟨k1, k2⟩, p1, p2⟩ := h
  have HR := Lib.hid hR
  have HF := Lib.hid hf
  have hl := hR.lt
  have BX := Lib.hid (And.intro (And.intro m1 m2) (And.intro (And.intro d1 d2) (And.intro (And.intro k1 k2) (And.intro p1 p2))))
  clear hR hf m1 m2 d1 d2 k1 k2 p1 p2
  go_enter Tryz.func61, Tryz.ntmps61
  go_wp2_with fail
  refine KN.out.mono ?_
  rintro e w1 ⟨hb, hv⟩
  have R1 := HR.out.on hb
  have F1 := (bcell hb).2 b 4 hl
  rw [HF.out] at F1
  obtain ⟨q0, q1, q2, q3, q4, q5, q6, q7⟩ := id R1
  have hl1 := R1.lt
  have hB : Below b w w1 := hb.mono (by omega)
  rcases hv with ⟨hn, rfl⟩ | ⟨xs, v, hn, rfl, RV, NV⟩
  · have N1 : Hid (ap 3 s.data.toList r = none) := Lib.hid (by simp [ap, hn])
    clear hn
    go_wp2
    go_ret
    exact ⟨hB.setCell (Nat.le_refl _) _, Or.inl ⟨N1.out, rfl⟩⟩
  · have N1 : Hid (ap 3 s.data.toList r = some { r with months := xs }) := Lib.hid (by simp [ap, hn])
    have FV : Far b v := Far.new NV hl
    have BN : Hid (BoxR (w1.setCell ⟨b, 4, none⟩ v) b { r with months := xs }) := Lib.hid ⟨_, _, _, _, R1.set4 _, fun o => by rw [World.frozen?_setCell, (bcell hb).2 b o hl]; exact HF.out o, ⟨RV.set FV 4 _, FV⟩, ⟨(BX.out.2.1.1.on hb).set BX.out.2.1.2 4 _, BX.out.2.1.2⟩, ⟨(BX.out.2.2.1.1.on hb).set BX.out.2.2.1.2 4 _, BX.out.2.2.1.2⟩, ⟨(BX.out.2.2.2.1.on hb).set BX.out.2.2.2.2 4 _, BX.out.2.2.2.2⟩⟩
    obtain ⟨va, vc, rfl, _⟩ := id RV
    clear hn RV NV FV
    go_wp2
    go_ret
    exact ⟨hB.setCell (Nat.le_refl _) _, Or.inr ⟨_, N1.out, rfl, BN.out⟩⟩
set_option maxRecDepth 100000 in
set_option maxHeartbeats 2000000 in
theorem part_4 (s : ByteArray) (r : Rl) (b : Nat) (w : World) (h : BoxR w b r) (KN : Hid (Calls Tryz.prog 77 #[.string s, .func (.func 75) #[] #[]] w (ListA Ints w (lr (nr 4) s.data.toList)))) :
    Calls Tryz.prog 61 #[.pointer (some ⟨b, 0, none⟩), .int .i64 4, .string s] w (PartA w b (ap 4 s.data.toList r)) := by
  obtain ⟨vm, vd, vw, vp, hR, hf, ⟨m1, m2⟩, ⟨d1, d2⟩, ⟨k1, k2⟩, p1, p2⟩ := h
  have HR := Lib.hid hR
  have HF := Lib.hid hf
  have hl := hR.lt
  have BX := Lib.hid (And.intro (And.intro m1 m2) (And.intro (And.intro d1 d2) (And.intro (And.intro k1 k2) (And.intro p1 p2))))
  clear hR hf m1 m2 d1 d2 k1 k2 p1 p2
  go_enter Tryz.func61, Tryz.ntmps61
  go_wp2_with fail
  refine KN.out.mono ?_
  rintro e w1 ⟨hb, hv⟩
  have R1 := HR.out.on hb
  have F1 := (bcell hb).2 b 5 hl
  rw [HF.out] at F1
  obtain ⟨q0, q1, q2, q3, q4, q5, q6, q7⟩ := id R1
  have hl1 := R1.lt
  have hB : Below b w w1 := hb.mono (by omega)
  rcases hv with ⟨hn, rfl⟩ | ⟨xs, v, hn, rfl, RV, NV⟩
  · have N1 : Hid (ap 4 s.data.toList r = none) := Lib.hid (by simp [ap, hn])
    clear hn
    go_wp2
    go_ret
    exact ⟨hB.setCell (Nat.le_refl _) _, Or.inl ⟨N1.out, rfl⟩⟩
  · have N1 : Hid (ap 4 s.data.toList r = some { r with days := xs }) := Lib.hid (by simp [ap, hn])
    have FV : Far b v := Far.new NV hl
    have BN : Hid (BoxR (w1.setCell ⟨b, 5, none⟩ v) b { r with days := xs }) := Lib.hid ⟨_, _, _, _, R1.set5 _, fun o => by rw [World.frozen?_setCell, (bcell hb).2 b o hl]; exact HF.out o, ⟨(BX.out.1.1.on hb).set BX.out.1.2 5 _, BX.out.1.2⟩, ⟨RV.set FV 5 _, FV⟩, ⟨(BX.out.2.2.1.1.on hb).set BX.out.2.2.1.2 5 _, BX.out.2.2.1.2⟩, ⟨(BX.out.2.2.2.1.on hb).set BX.out.2.2.2.2 5 _, BX.out.2.2.2.2⟩⟩
    obtain ⟨va, vc, rfl, _⟩ := id RV
    clear hn RV NV FV
    go_wp2
    go_ret
    exact ⟨hB.setCell (Nat.le_refl _) _, Or.inr ⟨_, N1.out, rfl, BN.out⟩⟩
set_option maxRecDepth 100000 in
set_option maxHeartbeats 2000000 in
theorem part_5 (s : ByteArray) (r : Rl) (b : Nat) (w : World) (h : BoxR w b r) (KN : Hid (Calls Tryz.prog 78 #[.string s, .func (.func 79) #[] #[]] w (ListA Nths w (lr wr s.data.toList)))) :
    Calls Tryz.prog 61 #[.pointer (some ⟨b, 0, none⟩), .int .i64 5, .string s] w (PartA w b (ap 5 s.data.toList r)) := by
  obtain ⟨vm, vd, vw, vp, hR, hf, ⟨m1, m2⟩, ⟨d1, d2⟩, ⟨k1, k2⟩, p1, p2⟩ := h
  have HR := Lib.hid hR
  have HF := Lib.hid hf
  have hl := hR.lt
  have BX := Lib.hid (And.intro (And.intro m1 m2) (And.intro (And.intro d1 d2) (And.intro (And.intro k1 k2) (And.intro p1 p2))))
  clear hR hf m1 m2 d1 d2 k1 k2 p1 p2
  go_enter Tryz.func61, Tryz.ntmps61
  go_wp2_with fail
  refine KN.out.mono ?_
  rintro e w1 ⟨hb, hv⟩
  have R1 := HR.out.on hb
  have F1 := (bcell hb).2 b 6 hl
  rw [HF.out] at F1
  obtain ⟨q0, q1, q2, q3, q4, q5, q6, q7⟩ := id R1
  have hl1 := R1.lt
  have hB : Below b w w1 := hb.mono (by omega)
  rcases hv with ⟨hn, rfl⟩ | ⟨xs, v, hn, rfl, RV, NV⟩
  · have N1 : Hid (ap 5 s.data.toList r = none) := Lib.hid (by simp [ap, hn])
    clear hn
    go_wp2
    go_ret
    exact ⟨hB.setCell (Nat.le_refl _) _, Or.inl ⟨N1.out, rfl⟩⟩
  · have N1 : Hid (ap 5 s.data.toList r = some { r with weeks := xs }) := Lib.hid (by simp [ap, hn])
    have FV : Far b v := Far.new NV hl
    have BN : Hid (BoxR (w1.setCell ⟨b, 6, none⟩ v) b { r with weeks := xs }) := Lib.hid ⟨_, _, _, _, R1.set6 _, fun o => by rw [World.frozen?_setCell, (bcell hb).2 b o hl]; exact HF.out o, ⟨(BX.out.1.1.on hb).set BX.out.1.2 6 _, BX.out.1.2⟩, ⟨(BX.out.2.1.1.on hb).set BX.out.2.1.2 6 _, BX.out.2.1.2⟩, ⟨RV.set FV 6 _, FV⟩, ⟨(BX.out.2.2.2.1.on hb).set BX.out.2.2.2.2 6 _, BX.out.2.2.2.2⟩⟩
    obtain ⟨va, vc, rfl, _⟩ := id RV
    clear hn RV NV FV
    go_wp2
    go_ret
    exact ⟨hB.setCell (Nat.le_refl _) _, Or.inr ⟨_, N1.out, rfl, BN.out⟩⟩
set_option maxRecDepth 100000 in
set_option maxHeartbeats 2000000 in
theorem part_6 (s : ByteArray) (r : Rl) (b : Nat) (w : World) (h : BoxR w b r) (KN : Hid (Calls Tryz.prog 77 #[.string s, .func (.func 75) #[] #[]] w (ListA Ints w (lr (nr 4) s.data.toList)))) :
    Calls Tryz.prog 61 #[.pointer (some ⟨b, 0, none⟩), .int .i64 6, .string s] w (PartA w b (ap 6 s.data.toList r)) := by
  obtain ⟨vm, vd, vw, vp, hR, hf, ⟨m1, m2⟩, ⟨d1, d2⟩, ⟨k1, k2⟩, p1, p2⟩ := h
  have HR := Lib.hid hR
  have HF := Lib.hid hf
  have hl := hR.lt
  have BX := Lib.hid (And.intro (And.intro m1 m2) (And.intro (And.intro d1 d2) (And.intro (And.intro k1 k2) (And.intro p1 p2))))
  clear hR hf m1 m2 d1 d2 k1 k2 p1 p2
  go_enter Tryz.func61, Tryz.ntmps61
  go_wp2_with fail
  refine KN.out.mono ?_
  rintro e w1 ⟨hb, hv⟩
  have R1 := HR.out.on hb
  have F1 := (bcell hb).2 b 7 hl
  rw [HF.out] at F1
  obtain ⟨q0, q1, q2, q3, q4, q5, q6, q7⟩ := id R1
  have hl1 := R1.lt
  have hB : Below b w w1 := hb.mono (by omega)
  rcases hv with ⟨hn, rfl⟩ | ⟨xs, v, hn, rfl, RV, NV⟩
  · have N1 : Hid (ap 6 s.data.toList r = none) := Lib.hid (by simp [ap, hn])
    clear hn
    go_wp2
    go_ret
    exact ⟨hB.setCell (Nat.le_refl _) _, Or.inl ⟨N1.out, rfl⟩⟩
  · have N1 : Hid (ap 6 s.data.toList r = some { r with pick := xs }) := Lib.hid (by simp [ap, hn])
    have FV : Far b v := Far.new NV hl
    have BN : Hid (BoxR (w1.setCell ⟨b, 7, none⟩ v) b { r with pick := xs }) := Lib.hid ⟨_, _, _, _, R1.set7 _, fun o => by rw [World.frozen?_setCell, (bcell hb).2 b o hl]; exact HF.out o, ⟨(BX.out.1.1.on hb).set BX.out.1.2 7 _, BX.out.1.2⟩, ⟨(BX.out.2.1.1.on hb).set BX.out.2.1.2 7 _, BX.out.2.1.2⟩, ⟨(BX.out.2.2.1.1.on hb).set BX.out.2.2.1.2 7 _, BX.out.2.2.1.2⟩, ⟨RV.set FV 7 _, FV⟩⟩
    obtain ⟨va, vc, rfl, _⟩ := id RV
    clear hn RV NV FV
    go_wp2
    go_ret
    exact ⟨hB.setCell (Nat.le_refl _) _, Or.inr ⟨_, N1.out, rfl, BN.out⟩⟩
end Go.Proofs.YtoafdacgekmomabGreatDoor
