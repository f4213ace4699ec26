/-
  What is proved here: what the closures of event.movedInto and event.asker, and event.asker itself, answer (contracts over the translation).
-/
import Derived.Test.YtdiijpjfkgnjkaeGreatDoorTiSty
namespace Go.Proofs.YtdiijpjfkgnjkaeGreatDoor
open Go.RowKit Cal Txt

theorem away_any (fr t : Int) (c : Int × Int) (fB tB : Nat) (w : World) (hf : w.cell? ⟨fB, 0, none⟩ = some (.int .i64 fr)) (ht : w.cell? ⟨tB, 0, none⟩ = some (.int .i64 t)) :
    Calls Tryz.prog 149 #[.agg #[.int .i64 c.1, .int .i64 c.2], .pointer (some ⟨fB, 0, none⟩), .pointer (some ⟨tB, 0, none⟩)] w fun e w' => e = .returned (.bool (!decide (fr ≤ c.2 ∧ c.2 ≤ t))) ∧ Below w.heap.size w w' := by
  have B0 := (Below.refl w.heap.size w).alloc (Nat.le_refl _) (.cells #[.int .i64 c.1, .int .i64 c.2] 54)
  have HB := Lib.hid B0
  have f1 := (B0.cell (p := ⟨fB, 0, none⟩) (ecell_in hf)).trans hf
  have t1 := (B0.cell (p := ⟨tB, 0, none⟩) (ecell_in ht)).trans ht
  have fl := ecell_in hf
  have tl := ecell_in ht
  clear B0 hf ht
  rcases hq : decide (fr ≤ c.2 ∧ c.2 ≤ t) with _ | _
  all_goals
    go_enter Tryz.func149, Tryz.ntmps149
    go_wp2_with (go_at_call 51; refine (isFrom_any _ _ _ _).mono ?_; rintro e w' ⟨rfl, hw⟩; replace hw := hw.symm; subst hw; rw [hq])
    go_ret
    exact ⟨rfl, HB.out⟩
theorem search2_any (l : List Int) (v : Value) (x : Int) (w : World) (hv : Ints w v l) (hr : l.Pairwise (· < ·)) (hl : l.length ≤ 1000000) :
    Calls Tryz.prog 58 #[v, .int .i64 x] w fun e w' => (∃ k, e = .returned (.tuple #[.int .i64 k, .bool (l.contains x)])) ∧ ∃ q, w' = w.drewN q := by
  obtain ⟨a, cap, rfl, hc⟩ := hv
  rcases hc with rfl | ⟨b, off, rfl, hc⟩
  · refine (Tryz.slices_BinarySearch_int_empty a cap x w).mono ?_
    rintro e w' ⟨rfl, rfl⟩
    exact ⟨⟨_, rfl⟩, 0, rfl⟩
  · refine (Tryz.slices_BinarySearch_int b off l.length cap l x w (Nat.le_refl _) (by omega) hc (by rw [List.take_length]; exact hr.imp (fun q => Int.le_of_lt q))).mono ?_
    rintro e w' ⟨rfl, q, rfl⟩
    exact ⟨⟨_, by rw [List.take_length]⟩, q, rfl⟩
set_option maxRecDepth 100000 in
theorem ask1_at (e : Evt) (s : Evs) (x : Int) (eB : Nat) (w : World) (hE : EBox w eB e s) (hv : EvB w e s) (hT : Tab w) (h : evF e = 0) :
    Calls Tryz.prog 191 #[.int .i64 x, .pointer (some ⟨eB, 0, none⟩)] w fun y w' => y = .returned (.bool (isEb e x)) ∧ Below w.heap.size w w' := by
  have K := Lib.hid (ebetween_any e s x x w hv hT h)
  have HE := Lib.hid hE
  have EI : Hid (isEb e x = !((evL (stL e x x) e x x).length == 0)) := Lib.hid rfl
  generalize isEb e x = R at EI ⊢
  generalize evL (stL e x x) e x x = L at K EI
  clear hE hv hT h
  go_enter Tryz.func191, Tryz.ntmps191
  go_wp2_with (refine ev_load ?h1 (.tmp 1) ?h2 eB e s ?h3 HE.out ?h4; (case h1 => rfl); (case h2 => rfl); (case h3 => rfl))
  refine K.out.mono ?_
  rintro y w1 ⟨v, rfl, hw, hb⟩
  obtain ⟨a, c, rfl, _⟩ := hw.ints
  have B1 := Lib.hid hb
  clear hb hw K HE
  generalize L.length = n at EI
  go_wp2
  go_ret
  exact ⟨ret_bool (by rw [EI.out, Bool.eq_iff_iff]; simp; omega), B1.out⟩
set_option maxRecDepth 100000 in
theorem ask2_at (l : List Int) (v : Value) (x : Int) (lB : Nat) (w : World) (hc : w.cell? ⟨lB, 0, none⟩ = some v) (hv : Ints w v l) (hr : l.Pairwise (· < ·)) (hl : l.length ≤ 1000000) :
    Calls Tryz.prog 192 #[.int .i64 x, .pointer (some ⟨lB, 0, none⟩)] w fun y w' => y = .returned (.bool (l.contains x)) ∧ Below w.heap.size w w' := by
  have K := Lib.hid (search2_any l v x w hv hr hl)
  have bl := ecell_in hc
  generalize l.contains x = R at K ⊢
  obtain ⟨a, c, rfl, _⟩ := hv
  clear hr hl
  go_enter Tryz.func192, Tryz.ntmps192
  go_wp2_with fail
  refine K.out.mono ?_
  rintro y w1 ⟨⟨k, rfl⟩, q, rfl⟩
  clear K hc
  go_wp2
  go_ret
  exact ⟨rfl, blw_drewN _ _ _⟩
/-- Blocks from n on are as they were. -/
def Kp (n : Nat) (w W : World) : Prop := ∀ k, n ≤ k → k < w.heap.size → W.heap[k]? = w.heap[k]?
theorem Kp.cell {n : Nat} {w W : World} (h : Kp n w W) {p : Addr} (h1 : n ≤ p.block) (h2 : p.block < w.heap.size) : W.cell? p = w.cell? p := by simp [World.cell?, h p.block h1 h2]
theorem kp_apt {n b : Nat} {w W : World} (h : Apt b w W) (hb : b < n) : Kp n w W := fun k k1 k2 => h.block k k2 (by omega)
theorem Kp.trans {n : Nat} {w W V : World} (h : Kp n w W) (k : Kp n W V) (hs : w.heap.size ≤ W.heap.size) : Kp n w V := fun i i1 i2 => (k i i1 (by omega)).trans (h i i1 i2)
theorem kp_below {n : Nat} {w W : World} (h : Below w.heap.size w W) : Kp n w W := fun k _ k2 => h.block k k2
/-- What asker answers: a question, and how it is answered ever after. -/
def AskA (w : World) (e : Evt) (s : Evs) (fr t : Int) (x : Ending) (w' : World) : Prop :=
  ∃ (g B : Nat) (q : Int → Bool), x = .returned (.tuple #[.func (.func g) #[] #[.pointer (some ⟨B, 0, none⟩)], .nilIface]) ∧ Below w.heap.size w w' ∧ (∀ args W, (callFunc g args).run Tryz.prog W = .ok (.enter g args) W) ∧
    (∀ y, fr ≤ y → y ≤ t → ist y = true → q y = isEb e y) ∧
    ∀ W, Kp w.heap.size w' W → EvB W e s → Tab W → ∀ y, Calls Tryz.prog g #[.int .i64 y, .pointer (some ⟨B, 0, none⟩)] W fun z W' => z = .returned (.bool (q y)) ∧ Below W.heap.size W W'
theorem apt_ebox {w W : World} {b eB : Nat} {e : Evt} {s : Evs} (h : EBox w eB e s) (q : Apt b w W) (hn : eB ≠ b) : EBox W eB e s := by
  have l := h.lt
  have k : ∀ (o : Nat) (v : Value), w.cell? ⟨eB, o, none⟩ = some v → W.cell? ⟨eB, o, none⟩ = some v := fun o v z => (q.cell (p := ⟨eB, o, none⟩) l hn).trans z
  obtain ⟨⟨a0, a1, a2, a3, a4⟩, ⟨b0, b1, b2, b3, b4, b5, b6, b7⟩, c0, c1, c2, c3⟩ := h
  exact ⟨⟨k _ _ a0, k _ _ a1, k _ _ a2, k _ _ a3, k _ _ a4⟩, ⟨k _ _ b0, k _ _ b1, k _ _ b2, k _ _ b3, k _ _ b4, k _ _ b5, k _ _ b6, k _ _ b7⟩, k _ _ c0, k _ _ c1, k _ _ c2, k _ _ c3⟩
theorem kp_ebox {w W : World} {n eB : Nat} {e : Evt} {s : Evs} (h : EBox w eB e s) (q : Kp n w W) (hn : n ≤ eB) : EBox W eB e s := by
  have l := h.lt
  have k : ∀ (o : Nat) (v : Value), w.cell? ⟨eB, o, none⟩ = some v → W.cell? ⟨eB, o, none⟩ = some v := fun o v z => (q.cell (p := ⟨eB, o, none⟩) hn l).trans z
  obtain ⟨⟨a0, a1, a2, a3, a4⟩, ⟨b0, b1, b2, b3, b4, b5, b6, b7⟩, c0, c1, c2, c3⟩ := h
  exact ⟨⟨k _ _ a0, k _ _ a1, k _ _ a2, k _ _ a3, k _ _ a4⟩, ⟨k _ _ b0, k _ _ b1, k _ _ b2, k _ _ b3, k _ _ b4, k _ _ b5, k _ _ b6, k _ _ b7⟩, k _ _ c0, k _ _ c1, k _ _ c2, k _ _ c3⟩
theorem wr_kp {w W : World} {n0 n : Nat} {v : Value} {l : List Int} (h : Wr n0 w v l) (q : Kp n w W) (hn : n ≤ n0) : Ints W v l := by
  obtain ⟨a, cap, rfl, _, _, hc⟩ := h.open
  refine ⟨a, cap, rfl, ?_⟩
  rcases hc with hc | ⟨g, off, rfl, hg, hh⟩
  · exact Or.inl hc
  · refine Or.inr ⟨g, off, rfl, fun i hi => ?_⟩
    have c := (hh i hi).1
    exact (q.cell (p := ⟨g, off + i, none⟩) (by show n ≤ g; omega) (ecell_in c)).trans c
theorem contains_is {e : Evt} {fr t y : Int} (h : evF e = 0) (hf : ist fr = true) (ht : ist t = true) (h1 : fr ≤ y) (h2 : y ≤ t) (hy : ist y = true) : (evL (stL e fr t) e fr t).contains y = isEb e y := by
  rw [Bool.eq_iff_iff, isEb_iff h hy, List.contains_iff_mem, evL_is h hf ht]
  exact ⟨fun q => q.1, fun q => ⟨q, h1, h2⟩⟩
set_option maxRecDepth 100000 in
set_option maxHeartbeats 2000000 in
theorem asker_any (e : Evt) (s : Evs) (fr t : Int) (w : World) (hv : EvB w e s) (hT : Tab w) (h : evF e = 0) (hf : ist fr = true) (ht : ist t = true) :
    Calls Tryz.prog 152 #[.agg (ecells e s), .int .i64 fr, .int .i64 t] w (AskA w e s fr t) := by
  have B0 := (Below.refl w.heap.size w).alloc (Nat.le_refl _) (.cells (ecells e s) 29)
  have R0 := EBox.new w e s 29
  obtain ⟨W0, hW⟩ : ∃ W0, W0 = w.alloc (.cells (ecells e s) 29) := ⟨_, rfl⟩
  rw [← hW] at B0 R0
  have HW := Lib.hid hW
  have HB := Lib.hid B0
  have HE := Lib.hid R0
  have K := Lib.hid (ebetween_any e s fr t W0 (hv.on B0) (hT.below B0) h)
  have H0 := Lib.hid (And.intro h (And.intro hf ht))
  have LL := Lib.hid (evL_len (fr := fr) (t := t) h (stL_len (fr := fr) (t := t) h))
  have c7 := R0.2.1.2.2.1
  have rl := R0.lt
  clear hv hT h hf ht B0 R0 hW
  rcases hq : (e.rule.count == 0) with _ | _
  case true =>
    have Z : Hid (AskA w e s fr t (.returned (.tuple #[.func (.func 191) #[] #[.pointer (some ⟨w.heap.size, 0, none⟩)], .nilIface])) W0) := Lib.hid
      ⟨191, w.heap.size, isEb e, rfl, HB.out, enters_of Tryz.func191 (by kernel_rfl) rfl, fun y _ _ _ => rfl, fun W qa hv' hT' y => ask1_at e s y w.heap.size W (kp_ebox HE.out qa (Nat.le_refl _)) hv' hT' H0.out.1⟩
    clear K
    go_enter Tryz.func152, Tryz.ntmps152
    go_upto_region 1 with fail
    rw [← HW.out]
    clear HW
    go_wp2
    go_ret2
    exact Z.out
  go_enter Tryz.func152, Tryz.ntmps152
  go_upto_region 1 with fail
  rw [← HW.out]
  clear HW
  go_wp2_with (refine ev_load ?h1 (.tmp 3) ?h2 w.heap.size e s ?h3 HE.out ?h4; (case h1 => rfl); (case h2 => rfl); (case h3 => rfl))
  refine K.out.mono ?_
  rintro y w1 ⟨v, rfl, hw, hb⟩
  have bA : Below w1.heap.size w1 (w1.alloc (.cells #[v] 22)) := (Below.refl _ _).alloc (Nat.le_refl _) _
  have Z : Hid (AskA w e s fr t (.returned (.tuple #[.func (.func 192) #[] #[.pointer (some ⟨w1.heap.size, 0, none⟩)], .nilIface])) (w1.alloc (.cells #[v] 22))) := Lib.hid (by
    have B1 := HB.out.trans (hb.mono HB.out.size)
    have cv : (w1.alloc (.cells #[v] 22)).cell? ⟨w1.heap.size, 0, none⟩ = some v := by simp
    refine ⟨192, w1.heap.size, fun z => (evL (stL e fr t) e fr t).contains z, rfl, B1.alloc B1.size _, enters_of Tryz.func192 (by kernel_rfl) rfl, fun z z1 z2 z3 => contains_is H0.out.1 H0.out.2.1 H0.out.2.2 z1 z2 z3, fun W qa hv' hT' z => ?_⟩
    have w1l : w.heap.size ≤ w1.heap.size := B1.size
    refine ask2_at _ v z w1.heap.size W ((qa.cell (p := ⟨w1.heap.size, 0, none⟩) w1l (ecell_in cv)).trans cv) ?_ (evL_rise _ _ _ _) (by have := LL.out; omega)
    have hw2 : Wr W0.heap.size (w1.alloc (.cells #[v] 22)) v (evL (stL e fr t) e fr t) := ow_below hw bA
    exact wr_kp hw2 qa HB.out.size)
  obtain ⟨a, c, rfl, _⟩ := hw.ints
  clear hb hw K HB HE c7 bA
  go_wp2
  go_ret2
  exact Z.out
end Go.Proofs.YtdiijpjfkgnjkaeGreatDoor
