/-
  What is proved here: what package period's closures over a rule answer of a day's place, and what asked makes (contracts over the translation).
-/
import Derived.Test.YtdiijpjfkgnjkadGreatDoorPeAsk2
import Derived.Laws.EntriesVeiled
namespace Go.Proofs.YtdiijpjfkgnjkadGreatDoor
open Go.RowKit Cal Txt

theorem PlBox.lt {W : World} {g : Nat} {a x b z : Int} (h : PlBox W g a x b z) : g < W.heap.size := by
  have k := h.1
  rcases Nat.lt_or_ge g W.heap.size with q | q
  · exact q
  · simp [World.cell?, Array.getElem?_eq_none q] at k
theorem PlBox.on {W W' : World} {g : Nat} {a x b z : Int} (h : PlBox W g a x b z) (q : Below W.heap.size W W') : PlBox W' g a x b z :=
  ⟨(q.cell (p := ⟨g, 4, none⟩) h.lt).trans h.1, (q.cell (p := ⟨g, 5, none⟩) h.lt).trans h.2.1, (q.cell (p := ⟨g, 6, none⟩) h.lt).trans h.2.2.1, (q.cell (p := ⟨g, 7, none⟩) h.lt).trans h.2.2.2⟩
theorem PlBox.new (W : World) (y m d l a x b z : Int) (t : TypeId) : PlBox (W.alloc (.cells #[.int .i64 y, .int .i64 m, .int .i64 d, .int .i64 l, .int .i64 a, .int .i64 x, .int .i64 b, .int .i64 z] t)) W.heap.size a x b z := ⟨by simp, by simp, by simp, by simp⟩
/-- Does a weekday fit, from either end or at all? -/
def fit3 (a x b z : Int) (q : Int × Int) : Bool := (q.1 == 0 && q.2 == x) || (q.1 == a && q.2 == x) || (q.1 == b && q.2 == z)
set_option maxRecDepth 100000 in
theorem ask3_any (r : Rl) (y m d l a x b z : Int) (g : Nat) (w : World) (hR : RlBox w g r) (hs : Sm r) :
    Calls Tryz.prog 145 #[.agg #[.int .i64 y, .int .i64 m, .int .i64 d, .int .i64 l, .int .i64 a, .int .i64 x, .int .i64 b, .int .i64 z], .pointer (some ⟨g, 0, none⟩)] w fun e w' => e = .returned (.bool (r.weeks.length == 0 || r.weeks.any (fit3 a x b z))) ∧ Below w.heap.size w w' := by
  have B0 := (Below.refl w.heap.size w).alloc (Nat.le_refl _) (.cells #[.int .i64 y, .int .i64 m, .int .i64 d, .int .i64 l, .int .i64 a, .int .i64 x, .int .i64 b, .int .i64 z] 170)
  have z0 : (w.alloc (.cells #[.int .i64 y, .int .i64 m, .int .i64 d, .int .i64 l, .int .i64 a, .int .i64 x, .int .i64 b, .int .i64 z] 170)).heap.size = w.heap.size + 1 := by simp
  have A1 : Below (w.alloc (.cells #[.int .i64 y, .int .i64 m, .int .i64 d, .int .i64 l, .int .i64 a, .int .i64 x, .int .i64 b, .int .i64 z] 170)).heap.size (w.alloc (.cells #[.int .i64 y, .int .i64 m, .int .i64 d, .int .i64 l, .int .i64 a, .int .i64 x, .int .i64 b, .int .i64 z] 170)) ((w.alloc (.cells #[.int .i64 y, .int .i64 m, .int .i64 d, .int .i64 l, .int .i64 a, .int .i64 x, .int .i64 b, .int .i64 z] 170)).alloc (.cells #[.int .i64 0, .int .i64 x] 69)) := (Below.refl _ _).alloc (Nat.le_refl _) _
  have B1 := B0.trans (A1.mono B0.size)
  have hP := (PlBox.new w y m d l a x b z 170).on A1
  have hT := Two.new (w.alloc (.cells #[.int .i64 y, .int .i64 m, .int .i64 d, .int .i64 l, .int .i64 a, .int .i64 x, .int .i64 b, .int .i64 z] 170)) 0 x 69
  rw [z0] at hT
  have gl := hR.lt
  have hR2 := hR.on B1
  obtain ⟨vm, vd, vw, vp, h0, h1, h2, h3, h4⟩ := hR
  have K := Lib.hid (containsFunc_any (.pointer (some ⟨w.heap.size + 1, 0, none⟩)) (.pointer (some ⟨w.heap.size, 0, none⟩)) (fun W => Two W (w.heap.size + 1) 0 x ∧ PlBox W w.heap.size a x b z) (fit3 a x b z)
    (fun W W' h q => ⟨h.1.on q, h.2.on q⟩) (fun q W h => fits_any q.1 q.2 a x b z 0 x (w.heap.size + 1) w.heap.size W h.1 h.2) vw r.weeks _ (h3.on B1) ⟨hT, hP⟩ (by have := hs.2.2; omega))
  obtain ⟨aw, cw, rfl, hc⟩ := h3
  obtain ⟨q0, q1, q2, q3, q4, q5, q6, q7⟩ := h0
  have HB := Lib.hid B1
  clear B0 A1 B1 h1 h2 h4 hc hP hT hR2
  rcases he : ((r.weeks.length : Int) == 0) with _ | _
  · have N1 : Hid ((r.weeks.length == 0) = false) := Lib.hid (by simp at he ⊢; omega)
    go_enter Tryz.func145, Tryz.ntmps145
    go_wp2_with fail
    refine K.out.mono ?_
    rintro e w1 ⟨rfl, hb⟩
    have B2 := Lib.hid (HB.out.trans (hb.mono HB.out.size))
    clear hb
    go_wp2
    go_ret
    exact ⟨ret_bool (by rw [N1.out, Bool.false_or]), B2.out⟩
  · have N1 : Hid ((r.weeks.length == 0) = true) := Lib.hid (by simp at he ⊢; omega)
    go_enter Tryz.func145, Tryz.ntmps145
    go_wp2
    go_ret
    exact ⟨ret_bool (by rw [N1.out, Bool.true_or]), HB.out⟩
/-- A day's place lies in a block. -/
def Pl8 (W : World) (g : Nat) (n : Int) : Prop := W.cell? ⟨g, 0, none⟩ = some (.int .i64 (yr n)) ∧ W.cell? ⟨g, 1, none⟩ = some (.int .i64 (mo n)) ∧ W.cell? ⟨g, 2, none⟩ = some (.int .i64 (da n)) ∧ W.cell? ⟨g, 3, none⟩ = some (.int .i64 (ml (yr n) (mo n))) ∧
  W.cell? ⟨g, 4, none⟩ = some (.int .i64 ((da n - 1) / 7 + 1)) ∧ W.cell? ⟨g, 5, none⟩ = some (.int .i64 (wd n)) ∧ W.cell? ⟨g, 6, none⟩ = some (.int .i64 (-((ml (yr n) (mo n) - da n) / 7) - 1)) ∧ W.cell? ⟨g, 7, none⟩ = some (.int .i64 (wd n))
theorem Pl8.lt {W : World} {g : Nat} {n : Int} (h : Pl8 W g n) : g < W.heap.size := by
  have k := h.1
  rcases Nat.lt_or_ge g W.heap.size with q | q
  · exact q
  · simp [World.cell?, Array.getElem?_eq_none q] at k
theorem Pl8.on {W W' : World} {g : Nat} {n : Int} (h : Pl8 W g n) (q : Below W.heap.size W W') : Pl8 W' g n := by
  have l := h.lt
  obtain ⟨h0, h1, h2, h3, h4, h5, h6, h7⟩ := h
  exact ⟨(q.cell (p := ⟨g, 0, none⟩) l).trans h0, (q.cell (p := ⟨g, 1, none⟩) l).trans h1, (q.cell (p := ⟨g, 2, none⟩) l).trans h2, (q.cell (p := ⟨g, 3, none⟩) l).trans h3, (q.cell (p := ⟨g, 4, none⟩) l).trans h4, (q.cell (p := ⟨g, 5, none⟩) l).trans h5, (q.cell (p := ⟨g, 6, none⟩) l).trans h6, (q.cell (p := ⟨g, 7, none⟩) l).trans h7⟩
theorem Pl8.new (W : World) (n : Int) (t : TypeId) : Pl8 (W.alloc (.cells #[.int .i64 (yr n), .int .i64 (mo n), .int .i64 (da n), .int .i64 (ml (yr n) (mo n)), .int .i64 ((da n - 1) / 7 + 1), .int .i64 (wd n), .int .i64 (-((ml (yr n) (mo n) - da n) / 7) - 1), .int .i64 (wd n)] t)) W.heap.size n := ⟨by simp, by simp, by simp, by simp, by simp, by simp, by simp, by simp⟩
/-- The three closures lie in blocks of their own, over a rule in a block. -/
def FunIn (W : World) (c : Nat) (r : Rl) : Prop := ∃ g, RlBox W g r ∧ W.cell? ⟨c, 0, none⟩ = some (.func (.func 141) #[] #[.pointer (some ⟨g, 0, none⟩)]) ∧ W.cell? ⟨c + 1, 0, none⟩ = some (.func (.func 143) #[] #[.pointer (some ⟨g, 0, none⟩)]) ∧ W.cell? ⟨c + 2, 0, none⟩ = some (.func (.func 145) #[] #[.pointer (some ⟨g, 0, none⟩)])
theorem cell_in {W : World} {p : Addr} {v : Value} (h : W.cell? p = some v) : p.block < W.heap.size := by
  rcases Nat.lt_or_ge p.block W.heap.size with q | q
  · exact q
  · simp [World.cell?, Array.getElem?_eq_none q] at h
theorem FunIn.on {W W' : World} {c : Nat} {r : Rl} (h : FunIn W c r) (q : Below W.heap.size W W') : FunIn W' c r := by
  obtain ⟨g, hR, h1, h2, h3⟩ := h
  exact ⟨g, hR.on q, (q.cell (p := ⟨c, 0, none⟩) (cell_in h1)).trans h1, (q.cell (p := ⟨c + 1, 0, none⟩) (cell_in h2)).trans h2, (q.cell (p := ⟨c + 2, 0, none⟩) (cell_in h3)).trans h3⟩
theorem fit3_eq (n : Int) (q : Int × Int) : fit3 ((da n - 1) / 7 + 1) (wd n) (-((ml (yr n) (mo n) - da n) / 7) - 1) (wd n) q = fitB q n := rfl
theorem askB_eq (r : Rl) (n : Int) : askB r n = ((r.months.length == 0 || r.months.contains (mo n)) && (r.days.length == 0 || nameB r.days (da n) (ml (yr n) (mo n))) && (r.weeks.length == 0 || r.weeks.any (fit3 ((da n - 1) / 7 + 1) (wd n) (-((ml (yr n) (mo n) - da n) / 7) - 1) (wd n)))) := rfl
set_option maxRecDepth 100000 in
set_option maxHeartbeats 1000000 in
theorem ask4_any (r : Rl) (n : Int) (c : Nat) (w : World) (hF : FunIn w c r) (hs : Sm r) (h1 : 1 ≤ n) (h2 : n ≤ 109573) :
    Calls Tryz.prog 148 #[.agg #[.int .i64 (yr n), .int .i64 (mo n), .int .i64 (da n), .int .i64 (ml (yr n) (mo n)), .int .i64 ((da n - 1) / 7 + 1), .int .i64 (wd n), .int .i64 (-((ml (yr n) (mo n) - da n) / 7) - 1), .int .i64 (wd n)], .pointer (some ⟨c, 0, none⟩), .pointer (some ⟨c + 1, 0, none⟩), .pointer (some ⟨c + 2, 0, none⟩)] w fun e w' => e = .returned (.bool (askB r n)) ∧ Below w.heap.size w w' := by
  obtain ⟨y1, y2, m1, m2, d1, d2⟩ := date_ok h1 h2
  have lb := ml_bd (yr n) (mo n)
  have B0 := (Below.refl w.heap.size w).alloc (Nat.le_refl _) (.cells #[.int .i64 (yr n), .int .i64 (mo n), .int .i64 (da n), .int .i64 (ml (yr n) (mo n)), .int .i64 ((da n - 1) / 7 + 1), .int .i64 (wd n), .int .i64 (-((ml (yr n) (mo n) - da n) / 7) - 1), .int .i64 (wd n)] 170)
  have HP : Hid (∀ W, Below w.heap.size w W → FunIn W c r) := Lib.hid (fun W q => hF.on q)
  have E := Lib.hid (askB_eq r n)
  have HB := Lib.hid B0
  clear B0 hF
  generalize hb1 : (r.months.length == 0 || r.months.contains (mo n)) = b1 at E
  generalize hb2 : (r.days.length == 0 || nameB r.days (da n) (ml (yr n) (mo n))) = b2 at E
  generalize hb3 : (r.weeks.length == 0 || r.weeks.any (fit3 ((da n - 1) / 7 + 1) (wd n) (-((ml (yr n) (mo n) - da n) / 7) - 1) (wd n))) = b3 at E
  have H1 := Lib.hid hb1
  have H2 := Lib.hid hb2
  have H3 := Lib.hid hb3
  clear hb1 hb2 hb3
  have HC := Lib.hid (Pl8.new w n 170)
  obtain ⟨g, hR, f1, f2, f3⟩ := HP.out _ (Below.refl _ _)
  have l1 := cell_in f1
  have K1 := Lib.hid (ask1_any r (yr n) (mo n) (da n) (ml (yr n) (mo n)) ((da n - 1) / 7 + 1) (wd n) (-((ml (yr n) (mo n) - da n) / 7) - 1) (wd n) g _ (hR.on HB.out) hs)
  rw [H1.out] at K1
  clear hR f2 f3
  go_enter Tryz.func148, Tryz.ntmps148
  go_wp2_with fail
  generalize w.alloc (.cells #[.int .i64 (yr n), .int .i64 (mo n), .int .i64 (da n), .int .i64 (ml (yr n) (mo n)), .int .i64 ((da n - 1) / 7 + 1), .int .i64 (wd n), .int .i64 (-((ml (yr n) (mo n) - da n) / 7) - 1), .int .i64 (wd n)] 170) = W0 at HC HB K1 ⊢
  refine K1.out.mono ?_
  rintro e w1 ⟨rfl, hb⟩
  have HB1 := Lib.hid (HB.out.trans (hb.mono HB.out.size))
  have HC1 := Lib.hid (HC.out.on hb)
  clear hb f1 l1 K1 HB HC
  rcases b1 with _ | _
  · have N1 := Lib.hid E.out
    clear E
    go_wp2
    go_ret
    exact ⟨ret_bool (by rw [N1.out]; rfl), HB1.out⟩
  obtain ⟨g, hR, f1, f2, f3⟩ := HP.out _ HB1.out
  have l1 := cell_in f2
  have K2 := Lib.hid (ask2_any r (yr n) (mo n) (da n) (ml (yr n) (mo n)) ((da n - 1) / 7 + 1) (wd n) (-((ml (yr n) (mo n) - da n) / 7) - 1) (wd n) g _ hR hs d1 (by omega) (by omega) (by omega))
  rw [H2.out] at K2
  have pl := HC1.out.lt
  obtain ⟨c0, c1, c2, c3, c4, c5, c6, c7⟩ := HC1.out
  clear hR f1 f3
  go_wp2_with fail
  clear c0 c1 c2 c3 c4 c5 c6 c7 pl f2 l1
  refine K2.out.mono ?_
  rintro e w2 ⟨rfl, hb⟩
  have HB2 := Lib.hid (HB1.out.trans (hb.mono HB1.out.size))
  have HC2 := Lib.hid (HC1.out.on hb)
  clear hb K2 HB1 HC1
  rcases b2 with _ | _
  · have N1 := Lib.hid E.out
    clear E
    go_wp2
    go_ret
    exact ⟨ret_bool (by rw [N1.out]; rfl), HB2.out⟩
  obtain ⟨g, hR, f1, f2, f3⟩ := HP.out _ HB2.out
  have l1 := cell_in f3
  have K3 := Lib.hid (ask3_any r (yr n) (mo n) (da n) (ml (yr n) (mo n)) ((da n - 1) / 7 + 1) (wd n) (-((ml (yr n) (mo n) - da n) / 7) - 1) (wd n) g _ hR hs)
  rw [H3.out] at K3
  have pl := HC2.out.lt
  obtain ⟨c0, c1, c2, c3, c4, c5, c6, c7⟩ := HC2.out
  clear hR f1 f2
  go_wp2_with fail
  clear c0 c1 c2 c3 c4 c5 c6 c7 pl f3 l1
  refine K3.out.mono ?_
  rintro e w3 ⟨rfl, hb⟩
  have HB3 := Lib.hid (HB2.out.trans (hb.mono HB2.out.size))
  have N1 := Lib.hid E.out
  clear hb K3 HB2 HC2 E
  go_wp2
  go_ret
  exact ⟨ret_bool (by rw [N1.out]; rfl), HB3.out⟩
theorem three_below (W : World) (o1 o2 o3 : Obj) : Below W.heap.size W (((W.alloc o1).alloc o2).alloc o3) :=
  (((Below.refl _ _).alloc (Nat.le_refl _) o1).alloc (by simp) o2).alloc (by simp; omega) o3
theorem cell_new (W : World) (v : Value) (t : TypeId) : (W.alloc (.cells #[v] t)).cell? ⟨W.heap.size, 0, none⟩ = some v := by simp
theorem cell_next {W : World} {b : Nat} {v : Value} (h : W.cell? ⟨b, 0, none⟩ = some v) (o : Obj) : (W.alloc o).cell? ⟨b, 0, none⟩ = some v :=
  (((Below.refl _ _).alloc (Nat.le_refl _) o : Below W.heap.size W (W.alloc o)).cell (p := ⟨b, 0, none⟩) (cell_in h)).trans h
theorem fun_new (W : World) (r : Rl) (g : Nat) (t : TypeId) (hR : RlBox W g r) : FunIn (((W.alloc (.cells #[.func (.func 141) #[] #[.pointer (some ⟨g, 0, none⟩)]] t)).alloc (.cells #[.func (.func 143) #[] #[.pointer (some ⟨g, 0, none⟩)]] t)).alloc (.cells #[.func (.func 145) #[] #[.pointer (some ⟨g, 0, none⟩)]] t)) W.heap.size r := by
  have B := three_below W (.cells #[.func (.func 141) #[] #[.pointer (some ⟨g, 0, none⟩)]] t) (.cells #[.func (.func 143) #[] #[.pointer (some ⟨g, 0, none⟩)]] t) (.cells #[.func (.func 145) #[] #[.pointer (some ⟨g, 0, none⟩)]] t)
  have c1 := cell_next (cell_next (cell_new W (.func (.func 141) #[] #[.pointer (some ⟨g, 0, none⟩)]) t) (.cells #[.func (.func 143) #[] #[.pointer (some ⟨g, 0, none⟩)]] t)) (.cells #[.func (.func 145) #[] #[.pointer (some ⟨g, 0, none⟩)]] t)
  have c2 := cell_next (cell_new (W.alloc (.cells #[.func (.func 141) #[] #[.pointer (some ⟨g, 0, none⟩)]] t)) (.func (.func 143) #[] #[.pointer (some ⟨g, 0, none⟩)]) t) (.cells #[.func (.func 145) #[] #[.pointer (some ⟨g, 0, none⟩)]] t)
  have c3 := cell_new ((W.alloc (.cells #[.func (.func 141) #[] #[.pointer (some ⟨g, 0, none⟩)]] t)).alloc (.cells #[.func (.func 143) #[] #[.pointer (some ⟨g, 0, none⟩)]] t)) (.func (.func 145) #[] #[.pointer (some ⟨g, 0, none⟩)]) t
  have e1 : (W.alloc (.cells #[.func (.func 141) #[] #[.pointer (some ⟨g, 0, none⟩)]] t)).heap.size = W.heap.size + 1 := by simp
  have e2 : ((W.alloc (.cells #[.func (.func 141) #[] #[.pointer (some ⟨g, 0, none⟩)]] t)).alloc (.cells #[.func (.func 143) #[] #[.pointer (some ⟨g, 0, none⟩)]] t)).heap.size = W.heap.size + 2 := by simp
  rw [e1] at c2
  rw [e2] at c3
  exact ⟨g, hR.on B, c1, c2, c3⟩
set_option maxRecDepth 100000 in
set_option maxHeartbeats 1000000 in
theorem asked_any (r : Rl) (v : Value) (w : World) (hv : RuleIn w v r) :
    Calls Tryz.prog 131 #[v] w fun e w' => e = .returned (.func (.func 148) #[] #[.pointer (some ⟨w.heap.size + 1, 0, none⟩), .pointer (some ⟨w.heap.size + 1 + 1, 0, none⟩), .pointer (some ⟨w.heap.size + 1 + 2, 0, none⟩)]) ∧ Below w.heap.size w w' ∧ FunIn w' (w.heap.size + 1) r := by
  obtain ⟨am, ad, aw, ap, cm, cd, cw, cp, rfl⟩ := hv.form
  have B0 := (Below.refl w.heap.size w).alloc (Nat.le_refl _) (.cells #[.int .i64 r.freq, .int .i64 r.every, .int .i64 r.count, .int .i64 r.till, .slice am r.months.length cm, .slice ad r.days.length cd, .slice aw r.weeks.length cw, .slice ap r.pick.length cp] 25)
  have hR : RlBox (w.alloc (.cells #[.int .i64 r.freq, .int .i64 r.every, .int .i64 r.count, .int .i64 r.till, .slice am r.months.length cm, .slice ad r.days.length cd, .slice aw r.weeks.length cw, .slice ap r.pick.length cp] 25)) w.heap.size r := by
    obtain ⟨vm, vd, vw, vp, e, h1, h2, h3, h4⟩ := hv.on B0
    simp only [Value.agg.injEq] at e
    obtain ⟨rfl, rfl, rfl, rfl⟩ : Value.slice am r.months.length cm = vm ∧ Value.slice ad r.days.length cd = vd ∧ Value.slice aw r.weeks.length cw = vw ∧ Value.slice ap r.pick.length cp = vp := by simpa using e
    exact ⟨_, _, _, _, RBox.new w r.freq r.every r.count r.till _ _ _ _ 25, h1, h2, h3, h4⟩
  have HR := Lib.hid hR
  have HB := Lib.hid B0
  have z0 : (w.alloc (.cells #[.int .i64 r.freq, .int .i64 r.every, .int .i64 r.count, .int .i64 r.till, .slice am r.months.length cm, .slice ad r.days.length cd, .slice aw r.weeks.length cw, .slice ap r.pick.length cp] 25)).heap.size = w.heap.size + 1 := by simp
  clear B0 hR hv
  go_enter Tryz.func131, Tryz.ntmps131
  go_wp2_with fail
  go_ret
  generalize w.alloc (.cells #[.int .i64 r.freq, .int .i64 r.every, .int .i64 r.count, .int .i64 r.till, .slice am r.months.length cm, .slice ad r.days.length cd, .slice aw r.weeks.length cw, .slice ap r.pick.length cp] 25) = W0 at HR HB z0 ⊢
  rw [← z0]
  exact ⟨rfl, HB.out.trans ((three_below W0 _ _ _).mono HB.out.size), fun_new W0 r w.heap.size _ HR.out⟩
end Go.Proofs.YtdiijpjfkgnjkadGreatDoor
