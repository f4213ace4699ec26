/-
  What is proved here: what package seq's Next answers (a contract over the translation).
-/
import Derived.Test.YtnnpnalfkcngmacGreatDoorBJ
namespace Go.Proofs.YtnnpnalfkcngmacGreatDoor
open Go.RowKit Go.Shelf Cal Txt
attribute [local go_sem] Oper.semAt_some

/-- The first one behind a day. -/
def stN (a : Int) (o : Option Int) (n : Int) : Option Int × Bool := if a < n then (some n, false) else (o, true)
theorem run_nxt (a : Int) : ∀ xs : List Int, run (stN a) none xs = (xs.find? (fun n => decide (a < n)), (xs.find? (fun n => decide (a < n))).isNone)
  | [] => rfl
  | n :: xs => by
    by_cases h : a < n
    · rw [run_no (show stN a none n = (some n, false) from if_pos h), List.find?_cons_of_pos (by simpa using h)]
      rfl
    · rw [run_yes (show stN a none n = (none, true) from if_neg h), List.find?_cons_of_neg (by simpa using h)]
      exact run_nxt a xs
/-- What Next answers. -/
def NxtV : Option Int → Value
  | some n => .tuple #[.int .i64 n, .nilIface]
  | none => .tuple #[.int .i64 0, .iface 61 (.int .i64 5)]
/-- The three boxes of Next. -/
def NxI (z : Nat) (a : Int) (u v : Value) (S : Nat → Prop) (X : World) : Prop := (∀ b, S b ↔ (b = z + 1 ∨ b = z + 2 ∨ b = z + 3)) ∧ Boxed X (z + 1) 3 (.int .i64 a) ∧ Boxed X (z + 2) 3 u ∧ Boxed X (z + 3) 33 v
theorem NxI.frm {z n0 : Nat} {a : Int} {σ : Type} (u v : σ → Value) (bd : σ → Prop) (h : n0 ≤ z + 1) : Frm n0 (fun (o : σ) S X => bd o ∧ NxI z a (u o) (v o) S X) := by
  refine ⟨fun o S X h b hb => ?_, fun o S X X' h q same => ?_⟩
  · obtain ⟨_, e, c1, c2, c3⟩ := h
    rcases (e b).1 hb with rfl | rfl | rfl
    · exact ⟨by omega, c1.lt⟩
    · exact ⟨by omega, c2.lt⟩
    · exact ⟨by omega, c3.lt⟩
  · obtain ⟨b0, e, c1, c2, c3⟩ := h
    exact ⟨b0, e, bxd_same c1 (same _ ((e _).2 (Or.inl rfl))), bxd_same c2 (same _ ((e _).2 (Or.inr (Or.inl rfl)))), bxd_same c3 (same _ ((e _).2 (Or.inr (Or.inr rfl))))⟩
theorem nx_cells {X : World} {z : Nat} {t t' : TypeId} {u0 v0 : Value} (h2 : Boxed X (z + 2) t u0) (h3 : Boxed X (z + 3) t' v0) (u u' : Value) :
    Boxed ((X.setCell ⟨z + 2, 0, none⟩ u).setCell ⟨z + 3, 0, none⟩ u') (z + 2) t u ∧ Boxed ((X.setCell ⟨z + 2, 0, none⟩ u).setCell ⟨z + 3, 0, none⟩ u') (z + 3) t' u' ∧ (∀ b, b ≠ z + 2 → b ≠ z + 3 → ((X.setCell ⟨z + 2, 0, none⟩ u).setCell ⟨z + 3, 0, none⟩ u').heap[b]? = X.heap[b]?) :=
  ⟨(h2.set u).other (by omega) _, (h3.other (by omega) _).set u', fun b h h' => (Below.heap_setCell _ _ _ _ h').trans (Below.heap_setCell _ _ _ _ h)⟩
theorem bxd_put {X : World} {b D : Nat} {t : TypeId} {u : Value} (h : Boxed X b t u) (hd : b ≠ D) (o : Obj) : Boxed (X.putObj D o) b t u := bxd_same h (World.putObj_heap_other hd)
set_option maxRecDepth 100000 in
set_option maxHeartbeats 4000000 in
theorem next_any (r : Rl) (v : Value) (s a : Int) (w : World) (hv : RuleIn w v r) (hT : Tab w) (hfr : a ≤ s ∨ a ≤ 9223372036854775807) :
    Calls Tryz.prog 12 #[v, .int .i64 s, .int .i64 a] w fun e w' => Below w.heap.size w w' ∧ ((sf r s ≠ 0 ∧ e = .returned (.tuple #[.int .i64 0, fault (sf r s)])) ∨ (sf r s = 0 ∧ e = .returned (NxtV ((btL r s a 109573).find? (fun n => decide (a < n)))))) := by
  obtain ⟨am, ad, aw, ap, cm, cd, cw, cp, rfl⟩ := hv.form
  obtain ⟨W, hW⟩ : ∃ W, W = ((((w.alloc (.cells #[.int .i64 r.freq, .int .i64 r.every, .int .i64 r.count, .int .i64 r.till, .slice am r.months.length cm, .slice ad r.days.length cd, .slice aw r.weeks.length cw, .slice ap r.pick.length cp] 25)).alloc (.cells #[.int .i64 a] 3)).alloc (.cells #[.int .i64 0] 3)).alloc (.cells #[.nilIface] 33)) := ⟨_, rfl⟩
  have hB : Below w.heap.size w W := by rw [hW]; exact ((((Below.refl _ _).alloc (Nat.le_refl _) _).alloc (by simp) _).alloc (by simp; omega) _).alloc (by simp; omega) _
  have zW : W.heap.size = w.heap.size + 4 := by rw [hW]; simp
  have hR : RlB W w.heap.size r am ad aw ap cm cd cw cp := by
    have h0 := RlB.new w r am ad aw ap cm cd cw cp
    unfold RlB at h0 ⊢
    rw [hW, Below.heap_alloc _ _ _ (by simp; omega), Below.heap_alloc _ _ _ (by simp; omega), Below.heap_alloc _ _ _ (by simp), h0]
  have b1 : Boxed W (w.heap.size + 1) 3 (.int .i64 a) := by
    have q := Boxed.new (w.alloc (.cells #[.int .i64 r.freq, .int .i64 r.every, .int .i64 r.count, .int .i64 r.till, .slice am r.months.length cm, .slice ad r.days.length cd, .slice aw r.weeks.length cw, .slice ap r.pick.length cp] 25)) 3 (.int .i64 a)
    rw [World.size_alloc] at q
    rw [hW]; exact (q.alloc _).alloc _
  have b2 : Boxed W (w.heap.size + 2) 3 (.int .i64 0) := by
    have q := Boxed.new ((w.alloc (.cells #[.int .i64 r.freq, .int .i64 r.every, .int .i64 r.count, .int .i64 r.till, .slice am r.months.length cm, .slice ad r.days.length cd, .slice aw r.weeks.length cw, .slice ap r.pick.length cp] 25)).alloc (.cells #[.int .i64 a] 3)) 3 (.int .i64 0)
    rw [World.size_alloc, World.size_alloc] at q
    rw [hW]; exact q.alloc _
  have b3 : Boxed W (w.heap.size + 3) 33 .nilIface := by
    have q := Boxed.new (((w.alloc (.cells #[.int .i64 r.freq, .int .i64 r.every, .int .i64 r.count, .int .i64 r.till, .slice am r.months.length cm, .slice ad r.days.length cd, .slice aw r.weeks.length cw, .slice ap r.pick.length cp] 25)).alloc (.cells #[.int .i64 a] 3)).alloc (.cells #[.int .i64 0] 3)) 33 .nilIface
    rw [World.size_alloc, World.size_alloc, World.size_alloc] at q
    rw [hW]; exact q
  have HS : Hid (∀ X, Below W.heap.size W X → X.cell? ⟨w.heap.size, 0, none⟩ = some (.int .i64 r.freq) ∧ X.cell? ⟨w.heap.size, 1, none⟩ = some (.int .i64 r.every) ∧ X.cell? ⟨w.heap.size, 2, none⟩ = some (.int .i64 r.count) ∧ X.cell? ⟨w.heap.size, 3, none⟩ = some (.int .i64 r.till) ∧ X.cell? ⟨w.heap.size, 4, none⟩ = some (.slice am r.months.length cm) ∧ X.cell? ⟨w.heap.size, 5, none⟩ = some (.slice ad r.days.length cd) ∧ X.cell? ⟨w.heap.size, 6, none⟩ = some (.slice aw r.weeks.length cw) ∧ X.cell? ⟨w.heap.size, 7, none⟩ = some (.slice ap r.pick.length cp) ∧ X.cell? ⟨w.heap.size + 1, 0, none⟩ = some (.int .i64 a)) := Lib.hid (fun X q => by
    obtain ⟨q0, q1, q2, q3, q4, q5, q6, q7⟩ := RlB.box (show RlB X w.heap.size r am ad aw ap cm cd cw cp from (q.block _ (by omega)).trans hR)
    exact ⟨q0, q1, q2, q3, q4, q5, q6, q7, (bxd_same b1 (q.block _ b1.lt)).cell⟩)
  have HX : Hid (∀ X, Below W.heap.size W X → Boxed X (w.heap.size + 1) 3 (.int .i64 a) ∧ Boxed X (w.heap.size + 2) 3 (.int .i64 0) ∧ Boxed X (w.heap.size + 3) 33 .nilIface) := Lib.hid (fun X q => ⟨bxd_same b1 (q.block _ b1.lt), bxd_same b2 (q.block _ b2.lt), bxd_same b3 (q.block _ b3.lt)⟩)
  have KB : Hid (∀ X, Below W.heap.size W X → Calls Tryz.prog 21 #[(.agg #[.int .i64 r.freq, .int .i64 r.every, .int .i64 r.count, .int .i64 r.till, .slice am r.months.length cm, .slice ad r.days.length cd, .slice aw r.weeks.length cw, .slice ap r.pick.length cp]), .int .i64 s, .int .i64 a, .int .i64 109573] X (BetN X w.heap.size r s a 109573)) := Lib.hid (fun X q => between_env w.heap.size r _ s a 109573 X ((Env.of hv hT).on (hB.trans (q.mono hB.size))) hfr)
  have HB := Lib.hid hB
  clear hv hT hB hR b1 b2 b3
  refine (callsIn_wide (n := 3)).1 ?_
  refine callsIn_of_wp_marks Tryz.func12 rfl trivial ?_ rfl
  simp only [Tryz.ntmps12, List.size_toArray, List.length_cons, List.length_nil, Nat.reduceAdd, Nat.reduceSub, Array.replicate_succ, Array.replicate_zero, List.push_toArray, List.append_toArray, List.nil_append, List.cons_append]
  gi_wp2_with fail
  rw [← hW]
  clear hW
  refine wpIn_wide.2 ?_
  go_region_held3 (fun X => X.cell? ⟨w.heap.size, 0, none⟩ = some (.int .i64 r.freq) ∧ X.cell? ⟨w.heap.size, 1, none⟩ = some (.int .i64 r.every) ∧ X.cell? ⟨w.heap.size, 2, none⟩ = some (.int .i64 r.count) ∧ X.cell? ⟨w.heap.size, 3, none⟩ = some (.int .i64 r.till) ∧ X.cell? ⟨w.heap.size, 4, none⟩ = some (.slice am r.months.length cm) ∧ X.cell? ⟨w.heap.size, 5, none⟩ = some (.slice ad r.days.length cd) ∧ X.cell? ⟨w.heap.size, 6, none⟩ = some (.slice aw r.weeks.length cw) ∧ X.cell? ⟨w.heap.size, 7, none⟩ = some (.slice ap r.pick.length cp) ∧ X.cell? ⟨w.heap.size + 1, 0, none⟩ = some (.int .i64 a))
    (first | exact HS.out _ (Below.refl _ _).drew | exact HS.out _ (Below.trans (Below.drew (Below.refl _ W)) hb2.1)) (first
    | (go_at_call 22; refine (last_any _).mono ?_; rintro e w2 ⟨rfl, rfl⟩)
    | (go_at_call 21; refine (KB.out _ (Below.refl _ W).drew).mono ?_; rintro e w3 hb2; obtain ⟨vf, ve, hve⟩ : ∃ vf ve, e = .returned (.tuple #[vf, ve]) := (by rcases hb2.2 with ⟨_, q⟩ | ⟨_, _, _, q, _⟩ <;> exact ⟨_, _, q⟩); subst hve))
  obtain ⟨hb3, hc⟩ := hb2
  have h4 : Below W.heap.size W w3 := Below.trans (Below.drew (Below.refl _ W)) hb3
  have B3 := Lib.hid (HB.out.trans (h4.mono HB.out.size))
  obtain ⟨e1, e2, e3⟩ := HX.out w3 h4
  clear HS KB HX
  rcases hc with ⟨k1, k2⟩ | ⟨k1, k2, lb, k3, hI⟩
  · obtain ⟨rfl, rfl⟩ : vf = .nilFunc ∧ ve = fault (sf r s) := by simpa using k2
    have K1 := Lib.hid k1
    rw [fault_ne k1]
    have c2 := e2.cell
    have c3 := e3.cell
    have f2 := e2.frozen
    have f3 := e3.frozen
    have BF : Hid (∀ u u', Below w.heap.size w ((w3.setCell ⟨w.heap.size + 2, 0, none⟩ u).setCell ⟨w.heap.size + 3, 0, none⟩ u')) := Lib.hid (fun u u' => (B3.out.setCell (by show w.heap.size ≤ w.heap.size + 2; omega) u).setCell (by show w.heap.size ≤ w.heap.size + 3; omega) u')
    obtain ⟨g2, g3, _⟩ := nx_cells e2 e3 (.int .i64 0) (.iface 61 (.int .i64 (sf r s)))
    have G2 := Lib.hid g2.cell
    have G3 := Lib.hid g3.cell
    clear k1 k2 hb3 h4 e1 e2 e3 g2 g3
    gi_wp2
    have q2 := G2.out
    have q3 := G3.out
    exact ⟨.tuple #[.int .i64 0, .iface 61 (.int .i64 (sf r s))], by simp [results, Tryz.results12, go_sem, q2, q3], BF.out _ _, Or.inl ⟨K1.out, by rw [fault_ne K1.out]⟩⟩
  · obtain ⟨rfl, rfl⟩ : vf = .func (.func 30) #[] lb ∧ ve = .nilIface := by simpa using k3
    have z3 : W.heap.size + 4 ≤ w3.heap.size := k2
    have K1 := Lib.hid k1
    have HI := Lib.hid hI
    clear k1 k2 k3 hI hb3 h4
    gi_wp2_with fail
    have FI : Frm w.heap.size (fun (o : Option Int) S X => o = none ∧ NxI w.heap.size a (.int .i64 0) .nilIface S X) := NxI.frm (z := w.heap.size) (n0 := w.heap.size) (fun (_ : Option Int) => .int .i64 0) (fun _ => .nilIface) (fun o => o = none) (by omega)
    have FX : Frm w.heap.size (fun (o : Option Int) S X => o.isSome = true ∧ NxI w.heap.size a (.int .i64 (o.getD 0)) .nilIface S X) := NxI.frm (z := w.heap.size) (n0 := w.heap.size) (fun (o : Option Int) => .int .i64 (o.getD 0)) (fun _ => .nilIface) (fun o => o.isSome = true) (by omega)
    refine rf_law (gf := 30) (lb := lb) rfl (enters_of Tryz.func30 (by kernel_rfl) rfl) HI.out (Below.refl _ _) (by omega) (stN a)
      (fun (o : Option Int) S X => o = none ∧ NxI w.heap.size a (.int .i64 0) .nilIface S X) (fun c (o : Option Int) S X => c = .ret ∧ (o.isSome = true ∧ NxI w.heap.size a (.int .i64 (o.getD 0)) .nilIface S X))
      FI (fun c => ⟨fun y S X h => FX.lt y S X h.2, fun y S X X' h q p => ⟨h.1, FX.on y S X X' h.2 q p⟩⟩) none (fun b => b = w.heap.size + 1 ∨ b = w.heap.size + 2 ∨ b = w.heap.size + 3) ⟨rfl, fun b => Iff.rfl, e1, e2, e3⟩ ?hT rfl ?a1 ?assign ?body ?done ?stop
    case hT =>
      rintro b ⟨t1, t2⟩
      have t3 : W.heap.size ≤ b := t1
      have t4 : b < W.heap.size + 4 := t2
      exact ⟨by omega, by omega, by omega, rfl⟩
    case assign =>
      intro l' n X K hK
      gi_wp2
      exact hK
    case body =>
      rintro l' o S n X ⟨rfl, he, c1, c2, c3⟩ hnX
      have k1 := c1.cell
      have k2 := c2.cell
      have k3 := c3.cell
      have f2 := c2.frozen
      have f3 := c3.frozen
      by_cases han : a < n
      · have EF : Hid (stN a none n = (some n, false)) := Lib.hid (if_pos han)
        obtain ⟨g2, g3, g4⟩ := nx_cells c2 c3 (.int .i64 n) .nilIface
        have ZZ := Lib.hid (show Kps S X ((X.setCell ⟨w.heap.size + 2, 0, none⟩ (.int .i64 n)).setCell ⟨w.heap.size + 3, 0, none⟩ .nilIface) ∧ NxI w.heap.size a (.int .i64 n) .nilIface S ((X.setCell ⟨w.heap.size + 2, 0, none⟩ (.int .i64 n)).setCell ⟨w.heap.size + 3, 0, none⟩ .nilIface) from
          ⟨((Kps.set (S := S) (p := ⟨w.heap.size + 2, 0, none⟩) _ ((he _).2 (Or.inr (Or.inl rfl)))).trans (Kps.set (S := S) (p := ⟨w.heap.size + 3, 0, none⟩) _ ((he _).2 (Or.inr (Or.inr rfl)))) (Gr.refl _ _)), he, bxd_same c1 (g4 _ (by omega) (by omega)), g2, g3⟩)
        clear he c1 c2 c3 g2 g3 g4
        gi_wp2
        exact ⟨_, S, EF.out, Gr.refl _ _, ZZ.out.1, rfl, rfl, ZZ.out.2⟩
      · have EF : Hid (stN a none n = (none, true)) := Lib.hid (if_neg han)
        have ZZ := Lib.hid (show NxI w.heap.size a (.int .i64 0) .nilIface S X from ⟨he, c1, c2, c3⟩)
        clear he c1 c2 c3
        gi_wp2
        exact ⟨_, S, EF.out, Gr.refl _ _, Kps.refl _ _, rfl, ZZ.out⟩
    case done =>
      rintro D o S X hD hSD hrun ⟨rfl, he, c1, c2, c3⟩ hg3 hk3 hDd
      have FN : Hid ((btL r s a 109573).find? (fun n => decide (a < n)) = none) := Lib.hid (by have q := run_nxt a (btL r s a 109573); rw [hrun] at q; exact (congrArg Prod.fst q).symm)
      have k2 := c2.cell
      have k3 := c3.cell
      have f2 := c2.frozen
      have f3 := c3.frozen
      obtain ⟨g2, g3, g4⟩ := nx_cells c2 c3 (.int .i64 0) (.iface 61 (.int .i64 5))
      have hBX : Below w.heap.size w X := B3.out.trans (hk3.below (fun b hb => hb.elim (fun z => by omega) (fun z => by have q : W.heap.size ≤ b := z.1; omega)) (by omega))
      have H1 := Lib.hid ((g4 D (by omega) (by omega)).trans hDd)
      have H2 := Lib.hid (bxd_put g2 (show w.heap.size + 2 ≠ D by omega) (.deferred none)).cell
      have H3 := Lib.hid (bxd_put g3 (show w.heap.size + 3 ≠ D by omega) (.deferred none)).cell
      have H4 : Hid (Below w.heap.size w (((X.setCell ⟨w.heap.size + 2, 0, none⟩ (.int .i64 0)).setCell ⟨w.heap.size + 3, 0, none⟩ (.iface 61 (.int .i64 5))).putObj D (.deferred none))) := Lib.hid (by
        have q : Below w.heap.size w ((X.setCell ⟨w.heap.size + 2, 0, none⟩ (.int .i64 0)).setCell ⟨w.heap.size + 3, 0, none⟩ (.iface 61 (.int .i64 5))) := (hBX.setCell (by show w.heap.size ≤ w.heap.size + 2; omega) _).setCell (by show w.heap.size ≤ w.heap.size + 3; omega) _
        exact q.trans ((Kps.put (S := fun b => b = D) _ rfl).below (fun b e => by omega) q.size))
      clear hrun he c1 c2 c3 g2 g3 g4 hg3 hk3 hDd hBX e1 e2 e3
      gi_wp2
      have q2 := H2.out
      have q3 := H3.out
      refine ⟨by simp, .inl ⟨_, _, rfl, run_takeDeferred H1.out, ?_⟩⟩
      exact ⟨.tuple #[.int .i64 0, .iface 61 (.int .i64 5)], by simp [results, Tryz.results12, go_sem, q2, q3], H4.out, Or.inr ⟨K1.out, by rw [FN.out]; rfl⟩⟩
    case stop =>
      rintro D c o S X hD hSD hrun ⟨rfl, ho, he, c1, c2, c3⟩ hg3 hk3 hDd
      obtain ⟨n, rfl⟩ := Option.isSome_iff_exists.1 ho
      have FN : Hid ((btL r s a 109573).find? (fun n => decide (a < n)) = some n) := Lib.hid (by have q := run_nxt a (btL r s a 109573); rw [hrun] at q; exact (congrArg Prod.fst q).symm)
      have hBX : Below w.heap.size w X := B3.out.trans (hk3.below (fun b hb => hb.elim (fun z => by omega) (fun z => by have q : W.heap.size ≤ b := z.1; omega)) (by omega))
      have H2 := Lib.hid (bxd_put c2 (show w.heap.size + 2 ≠ D by omega) (.deferred none)).cell
      have H3 := Lib.hid (bxd_put c3 (show w.heap.size + 3 ≠ D by omega) (.deferred none)).cell
      have H4 : Hid (Below w.heap.size w (X.putObj D (.deferred none))) := Lib.hid (hBX.trans ((Kps.put (S := fun b => b = D) _ rfl).below (fun b e => by omega) hBX.size))
      clear hrun he c1 c2 c3 hg3 hk3 hBX e1 e2 e3 ho
      gi_wp2
      have q2 := H2.out
      have q3 := H3.out
      refine ⟨by simp, .inl ⟨_, _, rfl, run_takeDeferred hDd, ?_⟩⟩
      exact ⟨.tuple #[.int .i64 n, .nilIface], by simp [results, Tryz.results12, go_sem, q2, q3], H4.out, Or.inr ⟨K1.out, by rw [FN.out]; rfl⟩⟩
end Go.Proofs.YtnnpnalfkcngmacGreatDoor
