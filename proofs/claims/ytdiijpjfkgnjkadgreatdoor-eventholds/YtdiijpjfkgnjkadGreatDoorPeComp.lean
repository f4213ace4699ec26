/-
  What is proved here: what package period's completed answers (a contract over the translation).
-/
import Derived.Test.YtdiijpjfkgnjkadGreatDoorPeAsk3
namespace Go.Proofs.YtdiijpjfkgnjkadGreatDoor
open Go.RowKit Cal Txt

/-- What is answered: a rule that lies there. -/
def CompA (w : World) (r : Rl) (e : Ending) (w' : World) : Prop := ∃ v, e = .returned v ∧ RuleIn w' v r ∧ Below w.heap.size w w'
theorem ints_one {W : World} {b : Nat} {x : Int} (h : W.cell? ⟨b, 0, none⟩ = some (.int .i64 x)) : Ints W (.slice (some ⟨b, 0, none⟩) 1 1) [x] :=
  ⟨_, 1, rfl, Or.inr ⟨b, 0, rfl, fun i hi => by
    obtain rfl : i = 0 := by simp at hi; omega
    exact h⟩⟩
theorem nths_one {W : World} {b : Nat} {x y : Int} (h : W.cell? ⟨b, 0, none⟩ = some (.int .i64 x)) (h2 : W.cell? ⟨b, 1, none⟩ = some (.int .i64 y)) : Nths W (.slice (some ⟨b, 0, none⟩) 1 1) [(x, y)] :=
  ⟨_, 1, rfl, Or.inr ⟨b, 0, rfl, fun i hi => by
    obtain rfl : i = 0 := by simp at hi; omega
    exact ⟨h, h2⟩⟩⟩
theorem pair_0 (W : World) (v u : Value) (t : TypeId) : (W.alloc (.cells #[v, u] t)).cell? ⟨W.heap.size, 0, none⟩ = some v := by simp
theorem pair_1 (W : World) (v u : Value) (t : TypeId) : (W.alloc (.cells #[v, u] t)).cell? ⟨W.heap.size, 1, none⟩ = some u := by simp
theorem at3 (w : World) (o1 o2 o3 : Obj) (v : Value) (t : TypeId) : ((((w.alloc o1).alloc o2).alloc o3).alloc (.cells #[v] t)).cell? ⟨w.heap.size + 1 + 1 + 1, 0, none⟩ = some v := by
  have e : (((w.alloc o1).alloc o2).alloc o3).heap.size = w.heap.size + 1 + 1 + 1 := by simp
  rw [← e]; exact cell_new _ v t
theorem at4 (w : World) (o1 o2 o3 o4 : Obj) (v : Value) (t : TypeId) : (((((w.alloc o1).alloc o2).alloc o3).alloc o4).alloc (.cells #[v] t)).cell? ⟨w.heap.size + 1 + 1 + 1 + 1, 0, none⟩ = some v := by
  have e : ((((w.alloc o1).alloc o2).alloc o3).alloc o4).heap.size = w.heap.size + 1 + 1 + 1 + 1 := by simp
  rw [← e]; exact cell_new _ v t
theorem at3_0 (w : World) (o1 o2 o3 : Obj) (v u : Value) (t : TypeId) : ((((w.alloc o1).alloc o2).alloc o3).alloc (.cells #[v, u] t)).cell? ⟨w.heap.size + 1 + 1 + 1, 0, none⟩ = some v := by
  have e : (((w.alloc o1).alloc o2).alloc o3).heap.size = w.heap.size + 1 + 1 + 1 := by simp
  rw [← e]; exact pair_0 _ v u t
theorem at3_1 (w : World) (o1 o2 o3 : Obj) (v u : Value) (t : TypeId) : ((((w.alloc o1).alloc o2).alloc o3).alloc (.cells #[v, u] t)).cell? ⟨w.heap.size + 1 + 1 + 1, 1, none⟩ = some u := by
  have e : (((w.alloc o1).alloc o2).alloc o3).heap.size = w.heap.size + 1 + 1 + 1 := by simp
  rw [← e]; exact pair_1 _ v u t
theorem rin_mk {w W : World} {P : World → Prop} (h : ∀ W, Below w.heap.size w W → P W) (up : Below w.heap.size w W) {r : Rl} {v : Value} (k : P W → RuleIn W v r) : RuleIn W v r := k (h W up)
theorem three_up (W : World) (o1 o2 o3 : Obj) : Below W.heap.size W (((W.alloc o1).alloc o2).alloc o3) := three_below W o1 o2 o3
theorem four_up (W : World) (o1 o2 o3 o4 : Obj) : Below W.heap.size W ((((W.alloc o1).alloc o2).alloc o3).alloc o4) := (three_up W o1 o2 o3).alloc (by simp; omega) o4
theorem five_up (W : World) (o1 o2 o3 o4 o5 : Obj) : Below W.heap.size W (((((W.alloc o1).alloc o2).alloc o3).alloc o4).alloc o5) := (four_up W o1 o2 o3 o4).alloc (by simp; omega) o5
set_option maxRecDepth 100000 in
set_option maxHeartbeats 4000000 in
theorem completed_any (r : Rl) (s : Int) (v : Value) (w : World) (hv : RuleIn w v r) :
    Calls Tryz.prog 132 #[v, .agg #[.int .i64 (yr s), .int .i64 (mo s), .int .i64 (da s), .int .i64 (ml (yr s) (mo s)), .int .i64 ((da s - 1) / 7 + 1), .int .i64 (wd s), .int .i64 (-((ml (yr s) (mo s) - da s) / 7) - 1), .int .i64 (wd s)]] w (CompA w (comp r s)) := by
  obtain ⟨am, ad, aw, ap, cm, cd, cw, cp, rfl⟩ := hv.form
  have HL : Hid (∀ W, Below w.heap.size w W → Ints W (.slice am r.months.length cm) r.months ∧ Ints W (.slice ad r.days.length cd) r.days ∧ Nths W (.slice aw r.weeks.length cw) r.weeks ∧ Ints W (.slice ap r.pick.length cp) r.pick) := Lib.hid (fun W q => by
    obtain ⟨vm, vd, vw, vp, e, h1, h2, h3, h4⟩ := hv.on q
    obtain ⟨rfl, rfl, rfl, rfl⟩ : Value.slice am r.months.length cm = vm ∧ Value.slice ad r.days.length cd = vd ∧ Value.slice aw r.weeks.length cw = vw ∧ Value.slice ap r.pick.length cp = vp := by simpa using e
    exact ⟨h1, h2, h3, h4⟩)
  clear hv
  by_cases d0 : (0 : Int) < r.days.length
  · have d1 : 0 < r.days.length := by omega
    have d2 : ¬ r.days = [] := by intro h; rw [h] at d1; simp at d1
    have EC : Hid (comp r s = r) := Lib.hid (by unfold comp; rw [if_pos (Or.inl (by omega))])
    go_enter Tryz.func132, Tryz.ntmps132
    go_wp2_with fail
    refine bodyPost_ret (v := .agg #[.int .i64 r.freq, .int .i64 r.every, .int .i64 r.count, .int .i64 r.till, .slice am r.months.length cm, .slice ad r.days.length cd, .slice aw r.weeks.length cw, .slice ap r.pick.length cp]) (by simp [results, Tryz.results132, go_sem]) rfl ⟨_, rfl, ?_, ?_⟩
    · rw [EC.out]
      exact rin_mk HL.out (three_up w _ _ _) (fun L => ⟨_, _, _, _, rfl, L.1, L.2.1, L.2.2.1, L.2.2.2⟩)
    · exact three_up w _ _ _
  have dz : r.days = [] := by
    rcases h : r.days with _ | ⟨x, xs⟩
    · rfl
    · rw [h] at d0; simp at d0
  by_cases w0 : (0 : Int) < r.weeks.length
  · have w1 : 0 < r.weeks.length := by omega
    have w2 : ¬ r.weeks = [] := by intro h; rw [h] at w1; simp at w1
    have EC : Hid (comp r s = r) := Lib.hid (by unfold comp; rw [if_pos (Or.inr (by omega))])
    go_enter Tryz.func132, Tryz.ntmps132
    go_wp2_with fail
    refine bodyPost_ret (v := .agg #[.int .i64 r.freq, .int .i64 r.every, .int .i64 r.count, .int .i64 r.till, .slice am r.months.length cm, .slice ad r.days.length cd, .slice aw r.weeks.length cw, .slice ap r.pick.length cp]) (by simp [results, Tryz.results132, go_sem, dz]) rfl ⟨_, rfl, ?_, ?_⟩
    · rw [EC.out]
      exact rin_mk HL.out (three_up w _ _ _) (fun L => ⟨_, _, _, _, rfl, L.1, L.2.1, L.2.2.1, L.2.2.2⟩)
    · exact three_up w _ _ _
  have wz : r.weeks = [] := by
    rcases h : r.weeks with _ | ⟨x, xs⟩
    · rfl
    · rw [h] at w0; simp at w0
  have NO : ¬ (0 < r.days.length ∨ 0 < r.weeks.length) := by omega
  have HN := Lib.hid NO
  clear NO
  rcases e2 : (r.freq == 2) with _ | _
  case true =>
    have g : r.freq = 2 := by simpa using e2
    have G := Lib.hid g
    clear g
    have EC : Hid (comp r s = { r with weeks := [(0, wd s)] }) := Lib.hid (by unfold comp; rw [if_neg HN.out, if_pos G.out])
    go_enter Tryz.func132, Tryz.ntmps132
    go_wp2_with fail
    refine bodyPost_ret (v := .agg #[.int .i64 r.freq, .int .i64 r.every, .int .i64 r.count, .int .i64 r.till, .slice am r.months.length cm, .slice ad r.days.length cd, .slice (some ⟨w.heap.size + 1 + 1 + 1, 0, none⟩) 1 1, .slice ap r.pick.length cp]) (by simp [results, Tryz.results132, go_sem, dz]) rfl ⟨_, rfl, ?_, ?_⟩
    · rw [EC.out]
      exact rin_mk HL.out (four_up w _ _ _ _) (fun L => ⟨_, _, _, _, rfl, L.1, L.2.1, nths_one (at3_0 w _ _ _ _ _ _) (at3_1 w _ _ _ _ _ _), L.2.2.2⟩)
    · exact four_up w _ _ _ _
  have g2 : Hid (¬ r.freq = 2) := Lib.hid (by simpa using e2)
  rcases e3 : (r.freq == 3) with _ | _
  case true =>
    have g : r.freq = 3 := by simpa using e3
    have G := Lib.hid g
    clear g
    have EC : Hid (comp r s = { r with days := [da s] }) := Lib.hid (by unfold comp; rw [if_neg HN.out, if_neg g2.out, if_pos G.out])
    go_enter Tryz.func132, Tryz.ntmps132
    go_wp2_with fail
    refine bodyPost_ret (v := .agg #[.int .i64 r.freq, .int .i64 r.every, .int .i64 r.count, .int .i64 r.till, .slice am r.months.length cm, .slice (some ⟨w.heap.size + 1 + 1 + 1, 0, none⟩) 1 1, .slice aw r.weeks.length cw, .slice ap r.pick.length cp]) (by simp [results, Tryz.results132, go_sem, wz]) rfl ⟨_, rfl, ?_, ?_⟩
    · rw [EC.out]
      exact rin_mk HL.out (four_up w _ _ _ _) (fun L => ⟨_, _, _, _, rfl, L.1, ints_one (at3 w _ _ _ _ _), L.2.2.1, L.2.2.2⟩)
    · exact four_up w _ _ _ _
  have g3 : Hid (¬ r.freq = 3) := Lib.hid (by simpa using e3)
  rcases e4 : (r.freq == 4) with _ | _
  case true =>
    have g : r.freq = 4 := by simpa using e4
    have G := Lib.hid g
    clear g
    rcases m0 : ((r.months.length : Int) == 0) with _ | _
    case true =>
      have gm : Hid (r.months.length = 0) := Lib.hid (by have := beq_iff_eq.1 m0; omega)
      have EC : Hid (comp r s = { r with days := [da s], months := [mo s] }) := Lib.hid (by unfold comp; rw [if_neg HN.out, if_neg g2.out, if_neg g3.out, if_pos G.out, if_pos gm.out])
      go_enter Tryz.func132, Tryz.ntmps132
      go_wp2_with fail
      refine bodyPost_ret (v := .agg #[.int .i64 r.freq, .int .i64 r.every, .int .i64 r.count, .int .i64 r.till, .slice (some ⟨w.heap.size + 1 + 1 + 1 + 1, 0, none⟩) 1 1, .slice (some ⟨w.heap.size + 1 + 1 + 1, 0, none⟩) 1 1, .slice aw r.weeks.length cw, .slice ap r.pick.length cp]) (by simp [results, Tryz.results132, go_sem, wz]) rfl ⟨_, rfl, ?_, ?_⟩
      · rw [EC.out]
        exact rin_mk HL.out (five_up w _ _ _ _ _) (fun L => ⟨_, _, _, _, rfl, ints_one (at4 w _ _ _ _ _ _), ints_one (cell_next (at3 w _ _ _ _ _) _), L.2.2.1, L.2.2.2⟩)
      · exact five_up w _ _ _ _ _
    have gm : Hid (¬ r.months.length = 0) := Lib.hid (fun h => by rw [h] at m0; simp at m0)
    have EC : Hid (comp r s = { r with days := [da s], months := r.months }) := Lib.hid (by unfold comp; rw [if_neg HN.out, if_neg g2.out, if_neg g3.out, if_pos G.out, if_neg gm.out])
    go_enter Tryz.func132, Tryz.ntmps132
    go_wp2_with fail
    refine bodyPost_ret (v := .agg #[.int .i64 r.freq, .int .i64 r.every, .int .i64 r.count, .int .i64 r.till, .slice am r.months.length cm, .slice (some ⟨w.heap.size + 1 + 1 + 1, 0, none⟩) 1 1, .slice aw r.weeks.length cw, .slice ap r.pick.length cp]) (by simp [results, Tryz.results132, go_sem, wz]) rfl ⟨_, rfl, ?_, ?_⟩
    · rw [EC.out]
      exact rin_mk HL.out (four_up w _ _ _ _) (fun L => ⟨_, _, _, _, rfl, L.1, ints_one (at3 w _ _ _ _ _), L.2.2.1, L.2.2.2⟩)
    · exact four_up w _ _ _ _
  have g4 : Hid (¬ r.freq = 4) := Lib.hid (by simpa using e4)
  have EC : Hid (comp r s = r) := Lib.hid (by unfold comp; rw [if_neg HN.out, if_neg g2.out, if_neg g3.out, if_neg g4.out])
  go_enter Tryz.func132, Tryz.ntmps132
  go_wp2_with fail
  refine bodyPost_ret (v := .agg #[.int .i64 r.freq, .int .i64 r.every, .int .i64 r.count, .int .i64 r.till, .slice am r.months.length cm, .slice ad r.days.length cd, .slice aw r.weeks.length cw, .slice ap r.pick.length cp]) (by simp [results, Tryz.results132, go_sem, dz, wz]) rfl ⟨_, rfl, ?_, ?_⟩
  · rw [EC.out]
    exact rin_mk HL.out (three_up w _ _ _) (fun L => ⟨_, _, _, _, rfl, L.1, L.2.1, L.2.2.1, L.2.2.2⟩)
  · exact three_up w _ _ _
end Go.Proofs.YtdiijpjfkgnjkadGreatDoor
