/-
  What is proved here: small words on a list of numbers that a call gathers by append.
  What is proved here: what package period's completed answers (a contract over the translation).
  What is proved here: what package period's picked answers (a contract over the translation).
  What is proved here: what package period's Days answers (a contract over the translation); the table of months is asked as a premise.
  What is proved here: small words on a list of pairs that a call gathers by append, also where the append stands in a region that draws its order.
-/
import Derived.Test.YthdohcjingfpoaaGreatDoorRM
import Derived.OwnWalk
import Derived.Lib.Join
import Derived.Test.YthdohcjingfpoaaGreatDoorBE
import Derived.Maps.AppendAt
import Derived.Deep.RegionHeld3
namespace Go.Proofs.YthdohcjingfpoaaGreatDoor
open Go.RowKit

theorem ow_below {W W' : World} {base : Nat} {e : TypeId} {size : Nat} {v : Value} {n : Nat} {xs : List Value} (h : W.ownsRow base e size v n xs) (q : Below W.heap.size W W') : W'.ownsRow base e size v n xs := by
  refine ⟨h.1, ?_⟩
  rcases h.2 with a | ⟨g, cap, cur, hv, hb, hg, r⟩
  · exact Or.inl a
  · have hlt : g < W.heap.size := by
      rcases Nat.lt_or_ge g W.heap.size with k | k
      · exact k
      · rw [Array.getElem?_eq_none k] at hg; cases hg
    exact Or.inr ⟨g, cap, cur, hv, hb, (q.block g hlt).trans hg, r⟩
theorem ow_grow {w wr w1 w2 : World} {B : Nat} {e : TypeId} {sz : Nat} {v : Value} {k : Nat} {ys : List Value} {o : Obj} (hB : B ≤ wr.heap.size) (hb : Below B w wr) (hx : Below wr.heap.size wr w1)
    (hown : wr.ownsRow B e sz v k ys) (hgrow : (w1.alloc o).grownBy w2 v.ownBlock) : Below B w w2 := by
  have h1 : Below B w w1 := hb.trans (hx.mono hB)
  have hs := hx.size
  refine (h1.alloc (by omega) o).grown hgrow (by simp; omega) (fun j hj => ?_)
  have := (hown.lt j hj).1
  omega
/-- Numbers as cells. -/
def nums (xs : List Int) : List Value := xs.map (Value.int .i64)
theorem nums_snoc (xs : List Int) (y : Int) : nums (xs ++ [y]) = nums xs ++ [.int .i64 y] := by simp [nums]
theorem ow_ints {W : World} {base : Nat} {e : TypeId} {v : Value} {n : Nat} {xs : List Int} (h : W.ownsRow base e 1 v n (nums xs)) : Ints W v xs := by
  have hl : xs.length = n := by have := h.1; simpa [nums] using this
  rcases h.2 with ⟨hv, h0⟩ | ⟨g, cap, cur, hv, hb, hg, hc, hm, hs, ht⟩
  · exact ⟨none, 0, by rw [hv, hl, h0], Or.inl (List.eq_nil_of_length_eq_zero (by omega))⟩
  · refine ⟨some ⟨g, 0, none⟩, cap, by rw [hv, hl], Or.inr ⟨g, 0, rfl, fun i hi => ?_⟩⟩
    have := h.cells (g := g) (by rw [hv]; rfl) i (.int .i64 (xs.getD i 0)) (by unfold nums; rw [List.getElem?_map, List.getElem?_eq_getElem hi, List.getD_eq_getElem?_getD, List.getElem?_eq_getElem hi]; rfl)
    have hadd : (⟨g, 0, none⟩ : Addr).add i = ⟨g, 0 + i, none⟩ := by unfold Addr.add; split <;> simp_all
    rw [hadd] at this
    exact this
end Go.Proofs.YthdohcjingfpoaaGreatDoor
namespace Go.Proofs.YthdohcjingfpoaaGreatDoor
open Go.RowKit Cal Txt

/-- What is answered: a rule that lies there. -/
def CompA (w : World) (r : Rl) (e : Ending) (w' : World) : Prop := ∃ v, e = .returned v ∧ RuleIn w' v r ∧ Below w.heap.size w w'
theorem ints_one {W : World} {b : Nat} {x : Int} (h : W.cell? ⟨b, 0, none⟩ = some (.int .i64 x)) : Ints W (.slice (some ⟨b, 0, none⟩) 1 1) [x] :=
  ⟨_, 1, rfl, Or.inr ⟨b, 0, rfl, fun i hi => by
    obtain rfl : i = 0 := by simp at hi; omega
    exact h⟩⟩
theorem nths_one {W : World} {b : Nat} {x y : Int} (h : W.cell? ⟨b, 0, none⟩ = some (.int .i64 x)) (h2 : W.cell? ⟨b, 1, none⟩ = some (.int .i64 y)) : Nths W (.slice (some ⟨b, 0, none⟩) 1 1) [(x, y)] :=
  ⟨_, 1, rfl, Or.inr ⟨b, 0, rfl, fun i hi => by
    obtain rfl : i = 0 := by simp at hi; omega
    exact ⟨h, h2⟩⟩⟩
theorem pair_0 (W : World) (v u : Value) (t : TypeId) : (W.alloc (.cells #[v, u] t)).cell? ⟨W.heap.size, 0, none⟩ = some v := by simp
theorem pair_1 (W : World) (v u : Value) (t : TypeId) : (W.alloc (.cells #[v, u] t)).cell? ⟨W.heap.size, 1, none⟩ = some u := by simp
theorem at3 (w : World) (o1 o2 o3 : Obj) (v : Value) (t : TypeId) : ((((w.alloc o1).alloc o2).alloc o3).alloc (.cells #[v] t)).cell? ⟨w.heap.size + 1 + 1 + 1, 0, none⟩ = some v := by
  have e : (((w.alloc o1).alloc o2).alloc o3).heap.size = w.heap.size + 1 + 1 + 1 := by simp
  rw [← e]; exact cell_new _ v t
theorem at4 (w : World) (o1 o2 o3 o4 : Obj) (v : Value) (t : TypeId) : (((((w.alloc o1).alloc o2).alloc o3).alloc o4).alloc (.cells #[v] t)).cell? ⟨w.heap.size + 1 + 1 + 1 + 1, 0, none⟩ = some v := by
  have e : ((((w.alloc o1).alloc o2).alloc o3).alloc o4).heap.size = w.heap.size + 1 + 1 + 1 + 1 := by simp
  rw [← e]; exact cell_new _ v t
theorem at3_0 (w : World) (o1 o2 o3 : Obj) (v u : Value) (t : TypeId) : ((((w.alloc o1).alloc o2).alloc o3).alloc (.cells #[v, u] t)).cell? ⟨w.heap.size + 1 + 1 + 1, 0, none⟩ = some v := by
  have e : (((w.alloc o1).alloc o2).alloc o3).heap.size = w.heap.size + 1 + 1 + 1 := by simp
  rw [← e]; exact pair_0 _ v u t
theorem at3_1 (w : World) (o1 o2 o3 : Obj) (v u : Value) (t : TypeId) : ((((w.alloc o1).alloc o2).alloc o3).alloc (.cells #[v, u] t)).cell? ⟨w.heap.size + 1 + 1 + 1, 1, none⟩ = some u := by
  have e : (((w.alloc o1).alloc o2).alloc o3).heap.size = w.heap.size + 1 + 1 + 1 := by simp
  rw [← e]; exact pair_1 _ v u t
theorem rin_mk {w W : World} {P : World → Prop} (h : ∀ W, Below w.heap.size w W → P W) (up : Below w.heap.size w W) {r : Rl} {v : Value} (k : P W → RuleIn W v r) : RuleIn W v r := k (h W up)
theorem three_up (W : World) (o1 o2 o3 : Obj) : Below W.heap.size W (((W.alloc o1).alloc o2).alloc o3) := three_below W o1 o2 o3
theorem four_up (W : World) (o1 o2 o3 o4 : Obj) : Below W.heap.size W ((((W.alloc o1).alloc o2).alloc o3).alloc o4) := (three_up W o1 o2 o3).alloc (by simp; omega) o4
theorem five_up (W : World) (o1 o2 o3 o4 o5 : Obj) : Below W.heap.size W (((((W.alloc o1).alloc o2).alloc o3).alloc o4).alloc o5) := (four_up W o1 o2 o3 o4).alloc (by simp; omega) o5
set_option maxRecDepth 100000 in
set_option maxHeartbeats 4000000 in
theorem completed_any (r : Rl) (s : Int) (v : Value) (w : World) (hv : RuleIn w v r) :
    Calls Tryz.prog 281 #[v, .agg #[.int .i64 (yr s), .int .i64 (mo s), .int .i64 (da s), .int .i64 (ml (yr s) (mo s)), .int .i64 ((da s - 1) / 7 + 1), .int .i64 (wd s), .int .i64 (-((ml (yr s) (mo s) - da s) / 7) - 1), .int .i64 (wd s)]] w (CompA w (comp r s)) := by
  obtain ⟨am, ad, aw, ap, cm, cd, cw, cp, rfl⟩ := hv.form
  have HL : Hid (∀ W, Below w.heap.size w W → Ints W (.slice am r.months.length cm) r.months ∧ Ints W (.slice ad r.days.length cd) r.days ∧ Nths W (.slice aw r.weeks.length cw) r.weeks ∧ Ints W (.slice ap r.pick.length cp) r.pick) := Lib.hid (fun W q => by
    obtain ⟨vm, vd, vw, vp, e, h1, h2, h3, h4⟩ := hv.on q
    obtain ⟨rfl, rfl, rfl, rfl⟩ : Value.slice am r.months.length cm = vm ∧ Value.slice ad r.days.length cd = vd ∧ Value.slice aw r.weeks.length cw = vw ∧ Value.slice ap r.pick.length cp = vp := by simpa using e
    exact ⟨h1, h2, h3, h4⟩)
  clear hv
  by_cases d0 : (0 : Int) < r.days.length
  · have d1 : 0 < r.days.length := by omega
    have d2 : ¬ r.days = [] := by intro h; rw [h] at d1; simp at d1
    have EC : Hid (comp r s = r) := Lib.hid (by unfold comp; rw [if_pos (Or.inl (by omega))])
    go_enter Tryz.func281, Tryz.ntmps281
    go_wp2_with fail
    refine bodyPost_ret (v := .agg #[.int .i64 r.freq, .int .i64 r.every, .int .i64 r.count, .int .i64 r.till, .slice am r.months.length cm, .slice ad r.days.length cd, .slice aw r.weeks.length cw, .slice ap r.pick.length cp]) (by simp [results, Tryz.results281, go_sem]) rfl ⟨_, rfl, ?_, ?_⟩
    · rw [EC.out]
      exact rin_mk HL.out (three_up w _ _ _) (fun L => ⟨_, _, _, _, rfl, L.1, L.2.1, L.2.2.1, L.2.2.2⟩)
    · exact three_up w _ _ _
  have dz : r.days = [] := by
    rcases h : r.days with _ | ⟨x, xs⟩
    · rfl
    · rw [h] at d0; simp at d0
  by_cases w0 : (0 : Int) < r.weeks.length
  · have w1 : 0 < r.weeks.length := by omega
    have w2 : ¬ r.weeks = [] := by intro h; rw [h] at w1; simp at w1
    have EC : Hid (comp r s = r) := Lib.hid (by unfold comp; rw [if_pos (Or.inr (by omega))])
    go_enter Tryz.func281, Tryz.ntmps281
    go_wp2_with fail
    refine bodyPost_ret (v := .agg #[.int .i64 r.freq, .int .i64 r.every, .int .i64 r.count, .int .i64 r.till, .slice am r.months.length cm, .slice ad r.days.length cd, .slice aw r.weeks.length cw, .slice ap r.pick.length cp]) (by simp [results, Tryz.results281, go_sem, dz]) rfl ⟨_, rfl, ?_, ?_⟩
    · rw [EC.out]
      exact rin_mk HL.out (three_up w _ _ _) (fun L => ⟨_, _, _, _, rfl, L.1, L.2.1, L.2.2.1, L.2.2.2⟩)
    · exact three_up w _ _ _
  have wz : r.weeks = [] := by
    rcases h : r.weeks with _ | ⟨x, xs⟩
    · rfl
    · rw [h] at w0; simp at w0
  have NO : ¬ (0 < r.days.length ∨ 0 < r.weeks.length) := by omega
  have HN := Lib.hid NO
  clear NO
  rcases e2 : (r.freq == 2) with _ | _
  case true =>
    have g : r.freq = 2 := by simpa using e2
    have G := Lib.hid g
    clear g
    have EC : Hid (comp r s = { r with weeks := [(0, wd s)] }) := Lib.hid (by unfold comp; rw [if_neg HN.out, if_pos G.out])
    go_enter Tryz.func281, Tryz.ntmps281
    go_wp2_with fail
    refine bodyPost_ret (v := .agg #[.int .i64 r.freq, .int .i64 r.every, .int .i64 r.count, .int .i64 r.till, .slice am r.months.length cm, .slice ad r.days.length cd, .slice (some ⟨w.heap.size + 1 + 1 + 1, 0, none⟩) 1 1, .slice ap r.pick.length cp]) (by simp [results, Tryz.results281, go_sem, dz]) rfl ⟨_, rfl, ?_, ?_⟩
    · rw [EC.out]
      exact rin_mk HL.out (four_up w _ _ _ _) (fun L => ⟨_, _, _, _, rfl, L.1, L.2.1, nths_one (at3_0 w _ _ _ _ _ _) (at3_1 w _ _ _ _ _ _), L.2.2.2⟩)
    · exact four_up w _ _ _ _
  have g2 : Hid (¬ r.freq = 2) := Lib.hid (by simpa using e2)
  rcases e3 : (r.freq == 3) with _ | _
  case true =>
    have g : r.freq = 3 := by simpa using e3
    have G := Lib.hid g
    clear g
    have EC : Hid (comp r s = { r with days := [da s] }) := Lib.hid (by unfold comp; rw [if_neg HN.out, if_neg g2.out, if_pos G.out])
    go_enter Tryz.func281, Tryz.ntmps281
    go_wp2_with fail
    refine bodyPost_ret (v := .agg #[.int .i64 r.freq, .int .i64 r.every, .int .i64 r.count, .int .i64 r.till, .slice am r.months.length cm, .slice (some ⟨w.heap.size + 1 + 1 + 1, 0, none⟩) 1 1, .slice aw r.weeks.length cw, .slice ap r.pick.length cp]) (by simp [results, Tryz.results281, go_sem, wz]) rfl ⟨_, rfl, ?_, ?_⟩
    · rw [EC.out]
      exact rin_mk HL.out (four_up w _ _ _ _) (fun L => ⟨_, _, _, _, rfl, L.1, ints_one (at3 w _ _ _ _ _), L.2.2.1, L.2.2.2⟩)
    · exact four_up w _ _ _ _
  have g3 : Hid (¬ r.freq = 3) := Lib.hid (by simpa using e3)
  rcases e4 : (r.freq == 4) with _ | _
  case true =>
    have g : r.freq = 4 := by simpa using e4
    have G := Lib.hid g
    clear g
    rcases m0 : ((r.months.length : Int) == 0) with _ | _
    case true =>
      have gm : Hid (r.months.length = 0) := Lib.hid (by have := beq_iff_eq.1 m0; omega)
      have EC : Hid (comp r s = { r with days := [da s], months := [mo s] }) := Lib.hid (by unfold comp; rw [if_neg HN.out, if_neg g2.out, if_neg g3.out, if_pos G.out, if_pos gm.out])
      go_enter Tryz.func281, Tryz.ntmps281
      go_wp2_with fail
      refine bodyPost_ret (v := .agg #[.int .i64 r.freq, .int .i64 r.every, .int .i64 r.count, .int .i64 r.till, .slice (some ⟨w.heap.size + 1 + 1 + 1 + 1, 0, none⟩) 1 1, .slice (some ⟨w.heap.size + 1 + 1 + 1, 0, none⟩) 1 1, .slice aw r.weeks.length cw, .slice ap r.pick.length cp]) (by simp [results, Tryz.results281, go_sem, wz]) rfl ⟨_, rfl, ?_, ?_⟩
      · rw [EC.out]
        exact rin_mk HL.out (five_up w _ _ _ _ _) (fun L => ⟨_, _, _, _, rfl, ints_one (at4 w _ _ _ _ _ _), ints_one (cell_next (at3 w _ _ _ _ _) _), L.2.2.1, L.2.2.2⟩)
      · exact five_up w _ _ _ _ _
    have gm : Hid (¬ r.months.length = 0) := Lib.hid (fun h => by rw [h] at m0; simp at m0)
    have EC : Hid (comp r s = { r with days := [da s], months := r.months }) := Lib.hid (by unfold comp; rw [if_neg HN.out, if_neg g2.out, if_neg g3.out, if_pos G.out, if_neg gm.out])
    go_enter Tryz.func281, Tryz.ntmps281
    go_wp2_with fail
    refine bodyPost_ret (v := .agg #[.int .i64 r.freq, .int .i64 r.every, .int .i64 r.count, .int .i64 r.till, .slice am r.months.length cm, .slice (some ⟨w.heap.size + 1 + 1 + 1, 0, none⟩) 1 1, .slice aw r.weeks.length cw, .slice ap r.pick.length cp]) (by simp [results, Tryz.results281, go_sem, wz]) rfl ⟨_, rfl, ?_, ?_⟩
    · rw [EC.out]
      exact rin_mk HL.out (four_up w _ _ _ _) (fun L => ⟨_, _, _, _, rfl, L.1, ints_one (at3 w _ _ _ _ _), L.2.2.1, L.2.2.2⟩)
    · exact four_up w _ _ _ _
  have g4 : Hid (¬ r.freq = 4) := Lib.hid (by simpa using e4)
  have EC : Hid (comp r s = r) := Lib.hid (by unfold comp; rw [if_neg HN.out, if_neg g2.out, if_neg g3.out, if_neg g4.out])
  go_enter Tryz.func281, Tryz.ntmps281
  go_wp2_with fail
  refine bodyPost_ret (v := .agg #[.int .i64 r.freq, .int .i64 r.every, .int .i64 r.count, .int .i64 r.till, .slice am r.months.length cm, .slice ad r.days.length cd, .slice aw r.weeks.length cw, .slice ap r.pick.length cp]) (by simp [results, Tryz.results281, go_sem, dz, wz]) rfl ⟨_, rfl, ?_, ?_⟩
  · rw [EC.out]
    exact rin_mk HL.out (three_up w _ _ _) (fun L => ⟨_, _, _, _, rfl, L.1, L.2.1, L.2.2.1, L.2.2.2⟩)
  · exact three_up w _ _ _
end Go.Proofs.YthdohcjingfpoaaGreatDoor
namespace Go.Proofs.YthdohcjingfpoaaGreatDoor
open Go.RowKit Cal Txt

/-- What is answered: a list of numbers that lies there. -/
def IntsA (w : World) (l : List Int) (e : Ending) (w' : World) : Prop := ∃ v, e = .returned v ∧ Ints w' v l ∧ Below w.heap.size w w'
/-- A slice's row is none ahead of block B. -/
def Fr (B : Nat) (v : Value) : Prop := ∀ g, v.ownBlock = some g → B ≤ g
/-- .. in no block ahead of B. -/
def IntsF (w : World) (B : Nat) (l : List Int) (e : Ending) (w' : World) : Prop := ∃ v, e = .returned v ∧ Ints w' v l ∧ Below w.heap.size w w' ∧ Fr B v
theorem info_per_int : (Tryz.prog.info? 3).map (fun i => (i.zero, i.size, i.bytes)) = some (some (.int .i64 0), 1, 8) := by kernel_rfl
theorem pickK_len (p days : List Int) (k : Nat) : (pickK p days k).length ≤ k := by
  unfold pickK
  rw [List.length_map]
  have := List.length_filter_le (fun (i : Nat) => nameB p ((i : Int) + 1) (days.length : Int)) (List.range k)
  rwa [List.length_range] at this
set_option maxRecDepth 100000 in
set_option maxHeartbeats 2000000 in
theorem picked_new (B : Nat) (vd vp : Value) (l p : List Int) (w : World) (hd : Ints w vd l) (hp : Ints w vp p) (hl : l.length ≤ 1000) (hpl : p.length ≤ 1000) (hBs : B ≤ w.heap.size) (hF : Fr B vd) :
    Calls Tryz.prog 282 #[vd, vp] w (IntsF w B (pick p l)) := by
  have HF := Lib.hid hF
  clear hF
  obtain ⟨i0, hi, hz0, hz1, hz2⟩ := info_parts info_per_int
  have HP : Hid (∀ W, Below w.heap.size w W → Ints W vp p) := Lib.hid (fun W q => hp.on q)
  have HD : Hid (∀ W, Below w.heap.size w W → Ints W vd l) := Lib.hid (fun W q => hd.on q)
  obtain ⟨ad, cd, rfl, _⟩ := hd
  obtain ⟨ap, cp, rfl, _⟩ := hp
  rcases hz : ((p.length : Int) == 0) with _ | _
  case true =>
    have EC : Hid (pick p l = l) := Lib.hid (by unfold pick; rw [if_pos (by have := beq_iff_eq.1 hz; omega)])
    go_enter Tryz.func282, Tryz.ntmps282
    go_wp2
    go_ret
    exact ⟨_, rfl, by rw [EC.out]; exact HD.out _ (Below.refl _ _), Below.refl _ _, HF.out⟩
  have EC : Hid (pick p l = pickK p l l.length) := Lib.hid (by unfold pick; rw [if_neg (fun h => by rw [h] at hz; simp at hz)])
  go_enter Tryz.func282, Tryz.ntmps282
  go_wp2
  go_loopw [5, 14] (fun v i wr => ∃ k : Nat, k ≤ l.length ∧ i = .int .i64 k ∧ wr.ownsRow w.heap.size 3 1 v (pickK p l k).length (nums (pickK p l k)) ∧ Below w.heap.size w wr) (fun _ i _ => l.length - (intOf i).toNat)
  case atStart => exact ⟨0, Nat.zero_le _, rfl, World.ownsRow_nil _ _ _ _, Below.refl _ _⟩
  case round =>
    obtain ⟨k, hk, rfl, hown, hB⟩ := hrel
    have HO := Lib.hid hown
    have HB := Lib.hid hB
    clear hown
    by_cases hlt : k < l.length
    · obtain ⟨a', c', e', hc⟩ := HD.out _ hB
      obtain ⟨rfl, rfl⟩ : ad = a' ∧ cd = c' := by simpa using e'
      rcases hc with hc | ⟨b, off, rfl, hc⟩
      · rw [hc] at hlt; simp at hlt
      have k1 := hc k hlt
      obtain ⟨x, hx⟩ : ∃ x, x = l.getD k 0 := ⟨_, rfl⟩
      rw [← hx] at k1
      have HX := Lib.hid hx
      have KN := Lib.hid (names_any (.slice ap p.length cp) p ((k : Int) + 1) (l.length : Int) wr (HP.out _ hB) (by omega) (by omega) (by omega) (by omega) (by omega))
      have HN := Lib.hid (pickK_next p l k)
      have PK := pickK_len p l k
      clear hc e' hx
      generalize hs : pickK p l k = xs at HO HN PK
      clear hs
      rcases hn : nameB p ((k : Int) + 1) (l.length : Int) with _ | _
      · rw [hn] at KN
        have N1 : Hid (pickK p l (k + 1) = xs) := Lib.hid (by rw [HN.out, if_neg (by rw [hn]; decide)])
        clear hn HN
        go_wp2_with fail
        refine KN.out.mono ?_
        rintro e w2 ⟨rfl, hw⟩
        subst hw
        go_wp2
        go_roundw
        case rel => exact ⟨k + 1, by omega, by go_num, by rw [N1.out]; exact HO.out, HB.out⟩
        case measure => simp [intOf]; omega
      · rw [hn] at KN
        have N1 : Hid (pickK p l (k + 1) = xs ++ [x]) := Lib.hid (by rw [HN.out, if_pos hn, HX.out])
        clear hn HN
        go_wp2_with fail
        refine KN.out.mono ?_
        rintro e w2 ⟨rfl, hw⟩
        subst hw
        have HO1 := Lib.hid (ow_below HO.out (Below.refl _ w2))
        have sz : w.heap.size ≤ w2.heap.size := hB.size
        go_wp2_with (at_builtin; refine wpList_append_own _ rfl _ _ 34 rfl w.heap.size 3 i0 (.int .i64 0) 1 8 Tryz.underlying34 hi hz0 hz1 hz2 rfl (by decide) _ _ _ rfl (HO1.out.alloc _) ⟨w2.heap.size, 0, none⟩ 1 1 [.int .i64 x] rfl rfl ?c1 ?c2 ?c3 ?c4 ?c5 ?_)
        case c1 =>
          intro j u hj
          match j, hj with
          | 0, hj => simp at hj; subst hj; simp [Addr.add]
        case c2 => intro u hu; simp at hu; subst hu; rfl
        case c3 => unfold maxLen; omega
        case c4 => omega
        case c5 => simp; omega
        intro v' w3 hown' hgrow _
        have R2 := Lib.hid (ow_grow hB.size hB (Below.refl _ _) HO.out hgrow)
        have R1 := Lib.hid hown'
        rw [← nums_snoc] at R1
        clear hown' hgrow HO1 HO
        go_wp2
        go_roundw
        case rel => exact ⟨k + 1, by omega, by go_num, by rw [N1.out, List.length_append]; exact R1.out, R2.out⟩
        case measure => simp [intOf]; omega
    · have N1 : Hid (pickK p l k = pick p l) := Lib.hid (by rw [EC.out, show k = l.length by omega])
      have RR := Lib.hid (ow_ints HO.out)
      have RF := Lib.hid (show Fr B _ from fun g hg => Nat.le_trans hBs (HO.out.lt g hg).1)
      go_wp2
      go_ret
      exact ⟨_, rfl, by rw [← N1.out]; exact RR.out, HB.out, RF.out⟩
theorem picked_any (vd vp : Value) (l p : List Int) (w : World) (hd : Ints w vd l) (hp : Ints w vp p) (hl : l.length ≤ 1000) (hpl : p.length ≤ 1000) :
    Calls Tryz.prog 282 #[vd, vp] w (IntsA w (pick p l)) :=
  (picked_new 0 vd vp l p w hd hp hl hpl (Nat.zero_le _) (fun _ _ => Nat.zero_le _)).mono (fun _ _ ⟨v, h1, h2, h3, _⟩ => ⟨v, h1, h2, h3⟩)
end Go.Proofs.YthdohcjingfpoaaGreatDoor
namespace Go.Proofs.YthdohcjingfpoaaGreatDoor
open Go.RowKit Cal Txt

theorem rf_ok2 {r : Rl} (h : rf r = 0) : r.months.length ≤ 12 ∧ r.days.length ≤ 31 ∧ r.weeks.length ≤ 20 ∧ r.pick.length ≤ 20 := by
  unfold rf at h
  split at h
  · cases h
  split at h
  · cases h
  split at h
  · cases h
  · rename_i o
    have o' : ok2 r = true := by simpa using o
    exact of_decide_eq_true o'
theorem sm_comp {r : Rl} (s : Int) (h : rf r = 0) : Sm (comp r s) := by
  obtain ⟨h1, h2, h3, h4⟩ := rf_ok2 h
  unfold comp
  split
  · exact ⟨by omega, by omega, by omega⟩
  split
  · exact ⟨by show r.months.length ≤ 31; omega, by show r.days.length ≤ 31; omega, by show 1 ≤ 31; omega⟩
  split
  · exact ⟨by show r.months.length ≤ 31; omega, by show 1 ≤ 31; omega, by show r.weeks.length ≤ 31; omega⟩
  split
  · refine ⟨?_, by show 1 ≤ 31; omega, by show r.weeks.length ≤ 31; omega⟩
    show (if r.months.length = 0 then [mo s] else r.months).length ≤ 31
    split
    · show 1 ≤ 31; omega
    · omega
  · exact ⟨by omega, by omega, by omega⟩
theorem pEnds_len {fr ev s k a b : Int} (hf : 1 ≤ fr ∧ fr ≤ 4) (h : pEnds fr ev s k = some (a, b)) : b ≤ a + 400 := by
  unfold pEnds at h
  rcases fr4 hf with rfl | rfl | rfl | rfl
  · rw [if_neg (by decide), if_neg (by decide), if_neg (by decide)] at h
    obtain ⟨q, rfl, rfl⟩ := cutL_some h
    omega
  · rw [if_pos rfl] at h
    obtain ⟨q, rfl, rfl⟩ := cutL_some h
    omega
  · rw [if_neg (by decide), if_pos rfl] at h
    split at h
    · obtain ⟨q, rfl, rfl⟩ := cutL_some h
      have b := ml_bd (yr s + (mo s - 1 + k * ev) / 12) (1 + (mo s - 1 + k * ev) % 12)
      omega
    · cases h
  · rw [if_neg (by decide), if_neg (by decide), if_pos rfl] at h
    split at h
    · injection h with h
      injection h with e1 e2
      subst e1
      subst e2
      have c := cum_bd (yr s + k * ev) 12 (by omega) (by omega)
      rw [num_first]
      unfold num
      omega
    · cases h
theorem pE_len {r : Rl} {s k a b : Int} (h : pE r s k = some (a, b)) : b ≤ a + 400 := by
  obtain ⟨h1, h2, h3, h4⟩ := pE_some h
  exact pEnds_len (rf_nums h1).1 h4
/-- The first days of a period that are asked for. -/
def ask (r : Rl) (a : Int) (j : Nat) : List Int := (rng a j).filter (askB r)
theorem ask_next (r : Rl) (a : Int) (j : Nat) : ask r a (j + 1) = if askB r (a + (j : Int)) = true then ask r a j ++ [a + (j : Int)] else ask r a j := by
  unfold ask
  rw [rng_next, List.filter_append]
  by_cases h : askB r (a + (j : Int)) = true
  · rw [if_pos h]; simp [h]
  · rw [if_neg h]; simp [h]
theorem ask_len (r : Rl) (a : Int) (j : Nat) : (ask r a j).length ≤ j := by
  unfold ask
  have := List.length_filter_le (askB r) (rng a j)
  have e : (rng a j).length = j := by unfold rng; rw [List.length_map, List.length_range]
  omega
/-- What is answered of the days of a period. -/
def PerA (w : World) (o : Option (List Int)) (e : Ending) (w' : World) : Prop :=
  Below w.heap.size w w' ∧ ((o = none ∧ e = .returned (.tuple #[.slice none 0 0, errRange])) ∨ ∃ l v, o = some l ∧ e = .returned (.tuple #[v, .nilIface]) ∧ Ints w' v l)
def PerF (w : World) (o : Option (List Int)) (e : Ending) (w' : World) : Prop :=
  Below w.heap.size w w' ∧ ((o = none ∧ e = .returned (.tuple #[.slice none 0 0, errRange])) ∨ ∃ l v, o = some l ∧ e = .returned (.tuple #[v, .nilIface]) ∧ Ints w' v l ∧ Fr w.heap.size v)
/-- The days of the k-th period; none: there is none. -/
def pD (r : Rl) (s k : Int) : Option (List Int) := match pE r s k with
  | some (a, b) => some (perD r s a b)
  | none => none
set_option maxRecDepth 100000 in
set_option maxHeartbeats 4000000 in
theorem perDays_new (r : Rl) (v : Value) (s k : Int) (w : World) (hv : RuleIn w v r) (hT : Tab w) :
    Calls Tryz.prog 277 #[v, .int .i64 s, .int .i64 k] w (PerF w (pD r s k)) := by
  obtain ⟨i0, hi, hz0, hz1, hz2⟩ := info_parts info_per_int
  obtain ⟨am, ad, aw, ap, cm, cd, cw, cp, rfl⟩ := hv.form
  have B0 := (Below.refl w.heap.size w).alloc (Nat.le_refl _) (.cells #[.int .i64 r.freq, .int .i64 r.every, .int .i64 r.count, .int .i64 r.till, .slice am r.months.length cm, .slice ad r.days.length cd, .slice aw r.weeks.length cw, .slice ap r.pick.length cp] 37)
  have KC := Lib.hid (ends_any r _ s k _ (hv.on B0) (hT.below B0))
  have HV := Lib.hid (fun W (q : Below w.heap.size w W) => hv.on q)
  have HT := Lib.hid (fun W (q : Below w.heap.size w W) => hT.below q)
  have HR := Lib.hid (RBox.new w r.freq r.every r.count r.till (.slice am r.months.length cm) (.slice ad r.days.length cd) (.slice aw r.weeks.length cw) (.slice ap r.pick.length cp) 37)
  have HB := Lib.hid B0
  clear B0 hv hT
  go_enter Tryz.func277, Tryz.ntmps277
  go_wp2_with fail
  generalize w.alloc (.cells #[.int .i64 r.freq, .int .i64 r.every, .int .i64 r.count, .int .i64 r.till, .slice am r.months.length cm, .slice ad r.days.length cd, .slice aw r.weeks.length cw, .slice ap r.pick.length cp] 37) = W0 at HB KC HR ⊢
  refine KC.out.mono ?_
  rintro e w1 ⟨rfl, hb⟩
  have B1 := Lib.hid (HB.out.trans (hb.mono HB.out.size))
  have R1 := Lib.hid (HR.out.on hb)
  clear hb KC HB HR
  rcases hq : pE r s k with _ | ⟨a, b⟩
  · have N0 : Hid (pD r s k = none) := Lib.hid (by unfold pD; rw [hq])
    clear hq
    simp only [EndA]
    go_wp2
    exact bodyPost_ret (v := .tuple #[.slice none 0 0, errRange]) (by simp [results, Tryz.results277, go_sem]) rfl ⟨B1.out, Or.inl ⟨N0.out, rfl⟩⟩
  have N1 : Hid (pD r s k = some (perD r s a b)) := Lib.hid (by unfold pD; rw [hq])
  have LN := pE_len hq
  obtain ⟨a1, ab, bL⟩ := pE_in hq
  obtain ⟨z0, zk, ⟨s1, s2⟩, ze⟩ := pE_some hq
  have SM := Lib.hid (sm_comp s z0)
  have PKL := (rf_ok2 z0).2.2.2
  clear hq z0 zk ze
  simp only [EndA]
  go_wp2_with fail
  refine (placeOf_yes s _ (HT.out _ B1.out) s1 s2).mono ?_
  rintro e w2 ⟨rfl, hb⟩
  unfold PLC
  have A2 : Below w2.heap.size w2 (w2.alloc (.cells #[.int .i64 (yr s), .int .i64 (mo s), .int .i64 (da s), .int .i64 (ml (yr s) (mo s)), .int .i64 ((da s - 1) / 7 + 1), .int .i64 (wd s), .int .i64 (-((ml (yr s) (mo s) - da s) / 7) - 1), .int .i64 (wd s)] 314)) := (Below.refl _ _).alloc (Nat.le_refl _) _
  have B2' := B1.out.trans (hb.mono B1.out.size)
  have B2 := Lib.hid (B2'.trans (A2.mono B2'.size))
  have R2 := Lib.hid ((R1.out.on hb).on A2)
  have KM := Lib.hid (completed_any r s _ _ (HV.out _ B2.out))
  obtain ⟨x0, x1, x2, x3, x4, x5, x6, x7⟩ := R1.out.on hb
  have xl := (R1.out.on hb).lt
  clear hb B1 R1 B2' A2
  go_wp2_with fail
  clear x0 x1 x2 x3 x4 x5 x6 x7 xl
  generalize w2.alloc (.cells #[.int .i64 (yr s), .int .i64 (mo s), .int .i64 (da s), .int .i64 (ml (yr s) (mo s)), .int .i64 ((da s - 1) / 7 + 1), .int .i64 (wd s), .int .i64 (-((ml (yr s) (mo s) - da s) / 7) - 1), .int .i64 (wd s)] 314) = W2 at B2 R2 KM ⊢
  refine KM.out.mono ?_
  rintro e w3 ⟨vc, rfl, hrc, hb⟩
  have B3 := Lib.hid (B2.out.trans (hb.mono B2.out.size))
  have R3 := Lib.hid (R2.out.on hb)
  have KA := Lib.hid (asked_any (comp r s) vc w3 hrc)
  obtain ⟨_, _, _, _, _, _, _, _, rfl⟩ := hrc.form
  clear hb B2 R2 KM hrc
  go_wp2_with fail
  refine KA.out.mono ?_
  rintro e W5 ⟨rfl, hb, hF⟩
  have B5 := Lib.hid (B3.out.trans (hb.mono B3.out.size))
  have R5 := Lib.hid (R3.out.on hb)
  have HF := Lib.hid hF
  clear hb hF B3 R3 KA
  generalize w3.heap.size + 1 = c at HF ⊢
  go_wp2_with fail
  go_loopw [13, 14] (fun dv nv wr => ∃ j : Nat, j ≤ (b + 1 - a).toNat ∧ nv = .int .i64 (a + (j : Int)) ∧ wr.ownsRow W5.heap.size 3 1 dv (ask (comp r s) a j).length (nums (ask (comp r s) a j)) ∧ Below W5.heap.size W5 wr) (fun _ nv _ => (b + 1 - intOf nv).toNat)
  case atStart => exact ⟨0, Nat.zero_le _, by simp, World.ownsRow_nil _ _ _ _, Below.refl _ _⟩
  case round =>
    obtain ⟨j, hj, rfl, hown, hB⟩ := hrel
    have HO := Lib.hid hown
    have Bw := B5.out.trans (hB.mono B5.out.size)
    clear hown
    by_cases hlt : a + (j : Int) ≤ b
    · obtain ⟨n, hn⟩ : ∃ n, n = a + (j : Int) := ⟨_, rfl⟩
      rw [← hn] at hlt
      rw [← hn]
      have HN := Lib.hid hn
      have n1 : 1 ≤ n := by omega
      have n2 : n ≤ 109573 := by omega
      clear hn
      have KP := Lib.hid (placeOf_yes n wr (HT.out _ Bw) n1 n2)
      go_wp2_with fail
      refine KP.out.mono ?_
      rintro e w6 ⟨rfl, hb⟩
      unfold PLC
      have A6 : Below w6.heap.size w6 (w6.alloc (.cells #[.int .i64 (yr n), .int .i64 (mo n), .int .i64 (da n), .int .i64 (ml (yr n) (mo n)), .int .i64 ((da n - 1) / 7 + 1), .int .i64 (wd n), .int .i64 (-((ml (yr n) (mo n) - da n) / 7) - 1), .int .i64 (wd n)] 314)) := (Below.refl _ _).alloc (Nat.le_refl _) _
      have B6' := hB.trans (hb.mono hB.size)
      have B6 := Lib.hid (B6'.trans (A6.mono B6'.size))
      have O6 := Lib.hid (ow_below (ow_below HO.out hb) A6)
      have KQ := Lib.hid (ask4_any (comp r s) n c (w6.alloc (.cells #[.int .i64 (yr n), .int .i64 (mo n), .int .i64 (da n), .int .i64 (ml (yr n) (mo n)), .int .i64 ((da n - 1) / 7 + 1), .int .i64 (wd n), .int .i64 (-((ml (yr n) (mo n) - da n) / 7) - 1), .int .i64 (wd n)] 314)) (HF.out.on B6.out) SM.out n1 n2)
      clear hb B6' A6 KP HO
      have AN := Lib.hid (ask_next (comp r s) a j)
      have AL := ask_len (comp r s) a j
      rw [← HN.out] at AN
      generalize ask (comp r s) a j = xs at O6 AN AL
      have J1 : Hid (n + 1 = a + ((j + 1 : Nat) : Int)) := Lib.hid (by rw [HN.out]; omega)
      have J2 : j + 1 ≤ (b + 1 - a).toNat := by have := HN.out; omega
      have s6 : W5.heap.size ≤ (w6.alloc (.cells #[.int .i64 (yr n), .int .i64 (mo n), .int .i64 (da n), .int .i64 (ml (yr n) (mo n)), .int .i64 ((da n - 1) / 7 + 1), .int .i64 (wd n), .int .i64 (-((ml (yr n) (mo n) - da n) / 7) - 1), .int .i64 (wd n)] 314)).heap.size := B6.out.size
      rcases hq : askB (comp r s) n with _ | _
      · rw [hq] at KQ
        have M1 : Hid (ask (comp r s) a (j + 1) = xs) := Lib.hid (by rw [AN.out, if_neg (by rw [hq]; decide)])
        clear hq AN
        go_wp2_with fail
        generalize w6.alloc (.cells #[.int .i64 (yr n), .int .i64 (mo n), .int .i64 (da n), .int .i64 (ml (yr n) (mo n)), .int .i64 ((da n - 1) / 7 + 1), .int .i64 (wd n), .int .i64 (-((ml (yr n) (mo n) - da n) / 7) - 1), .int .i64 (wd n)] 314) = W6 at B6 O6 KQ s6 ⊢
        refine KQ.out.mono ?_
        rintro e w7 ⟨rfl, hb⟩
        have B7 := Lib.hid (B6.out.trans (hb.mono B6.out.size))
        have O7 := Lib.hid (ow_below O6.out hb)
        clear hb KQ B6 O6
        go_wp2
        go_roundw
        case rel => exact ⟨j + 1, J2, by rw [← J1.out], by rw [M1.out]; exact O7.out, B7.out⟩
        case measure => simp [intOf]; omega
      · rw [hq] at KQ
        have M1 : Hid (ask (comp r s) a (j + 1) = xs ++ [n]) := Lib.hid (by rw [AN.out, if_pos hq])
        clear hq AN
        go_wp2_with fail
        generalize w6.alloc (.cells #[.int .i64 (yr n), .int .i64 (mo n), .int .i64 (da n), .int .i64 (ml (yr n) (mo n)), .int .i64 ((da n - 1) / 7 + 1), .int .i64 (wd n), .int .i64 (-((ml (yr n) (mo n) - da n) / 7) - 1), .int .i64 (wd n)] 314) = W6 at B6 O6 KQ s6 ⊢
        refine KQ.out.mono ?_
        rintro e w7 ⟨rfl, hb⟩
        have B7 := B6.out.trans (hb.mono B6.out.size)
        have O7 := Lib.hid (ow_below O6.out hb)
        have s7 : W5.heap.size ≤ w7.heap.size := B7.size
        clear hb KQ B6 O6
        go_wp2_with (at_builtin; refine wpList_append_own _ rfl _ _ 34 rfl W5.heap.size 3 i0 (.int .i64 0) 1 8 Tryz.underlying34 hi hz0 hz1 hz2 rfl (by decide) _ _ _ rfl (O7.out.alloc _) ⟨w7.heap.size, 0, none⟩ 1 1 [.int .i64 n] rfl rfl ?c1 ?c2 ?c3 ?c4 ?c5 ?_)
        case c1 =>
          intro q u hj
          match q, hj with
          | 0, hj => simp at hj; subst hj; simp [Addr.add]
        case c2 => intro u hu; simp at hu; subst hu; rfl
        case c3 => unfold maxLen; omega
        case c4 => omega
        case c5 => simp; omega
        intro v' w8 hown' hgrow _
        have R2 := Lib.hid (ow_grow B7.size B7 (Below.refl _ _) O7.out hgrow)
        have R1 := Lib.hid hown'
        rw [← nums_snoc] at R1
        clear hown' hgrow O7
        go_wp2
        go_roundw
        case rel => exact ⟨j + 1, J2, by rw [← J1.out], by rw [M1.out, List.length_append]; exact R1.out, R2.out⟩
        case measure => simp [intOf]; omega
    · have AE : Hid (ask (comp r s) a j = allD r s a b) := Lib.hid (by unfold ask allD; rw [show j = (b + 1 - a).toNat by omega])
      have AL := ask_len (comp r s) a j
      have RR := ow_ints HO.out
      rw [AE.out] at RR AL
      obtain ⟨vm, vd, vw, vp, e', _, _, _, h4⟩ := HV.out _ Bw
      obtain ⟨_, _, _, rfl⟩ : Value.slice am r.months.length cm = vm ∧ Value.slice ad r.days.length cd = vd ∧ Value.slice aw r.weeks.length cw = vw ∧ Value.slice ap r.pick.length cp = vp := by simpa using e'
      obtain ⟨av, cv, rfl, _⟩ := id RR
      have KP := Lib.hid (picked_new w.heap.size _ _ _ _ wr RR h4 (by omega) (by omega) Bw.size (fun g hg => Nat.le_trans B5.out.size (HO.out.lt g hg).1))
      have RX := R5.out.on hB
      have xl := RX.lt
      obtain ⟨x0, x1, x2, x3, x4, x5, x6, x7⟩ := RX
      have BX := Lib.hid Bw
      clear RR h4 e' HO Bw
      go_wp2_with fail
      refine KP.out.mono ?_
      rintro e w9 ⟨v9, rfl, hi9, hb, hf9⟩
      have F9 := Lib.hid hf9
      clear hf9
      have B9 := Lib.hid (BX.out.trans (hb.mono BX.out.size))
      have I9 := Lib.hid hi9
      obtain ⟨a9, c9, rfl, _⟩ := hi9
      clear hb KP x0 x1 x2 x3 x4 x5 x6 x7 xl
      go_wp2
      exact bodyPost_ret (v := .tuple #[.slice a9 (pick r.pick (allD r s a b)).length c9, .nilIface]) (by simp [results, Tryz.results277, go_sem]) rfl ⟨B9.out, Or.inr ⟨_, _, N1.out, rfl, I9.out, F9.out⟩⟩
theorem perDays_any (r : Rl) (v : Value) (s k : Int) (w : World) (hv : RuleIn w v r) (hT : Tab w) :
    Calls Tryz.prog 277 #[v, .int .i64 s, .int .i64 k] w (PerA w (pD r s k)) :=
  (perDays_new r v s k w hv hT).mono (fun _ _ ⟨b, h⟩ => ⟨b, h.elim Or.inl (fun ⟨l, v, h1, h2, h3, _⟩ => Or.inr ⟨l, v, h1, h2, h3⟩)⟩)
end Go.Proofs.YthdohcjingfpoaaGreatDoor
namespace Go.Proofs.YthdohcjingfpoaaGreatDoor
namespace Zo
open Go.RowKit

/-- Pairs as cells. -/
def prc (xs : List (Int × Int)) : List Value := xs.flatMap fun x => [.int .i64 x.1, .int .i64 x.2]
theorem prs_snoc (xs : List (Int × Int)) (y : Int × Int) : prc (xs ++ [y]) = prc xs ++ [.int .i64 y.1, .int .i64 y.2] := by simp [prc]
theorem prc_len (xs : List (Int × Int)) : (prc xs).length = xs.length * 2 := by
  induction xs with
  | nil => rfl
  | cons a r ih => show ([_, _] ++ prc r).length = _; rw [List.length_append, ih, List.length_cons]; simp; omega
theorem prc_at : ∀ (xs : List (Int × Int)) (i : Nat), i < xs.length → (prc xs)[i * 2]? = some (.int .i64 (xs.getD i (0, 0)).1) ∧ (prc xs)[i * 2 + 1]? = some (.int .i64 (xs.getD i (0, 0)).2)
  | a :: r, 0, _ => ⟨rfl, rfl⟩
  | a :: r, i + 1, h => by
    have ih := prc_at r i (by simpa using h)
    have e1 : (i + 1) * 2 = i * 2 + 2 := by omega
    show (Value.int .i64 a.1 :: Value.int .i64 a.2 :: prc r)[(i + 1) * 2]? = _ ∧ (Value.int .i64 a.1 :: Value.int .i64 a.2 :: prc r)[(i + 1) * 2 + 1]? = _
    rw [e1, show i * 2 + 2 + 1 = i * 2 + 1 + 2 by omega]
    simpa using ih
theorem own_prs {W : World} {base : Nat} {e : TypeId} {v : Value} {n : Nat} {xs : List (Int × Int)} (h : W.ownsRow base e 2 v n (prc xs)) : Nths W v xs := by
  have hl : xs.length = n := by have := h.1; rw [prc_len] at this; omega
  rcases h.2 with ⟨hv, h0⟩ | ⟨g, cap, cur, hv, hb, hg, hc, hm, hs, ht⟩
  · exact ⟨none, 0, by rw [hv, hl, h0], Or.inl (List.eq_nil_of_length_eq_zero (by omega))⟩
  · refine ⟨some ⟨g, 0, none⟩, cap, by rw [hv, hl], Or.inr ⟨g, 0, rfl, fun i hi => ?_⟩⟩
    have hadd : ∀ j, (⟨g, 0, none⟩ : Addr).add j = ⟨g, 0 + j, none⟩ := fun j => by unfold Addr.add; split <;> simp_all
    obtain ⟨q1, q2⟩ := prc_at xs i hi
    have c1 := h.cells (g := g) (by rw [hv]; rfl) _ _ q1
    have c2 := h.cells (g := g) (by rw [hv]; rfl) _ _ q2
    rw [hadd] at c1 c2
    exact ⟨c1, by rw [Nat.add_assoc]; exact c2⟩
/-- A struct of two cells lies in a block of its own. -/
def Obj2 (W : World) (b : Nat) (t : TypeId) (u v : Value) : Prop := W.heap[b]? = some (.cells #[u, v] t (0, 0))
theorem Obj2.lt {W : World} {b : Nat} {t : TypeId} {u v : Value} (h : Obj2 W b t u v) : b < W.heap.size := by
  rcases Nat.lt_or_ge b W.heap.size with q | q
  · exact q
  · have h' : W.heap[b]? = some (.cells #[u, v] t (0, 0)) := h
    rw [Array.getElem?_eq_none q] at h'; cases h'
theorem Obj2.cells {W : World} {b : Nat} {t : TypeId} {u v : Value} (h : Obj2 W b t u v) : W.cell? ⟨b, 0, none⟩ = some u ∧ W.cell? ⟨b, 1, none⟩ = some v ∧ W.frozen? ⟨b, 0, none⟩ = false ∧ W.frozen? ⟨b, 1, none⟩ = false := by
  have h' : W.heap[b]? = some (.cells #[u, v] t (0, 0)) := h
  simp [World.cell?, World.frozen?, h']
theorem Obj2.new (W : World) (t : TypeId) (u v : Value) : Obj2 (W.alloc (.cells #[u, v] t)) W.heap.size t u v := by
  show (W.heap.push _)[W.heap.size]? = _
  simp
theorem Obj2.on {W W' : World} {b : Nat} {t : TypeId} {u v : Value} (h : Obj2 W b t u v) (q : Below W.heap.size W W') : Obj2 W' b t u v := (q.block b h.lt).trans h
theorem Obj2.kept {W W' : World} {row : Option Nat} {b : Nat} {t : TypeId} {u v : Value} (h : Obj2 W b t u v) (hg : W.grownBy W' row) (hne : some b ≠ row) : Obj2 W' b t u v := (hg.block b h.lt hne).trans h
theorem Obj2.set {W : World} {b : Nat} {t : TypeId} {u v : Value} (h : Obj2 W b t u v) (v' : Value) : Obj2 (W.setCell ⟨b, 1, none⟩ v') b t u v' := by
  have h' : W.heap[b]? = some (.cells #[u, v] t (0, 0)) := h
  obtain ⟨hlt, hk⟩ := Array.getElem?_eq_some_iff.1 h'
  show (W.heap.modify b _)[b]? = _
  rw [Array.getElem?_eq_getElem (by rw [Array.size_modify]; exact hlt), Array.getElem_modify_self, hk]
  rfl
/-- An append to a row of the call's own, as a step of a region that draws its order. -/
theorem step_append_own {P : Program} {ops : Array Oper} {o : Oper} {a : Act} {w : World} {K : Act → World → Prop} {Q : Exit → Act → World → Prop} {E : Prop}
    (hg : o.guard = none) (s x : Operand) (t : TypeId) (hop : o.op = Op.call { callee := Callee.builtin Builtin.append, args := #[s, x], argTypes := #[t, t] })
    (base : Nat) (e : TypeId) (i : TypeInfo) (z : Value) (size bytes : Nat) (h1 : P.underlying t = some (.slice e)) (h2 : P.info? e = some i) (h3 : i.zero = some z) (h4 : i.size = size) (h5 : i.bytes = bytes) (h6 : z.cells.size = size) (h7 : 0 < size)
    (v : Value) (k : Nat) (xs : List Value) (hs : a.eval s = v) (hown : w.ownsRow base e size v k xs) (ad : Addr) (m c : Nat) (news : List Value) (hx : a.eval x = .slice (some ad) m c) (hn : news.length = m * size)
    (hc : ∀ j u, news[j]? = some u → w.cell? (ad.add j) = some u) (h1c : ∀ u ∈ news, u.oneCell' = true) (b1 : k + m ≤ maxLen) (b2 : (k + m) * bytes ≤ 140737488355328) (b3 : base ≤ w.heap.size)
    (hK : ∀ v' w', w'.ownsRow base e size v' (k + m) (xs ++ news) → w.grownBy w' v.ownBlock → K (a.put o.dst v') w') :
    if Region.wanted o (yielded ops a.tmps) = true then Oper.wp P o a w K Q else E := by
  have hw : Region.wanted o (yielded ops a.tmps) = true := by simp [Region.wanted, hg]
  rw [if_pos hw]
  obtain ⟨v', w', hrun, r1, r2, _, _⟩ := run_append_own_at (P := P) w base t o.type e i z size bytes h1 h2 h3 h4 h5 h6 h7 v k xs hown ad m c news hn hc h1c b1 b2 b3
  unfold Oper.wp
  simp [execOp, hop, resolve, invoke, builtin, hs, hx, hrun, Result.andThen]
  exact hK v' w' r1 r2
theorem cell_two_new (W : World) (u v : Value) (t : TypeId) : ∀ j q, [u, v][j]? = some q → (W.alloc (.cells #[u, v] t)).cell? ((⟨W.heap.size, 0, none⟩ : Addr).add j) = some q := by
  intro j q hj
  match j, hj with
  | 0, hj => simp at hj; subst hj; simp [Addr.add]
  | 1, hj => simp at hj; subst hj; simp [Addr.add]
theorem grown_set1 (W : World) (b : Nat) (v : Value) : W.grownBy (W.setCell ⟨b, 1, none⟩ v) (some b) :=
  ⟨rfl, rfl, rfl, by simp, fun k _ hk => Below.heap_setCell _ _ _ k (fun e => hk (by rw [e]))⟩
/-- What an append to a list in a struct's second cell leaves, and the store behind it. -/
theorem field_step {w1 wr X w3 : World} {B : Nat} {t e : TypeId} {u vs v' : Value} {sz k k' : Nat} {xs xs' : List Value} (hB : Below B w1 wr) (hs : w1.heap.size = B) (hO : wr.ownsRow (B + 1) e sz vs k xs) (hX : Below wr.heap.size wr X) (hb : Obj2 wr B t u vs)
    (R1 : w3.ownsRow (B + 1) e sz v' k' xs') (R2 : X.grownBy w3 vs.ownBlock) :
    Obj2 w3 B t u vs ∧ (∀ b o, b < B → w3.cell? ⟨b, o, none⟩ = w1.cell? ⟨b, o, none⟩) ∧ Obj2 (w3.setCell ⟨B, 1, none⟩ v') B t u v' ∧ (w3.setCell ⟨B, 1, none⟩ v').ownsRow (B + 1) e sz v' k' xs' ∧ Below B w1 (w3.setCell ⟨B, 1, none⟩ v') := by
  have hr : ∀ g, vs.ownBlock = some g → B + 1 ≤ g := fun g hg => (hO.lt g hg).1
  have o3 : Obj2 w3 B t u vs := (hb.on hX).kept R2 (fun q => by have := hr B q.symm; omega)
  have sz := hX.size
  have szr := hB.size
  have b3 : Below B w1 w3 := (hB.trans (hX.mono (by omega))).grown R2 (by omega) (fun g hg => by have := hr g hg; omega)
  refine ⟨o3, fun b o hlt => b3.cell (p := ⟨b, o, none⟩) hlt, o3.set v', ?_, b3.setCell (Nat.le_refl _) _⟩
  refine R1.kept (grown_set1 w3 B v') ?_
  rcases hv : v'.ownBlock with _ | g
  · exact Or.inl rfl
  · refine Or.inr (fun q => ?_)
    have := (R1.lt g hv).1
    have : g = B := by simpa using q
    omega
theorem own_shape {W : World} {base : Nat} {e : TypeId} {sz n : Nat} {v : Value} {xs : List Value} (h : W.ownsRow base e sz v (n + 1) xs) : ∃ g cap, v = .slice (some ⟨g, 0, none⟩) (n + 1) cap := by
  rcases h.2 with ⟨_, h0⟩ | ⟨g, cap, cur, hv, _⟩
  · omega
  · exact ⟨g, cap, hv⟩
end Zo
end Go.Proofs.YthdohcjingfpoaaGreatDoor
