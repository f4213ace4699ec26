/-
  What is proved here: changes appended to changes; what slices.Clone answers at changes (contracts over the translation).
  What is proved here: plain facts on when an event really is, of the whole world: the list of its Times, and what is in it.
-/
import Derived.Test.YthdohcjingfpoaaGreatDoorBS
import Derived.Test.YthdohcjingfpoaaGreatDoorEvMov
import Derived.Test.YthdohcjingfpoaaGreatDoorPU
namespace Go.Proofs.YthdohcjingfpoaaGreatDoor
open Go.RowKit Cal Txt

theorem info_ti_chg : (Tryz.prog.info? 135).map (fun i => (i.zero, i.size, i.bytes)) = some (some (.agg #[.int .i64 0, .int .i64 0]), 2, 16) := by kernel_rfl
theorem nths_cells {w : World} {b off : Nat} {l : List (Int × Int)} (hc : ∀ i, i < l.length → w.cell? ⟨b, off + i * 2, none⟩ = some (.int .i64 (l.getD i (0, 0)).1) ∧ w.cell? ⟨b, off + i * 2 + 1, none⟩ = some (.int .i64 (l.getD i (0, 0)).2)) : ∀ j u, (Zo.prc l)[j]? = some u → w.cell? ((⟨b, off, none⟩ : Addr).add j) = some u := fun j u hu => by
  have hl : j < l.length * 2 := by have := (List.getElem?_eq_some_iff.1 hu).1; rwa [Zo.prc_len] at this
  have hadd : (⟨b, off, none⟩ : Addr).add j = ⟨b, off + j, none⟩ := by unfold Addr.add; split <;> simp_all
  rw [hadd]
  obtain ⟨q1, q2⟩ := Zo.prc_at l (j / 2) (by omega)
  obtain ⟨c1, c2⟩ := hc (j / 2) (by omega)
  rcases (by omega : j % 2 = 0 ∨ j % 2 = 1) with z | z
  · rw [show j = j / 2 * 2 by omega] at hu ⊢
    rw [c1, ← q1, hu]
  · rw [show j = j / 2 * 2 + 1 by omega] at hu ⊢
    rw [← Nat.add_assoc, c2, ← q2, hu]
theorem prc_one (l : List (Int × Int)) : ∀ u ∈ Zo.prc l, u.oneCell' = true := fun u hu => by
  unfold Zo.prc at hu
  obtain ⟨x, _, hx⟩ := List.mem_flatMap.1 hu
  simp at hx
  rcases hx with rfl | rfl <;> rfl
theorem app2_any {w : World} {n0 : Nat} {v vo : Value} {l mo : List (Int × Int)} (h : w.ownsRow n0 135 2 v l.length (Zo.prc l)) (hm : Nths w vo mo) (hn : n0 ≤ w.heap.size) (hl : l.length + mo.length ≤ 1000000) :
    ∃ v' w', (∀ ty, (Builtin.append_ #[38, 38] ty #[v, vo]).run Tryz.prog w = .ok v' w') ∧ w'.ownsRow n0 135 2 v' (l ++ mo).length (Zo.prc (l ++ mo)) ∧ Below n0 w w' := by
  obtain ⟨i0, hi, hz0, hz1, hz2⟩ := info_parts info_ti_chg
  obtain ⟨a, cap, rfl, hc⟩ := hm
  have own : ∀ (v' : Value) (w' : World), w'.ownsRow n0 135 2 v' (l.length + mo.length) (Zo.prc l ++ Zo.prc mo) → w'.ownsRow n0 135 2 v' (l ++ mo).length (Zo.prc (l ++ mo)) := fun v' w' q => by
    rw [List.length_append, show Zo.prc (l ++ mo) = Zo.prc l ++ Zo.prc mo by simp [Zo.prc]]; exact q
  have blw : ∀ w' : World, w.grownBy w' v.ownBlock → Below n0 w w' := fun w' q => (Below.refl n0 w).grown q hn (fun j hj => (h.lt j hj).1)
  have some_ : ∀ ad : Addr, (∀ j u, (Zo.prc mo)[j]? = some u → w.cell? (ad.add j) = some u) → ∃ (v' : Value) (w' : World), (∀ ty, (Builtin.append_ #[38, 38] ty #[v, .slice (some ad) mo.length cap]).run Tryz.prog w = .ok v' w') ∧ w'.ownsRow n0 135 2 v' (l ++ mo).length (Zo.prc (l ++ mo)) ∧ Below n0 w w' := fun ad hcell => by
    obtain ⟨v', w', hr, r1, r2, _, _⟩ := run_append_own_at (P := Tryz.prog) w n0 38 38 135 i0 (.agg #[.int .i64 0, .int .i64 0]) 2 16 Tryz.underlying38 hi hz0 hz1 hz2 rfl (by decide) v l.length (Zo.prc l) h ad mo.length cap (Zo.prc mo) (Zo.prc_len mo) hcell (prc_one mo) (by unfold maxLen; omega) (by omega) hn
    exact ⟨v', w', fun ty => hr, own v' w' r1, blw w' r2⟩
  rcases hc with rfl | ⟨b, off, rfl, hc⟩
  · rcases a with _ | ad
    · refine ⟨v, w, fun ty => ?_, own v w (by simpa [Zo.prc] using h), Below.refl _ _⟩
      rcases h.2 with ⟨rfl, h0⟩ | ⟨g, cp, cur, rfl, _, hg, hnc, _, _, _⟩
      · simp [Builtin.append_, run_underlying Tryz.underlying38, sizeOf, typeInfo, hi, Builtin.lenOf, Builtin.firstCells]
      · simp [Builtin.append_, run_underlying Tryz.underlying38, sizeOf, typeInfo, hi, Builtin.lenOf, Builtin.firstCells, hnc, storeCells]
    · exact some_ ad (fun j u hu => by simp [Zo.prc] at hu)
  · exact some_ ⟨b, off, none⟩ (nths_cells hc)
theorem own_hol2c {w : World} {n0 n : Nat} {v : Value} {l : List (Int × Int)} (h : w.ownsRow n0 135 2 v n (Zo.prc l)) : (v = .slice none 0 0 ∧ l = []) ∨ ∃ g cap, v = .slice (some ⟨g, 0, none⟩) l.length cap ∧ n0 ≤ g ∧ l.length ≤ cap ∧ Hol2 w g 0 l := by
  have hl : l.length = n := by have := h.1; rw [Zo.prc_len] at this; omega
  rcases h.2 with ⟨hv, h0⟩ | ⟨g, cap, cur, hv, hb, hg, hc, hm, hs, ht⟩
  · exact Or.inl ⟨hv, List.eq_nil_of_length_eq_zero (by omega)⟩
  · refine Or.inr ⟨g, cap, by rw [hv, hl], hb, by omega, fun i hi => ?_⟩
    have hadd : ∀ j, (⟨g, 0, none⟩ : Addr).add j = ⟨g, 0 + j, none⟩ := fun j => by unfold Addr.add; split <;> simp_all
    obtain ⟨q1, q2⟩ := Zo.prc_at l i hi
    have c1 := h.cells (g := g) (by rw [hv]; rfl) _ _ q1
    have c2 := h.cells (g := g) (by rw [hv]; rfl) _ _ q2
    rw [hadd] at c1 c2
    refine ⟨⟨c1, by rw [Nat.add_assoc]; exact c2⟩, ?_, ?_⟩ <;> simp [World.frozen?, hg]
/-- What Clone answers. -/
def ClnA (w : World) (l : List (Int × Int)) (e : Ending) (w' : World) : Prop := ∃ u, e = .returned u ∧ Below w.heap.size w w' ∧ ((l = [] ∧ ∃ a c, u = .slice a 0 c) ∨ (0 < l.length ∧ ∃ g cap, u = .slice (some ⟨g, 0, none⟩) l.length cap ∧ w.heap.size ≤ g ∧ l.length ≤ cap ∧ Hol2 w' g 0 l))
set_option maxRecDepth 100000 in
theorem clone_any (v : Value) (l : List (Int × Int)) (w : World) (hv : Nths w v l) (hl : l.length ≤ 1000000) :
    Calls Tryz.prog 108 #[v] w (ClnA w l) := by
  obtain ⟨a, cap, rfl, hc⟩ := id hv
  rcases a with _ | ad
  · have l0 : l = [] := by
      rcases hc with q | ⟨b, off, q, _⟩
      · exact q
      · cases q
    subst l0
    have hn : ∀ w, (binOp .eql 38 (.slice none 0 cap) (.slice none 0 0)).run Tryz.prog w = .ok (.bool true) w := fun w => Lib.run_eql_slice_nil w _ _ none _ _ _ _ Tryz.underlying38
    go_enter Tryz.func108, Tryz.ntmps108
    go_wp2
    go_ret
    exact ⟨_, rfl, Below.refl _ _, Or.inl ⟨rfl, none, 0, rfl⟩⟩
  · have b1 : Below w.heap.size w (w.alloc (.cells #[] 135)) := (Below.refl _ _).alloc (Nat.le_refl _) _
    have O0 : (w.alloc (.cells #[] 135)).ownsRow w.heap.size 135 2 (.slice (some ⟨w.heap.size, 0, none⟩) ([] : List (Int × Int)).length 0) ([] : List (Int × Int)).length (Zo.prc []) :=
      ⟨rfl, Or.inr ⟨w.heap.size, 0, #[], rfl, Nat.le_refl _, heap_alloc_new w _, Nat.le_refl _, Nat.zero_le _, rfl, rfl⟩⟩
    obtain ⟨v2, w2, ap, o2, b2⟩ := app2_any (mo := l) O0 (hv.on b1) (by rw [World.size_alloc]; omega) (by simpa using hl)
    rw [List.nil_append] at o2
    have AP := Lib.hid ap
    have ZZ : Hid (ClnA w l (.returned v2) w2) := Lib.hid (by
      refine ⟨v2, rfl, b1.trans b2, ?_⟩
      rcases own_hol2c o2 with ⟨e1, e2⟩ | ⟨g, c2, e1, h1, h2, h3⟩
      · exact Or.inl ⟨e2, none, 0, e1⟩
      · rcases Nat.eq_zero_or_pos l.length with q | q
        · exact Or.inl ⟨List.eq_nil_of_length_eq_zero q, _, _, by rw [e1, q]⟩
        · exact Or.inr ⟨q, g, c2, e1, h1, h2, h3⟩)
    have hn : ∀ w, (binOp .eql 38 (.slice (some ad) l.length cap) (.slice none 0 0)).run Tryz.prog w = .ok (.bool false) w := fun w => Lib.run_eql_slice_nil w _ _ (some ad) _ _ _ _ Tryz.underlying38
    clear hv hc O0 ap o2 b2 b1
    go_enter Tryz.func108, Tryz.ntmps108
    go_wp2_with (at_builtin; refine wpList_app rfl _ _ 38 rfl _ _ _ _ rfl rfl AP.out ?_)
    go_ret
    exact ZZ.out
end Go.Proofs.YthdohcjingfpoaaGreatDoor
namespace Go.Proofs.YthdohcjingfpoaaGreatDoor
open Go.RowKit Cal Txt

/-- Is a number a time of an event? -/
def isE (e : Evt) (x : Int) : Prop := (isS e x ∨ x ∈ e.more) ∧ x ∉ e.nots
theorem evL_is {e : Evt} {fr t x : Int} (h : evF e = 0) (hf : ist fr = true) (ht : ist t = true) : x ∈ evL (stL e fr t) e fr t ↔ isE e x ∧ fr ≤ x ∧ x ≤ t := by
  rw [evL_mem]
  unfold isE
  constructor
  · rintro ⟨a, b, c, d⟩
    exact ⟨⟨a.imp (fun q => (stL_mem h hf ht c d).1 q) id, b⟩, c, d⟩
  · rintro ⟨⟨a, b⟩, c, d⟩
    exact ⟨a.imp (fun q => (stL_mem h hf ht c d).2 q) id, b, c, d⟩
theorem isE_time {e : Evt} {x : Int} (h : evF e = 0) (hx : isE e x) : ist x = true := by
  have hs := (evF_lens h).2.2.1
  rcases hx.1 with q | q
  · unfold isS at q
    split at q
    · rename_i hr
      obtain ⟨n, hn, rfl⟩ := q
      have h3 := (evF_lens h).2.1
      unfold ruF at h3
      rw [if_pos hr] at h3
      obtain ⟨d1, d2, _⟩ := DAYS_in (sf_ev h3 hs) hn
      have e1 := (dyo_ok hs).1
      have := of_decide_eq_true hs
      unfold tmd
      rw [e1] at d1 ⊢
      exact ist_yes (by omega) (by omega)
    · rw [q]; exact hs
  · exact List.all_eq_true.1 (evF_lens h).2.2.2.1.1 x q
/-- The same as a test. -/
def isEb (e : Evt) (x : Int) : Bool := !((evL (stL e x x) e x x).length == 0)
theorem isEb_iff {e : Evt} {x : Int} (h : evF e = 0) (hx : ist x = true) : isEb e x = true ↔ isE e x := by
  unfold isEb
  constructor
  · intro q
    have q2 : (evL (stL e x x) e x x).length ≠ 0 := by simpa using q
    obtain ⟨y, hy⟩ := List.exists_mem_of_length_pos (Nat.pos_of_ne_zero q2)
    obtain ⟨a, b, c⟩ := (evL_is h hx hx).1 hy
    rwa [show x = y by omega]
  · intro q
    have hm := (evL_is h hx hx).2 ⟨q, Int.le_refl _, Int.le_refl _⟩
    have := List.length_pos_of_mem hm
    simp; intro z; rw [z] at this; simp at this
/-- When a time really is. -/
def rea (e : Evt) (x : Int) : Option Int := match chOf e.chg x with | none => some x | some n => if n = 0 then none else some n
theorem chOf_mem {l : List (Int × Int)} {x n : Int} (h : chOf l x = some n) : (x, n) ∈ l := by
  unfold chOf at h
  rcases q : l.find? (fun c => c.1 == x) with _ | c
  · rw [q] at h; cases h
  · rw [q] at h
    have e1 := List.find?_some q
    have e2 := List.mem_of_find?_eq_some q
    simp at h e1
    rw [← h, ← e1]
    exact e2
theorem cri_pair {l : List (Int × Int)} (h : criB l = true) : l.Pairwise (fun a b => a.1 < b.1) := by
  unfold criB at h
  rw [List.all_eq_true] at h
  have st : ∀ i, i + 1 < l.length → (l.getD i (0, 0)).1 < (l.getD (i + 1) (0, 0)).1 := fun i hi => of_decide_eq_true (h i (List.mem_range.2 (by omega)))
  have far : ∀ d i, i + d + 1 < l.length → (l.getD i (0, 0)).1 < (l.getD (i + d + 1) (0, 0)).1 := by
    intro d
    induction d with
    | zero => intro i hi; exact st i hi
    | succ d ih =>
      intro i hi
      have a := ih i (by omega)
      have b := st (i + d + 1) (by omega)
      rw [show i + (d + 1) + 1 = i + d + 1 + 1 by omega]
      omega
  rw [List.pairwise_iff_getElem]
  intro i j hi hj hij
  have := far (j - i - 1) i (by omega)
  rw [show i + (j - i - 1) + 1 = j by omega, List.getD_eq_getElem?_getD, List.getD_eq_getElem?_getD, List.getElem?_eq_getElem hi, List.getElem?_eq_getElem hj] at this
  exact this
theorem chOf_of : ∀ {l : List (Int × Int)} {c : Int × Int}, l.Pairwise (fun a b => a.1 < b.1) → c ∈ l → chOf l c.1 = some c.2
  | [], _, _, h => by simp at h
  | d :: l, c, hp, h => by
    obtain ⟨p1, p2⟩ := List.pairwise_cons.1 hp
    rcases List.mem_cons.1 h with e | e
    · subst e
      unfold chOf
      rw [List.find?_cons_of_pos (by simp)]
      rfl
    · have lt := p1 c e
      have ih := chOf_of p2 e
      unfold chOf at ih ⊢
      rw [List.find?_cons_of_neg (by simp; omega)]
      exact ih
theorem evF_chg {e : Evt} (h : evF e = 0) : e.chg.all chB = true ∧ criB e.chg = true := by
  unfold evF at h
  split at h
  · cases h
  split at h
  · cases h
  split at h
  · rename_i q; exact absurd h q
  split at h
  · rename_i q; exact absurd h q
  rename_i q1 q2 q3
  have h4 : liF e = 0 := Decidable.byContradiction q3
  unfold liF at h4
  split at h4
  · cases h4
  split at h4
  · cases h4
  split at h4
  · cases h4
  rename_i a b c
  simp only [Bool.not_eq_false, Bool.and_eq_true] at b c
  exact ⟨b.2, c.2⟩
theorem rea_time {e : Evt} {x r : Int} (h : evF e = 0) (hx : isE e x) (hr : rea e x = some r) : ist r = true := by
  unfold rea at hr
  split at hr
  · cases hr; exact isE_time h hx
  · rename_i n q
    split at hr
    · cases hr
    · rename_i q0
      cases hr
      have := List.all_eq_true.1 (evF_chg h).1 _ (chOf_mem q)
      unfold chB at this
      simp at this
      exact this.2.resolve_left q0
/-- What is really in a stretch, of the event's zone. -/
def sty (e : Evt) (fr t : Int) : List (Int × Int) := ((evL (stL e fr t) e fr t).filter (fun x => (chOf e.chg x).isNone)).map (fun x => (x, x))
def mvd (e : Evt) (fr t : Int) : List (Int × Int) := (e.chg.filter (fun c => decide (fr ≤ c.2 ∧ c.2 ≤ t))).filter (fun c => isEb e c.1)
def mom (e : Evt) (fr t : Int) : List (Int × Int) := sty e fr t ++ mvd e fr t
theorem sty_mem {e : Evt} {fr t : Int} {c : Int × Int} (h : evF e = 0) (hf : ist fr = true) (ht : ist t = true) : c ∈ sty e fr t ↔ isE e c.1 ∧ chOf e.chg c.1 = none ∧ c.2 = c.1 ∧ fr ≤ c.1 ∧ c.1 ≤ t := by
  unfold sty
  rw [List.mem_map]
  constructor
  · rintro ⟨x, hx, rfl⟩
    obtain ⟨a, b⟩ := List.mem_filter.1 hx
    obtain ⟨p, q⟩ := (evL_is h hf ht).1 a
    exact ⟨p, by simpa using b, rfl, q⟩
  · rintro ⟨a, b, c', d⟩
    exact ⟨c.1, List.mem_filter.2 ⟨(evL_is h hf ht).2 ⟨a, d⟩, by rw [b]; rfl⟩, Prod.ext rfl c'.symm⟩
theorem mvd_mem {e : Evt} {fr t : Int} {c : Int × Int} (h : evF e = 0) : c ∈ mvd e fr t ↔ isE e c.1 ∧ chOf e.chg c.1 = some c.2 ∧ fr ≤ c.2 ∧ c.2 ≤ t := by
  unfold mvd
  rw [List.mem_filter, List.mem_filter]
  obtain ⟨h1, h2⟩ := evF_chg h
  have tm : ∀ {d : Int × Int}, d ∈ e.chg → ist d.1 = true := fun {d} q => by
    have := List.all_eq_true.1 h1 d q
    unfold chB at this
    rw [Bool.and_eq_true] at this
    exact this.1
  constructor
  · rintro ⟨⟨a, b⟩, q⟩
    exact ⟨(isEb_iff h (tm a)).1 q, chOf_of (cri_pair h2) a, by simpa using b⟩
  · rintro ⟨a, b, q⟩
    have m := chOf_mem b
    exact ⟨⟨m, by simpa using q⟩, (isEb_iff h (tm m)).2 a⟩
theorem mom_mem {e : Evt} {fr t : Int} {c : Int × Int} (h : evF e = 0) (hf : ist fr = true) (ht : ist t = true) : c ∈ mom e fr t ↔ isE e c.1 ∧ rea e c.1 = some c.2 ∧ fr ≤ c.2 ∧ c.2 ≤ t := by
  unfold mom rea
  rw [List.mem_append, sty_mem h hf ht, mvd_mem h]
  have f1 := (of_decide_eq_true hf).1
  constructor
  · rintro (⟨a, b, c', d1, d2⟩ | ⟨a, b, d1, d2⟩)
    · rw [b, c']; exact ⟨a, rfl, d1, d2⟩
    · rw [b]
      refine ⟨a, ?_, d1, d2⟩
      show (if c.2 = 0 then none else some c.2) = _
      rw [if_neg (by omega)]
  · rintro ⟨a, b, d1, d2⟩
    rcases q : chOf e.chg c.1 with _ | n
    · rw [q] at b
      simp at b
      exact Or.inl ⟨a, rfl, b.symm, by omega, by omega⟩
    · rw [q] at b
      have b' : (if n = 0 then none else some n) = some c.2 := b
      split at b'
      · cases b'
      · cases b'; exact Or.inr ⟨a, rfl, d1, d2⟩
/-- Those of Which are all others. -/
theorem mom_apart {e : Evt} {fr t : Int} (h : evF e = 0) (hf : ist fr = true) (ht : ist t = true) : (mom e fr t).Pairwise (fun a b => a.1 ≠ b.1) := by
  unfold mom
  rw [List.pairwise_append]
  refine ⟨?_, ?_, ?_⟩
  · unfold sty
    rw [List.pairwise_map]
    exact ((evL_rise _ e fr t).filter _).imp (fun q => by simp; omega)
  · unfold mvd
    exact (((cri_pair (evF_chg h).2).filter _).filter _).imp (fun q => by omega)
  · intro a ha b hb e'
    have q1 := ((sty_mem h hf ht).1 ha).2.1
    have q2 := ((mvd_mem h).1 hb).2.1
    rw [e', q2] at q1
    cases q1
/-- A Time: which, from when, to when. -/
abbrev Tm := Int × Int × Int
/-- When it is, of the whole world; the Time. -/
def wor (a : Int) (l : List (Int × Int)) (t : Int) : Option Int := (Zo.twi a l t).head?
def tim (a : Int) (l : List (Int × Int)) (e : Evt) (c : Int × Int) : Option Tm := match wor a l c.2 with | none => none | some f => if f + e.len ≤ 157785119 then some (c.1, f, f + e.len) else none
def isTm (a : Int) (l : List (Int × Int)) (e : Evt) (fr t : Int) (y : Tm) : Prop := isE e y.1 ∧ (∃ r, rea e y.1 = some r ∧ tim a l e (y.1, r) = some y) ∧ fr ≤ y.2.1 ∧ y.2.1 < t
/-- Which is ahead. -/
def ltT (x y : Tm) : Prop := x.2.1 < y.2.1 ∨ (x.2.1 = y.2.1 ∧ x.1 < y.1)
theorem tm_ext : ∀ {a b : List Tm}, a.Pairwise ltT → b.Pairwise ltT → (∀ x, x ∈ a ↔ x ∈ b) → a = b
  | [], [], _, _, _ => rfl
  | [], y :: b, _, _, h => absurd ((h y).2 List.mem_cons_self) (by simp)
  | x :: a, [], _, _, h => absurd ((h x).1 List.mem_cons_self) (by simp)
  | x :: a, y :: b, ha, hb, h => by
    obtain ⟨a1, a2⟩ := List.pairwise_cons.1 ha
    obtain ⟨b1, b2⟩ := List.pairwise_cons.1 hb
    have e : x = y := by
      rcases List.mem_cons.1 ((h x).1 List.mem_cons_self) with q | q
      · exact q
      · rcases List.mem_cons.1 ((h y).2 List.mem_cons_self) with q2 | q2
        · exact q2.symm
        · have l1 := b1 x q
          have l2 := a1 y q2
          unfold ltT at l1 l2
          omega
    subst e
    congr 1
    refine tm_ext a2 b2 (fun z => ⟨fun q => ?_, fun q => ?_⟩)
    · rcases List.mem_cons.1 ((h z).1 (List.mem_cons_of_mem _ q)) with e | e
      · subst e; have := a1 z q; unfold ltT at this; omega
      · exact e
    · rcases List.mem_cons.1 ((h z).2 (List.mem_cons_of_mem _ q)) with e | e
      · subst e; have := b1 z q; unfold ltT at this; omega
      · exact e
/-- What counts of a stretch, as it is gathered. -/
def pck (a : Int) (l : List (Int × Int)) (e : Evt) (fr t : Int) (c : Int × Int) : Option Tm := match tim a l e c with | none => none | some y => if fr ≤ y.2.1 ∧ y.2.1 < t then some y else none
def lo9 (fr : Int) : Int := if fr - 900 < 1 then 1 else fr - 900
def hi9 (t : Int) : Int := if t + 900 < 157785119 then t + 900 else 157785119
def tms (a : Int) (l : List (Int × Int)) (e : Evt) (fr t : Int) : List Tm := (mom e (lo9 fr) (hi9 t)).filterMap (pck a l e fr t)
theorem tim_some {a : Int} {l : List (Int × Int)} {e : Evt} {c : Int × Int} {y : Tm} (h : tim a l e c = some y) : y.1 = c.1 ∧ y.2.1 ∈ Zo.twi a l c.2 ∧ y.2.2 = y.2.1 + e.len ∧ y.2.2 ≤ 157785119 := by
  unfold tim at h
  split at h
  · cases h
  · rename_i f q
    split at h
    · rename_i q2
      cases h
      exact ⟨rfl, List.mem_of_mem_head? q, rfl, q2⟩
    · cases h
theorem pck_some {a : Int} {l : List (Int × Int)} {e : Evt} {fr t : Int} {c : Int × Int} {y : Tm} : pck a l e fr t c = some y ↔ tim a l e c = some y ∧ fr ≤ y.2.1 ∧ y.2.1 < t := by
  unfold pck
  split
  · rename_i q; rw [q]; simp
  · rename_i z q
    rw [q]
    constructor
    · intro h
      split at h
      · rename_i g; cases h; exact ⟨rfl, g⟩
      · cases h
    · rintro ⟨h, g⟩
      cases h
      rw [if_pos g]
/-- The stretch may be asked for. -/
def okS (fr t : Int) : Prop := 1 ≤ fr ∧ fr ≤ 157785120 ∧ 1 ≤ t ∧ t ≤ 200000000
theorem lo9_time {fr t : Int} (h : okS fr t) : ist (lo9 fr) = true ∧ ist (hi9 t) = true := by
  unfold okS at h
  unfold lo9 hi9
  constructor
  · split <;> exact ist_yes (by omega) (by omega)
  · split <;> exact ist_yes (by omega) (by omega)
theorem tms_mem {a : Int} {l : List (Int × Int)} {e : Evt} {fr t : Int} {y : Tm} (h : evF e = 0) (hz : Zo.zf a l = 0) (ho : okS fr t) : y ∈ tms a l e fr t ↔ isTm a l e fr t y := by
  obtain ⟨i1, i2⟩ := lo9_time ho
  unfold tms isTm
  rw [List.mem_filterMap]
  constructor
  · rintro ⟨c, hc, hp⟩
    obtain ⟨m1, m2, m3, m4⟩ := (mom_mem h i1 i2).1 hc
    obtain ⟨p1, p2⟩ := pck_some.1 hp
    have e1 := (tim_some p1).1
    rw [e1]
    exact ⟨m1, ⟨c.2, m2, p1⟩, p2⟩
  · rintro ⟨h1, ⟨r, hr, ht⟩, h2, h3⟩
    refine ⟨(y.1, r), (mom_mem h i1 i2).2 ⟨h1, hr, ?_⟩, pck_some.2 ⟨ht, h2, h3⟩⟩
    have rt := of_decide_eq_true (rea_time h h1 hr)
    obtain ⟨_, t1, _, _⟩ := tim_some ht
    obtain ⟨t2, t3⟩ := Zo.twi_mem.1 t1
    have t4 := Zo.zah_in hz (Zo.beg_le y.2.1 l)
    unfold okS at ho
    simp only at t3 ⊢
    unfold lo9 hi9
    constructor
    · split <;> omega
    · split <;> omega
theorem tms_apart {a : Int} {l : List (Int × Int)} {e : Evt} {fr t : Int} (h : evF e = 0) (ho : okS fr t) : (tms a l e fr t).Pairwise (fun x y => x.1 ≠ y.1) := by
  obtain ⟨i1, i2⟩ := lo9_time ho
  unfold tms
  rw [List.pairwise_filterMap]
  refine (mom_apart h i1 i2).imp (fun {c d} q x hx y hy => ?_)
  rw [(tim_some (pck_some.1 hx).1).1, (tim_some (pck_some.1 hy).1).1]
  exact q
/-- Which is ahead, or none is. -/
def leT (x y : Tm) : Bool := decide (x.2.1 < y.2.1 ∨ (x.2.1 = y.2.1 ∧ x.1 ≤ y.1))
/-- The Times. -/
def tmL (a : Int) (l : List (Int × Int)) (e : Evt) (fr t : Int) : List Tm := (tms a l e fr t).mergeSort leT
theorem apart_perm {a b : List Tm} (h : a.Perm b) (hp : a.Pairwise (fun x y => x.1 ≠ y.1)) : b.Pairwise (fun x y => x.1 ≠ y.1) :=
  h.pairwise_iff (fun q => fun z => q z.symm) |>.1 hp
theorem le_lt {b : List Tm} (h1 : b.Pairwise (fun x y => leT x y = true)) (h2 : b.Pairwise (fun x y => x.1 ≠ y.1)) : b.Pairwise ltT := by
  refine (h1.and h2).imp (fun {x y} q => ?_)
  have := of_decide_eq_true q.1
  unfold ltT
  omega
theorem tmL_rise {a : Int} {l : List (Int × Int)} {e : Evt} {fr t : Int} (h : evF e = 0) (ho : okS fr t) : (tmL a l e fr t).Pairwise ltT := by
  refine le_lt ?_ (apart_perm (List.mergeSort_perm _ _).symm (tms_apart h ho))
  exact List.pairwise_mergeSort (le := leT) (fun x y z q1 q2 => by unfold leT at *; simp at *; omega) (fun x y => by unfold leT; simp; omega) _
theorem tmL_mem {a : Int} {l : List (Int × Int)} {e : Evt} {fr t : Int} {y : Tm} (h : evF e = 0) (hz : Zo.zf a l = 0) (ho : okS fr t) : y ∈ tmL a l e fr t ↔ isTm a l e fr t y := by
  unfold tmL
  rw [List.mem_mergeSort, tms_mem h hz ho]
/-- What is sorted is that list. -/
theorem tmL_of {a : Int} {l : List (Int × Int)} {e : Evt} {fr t : Int} (h : evF e = 0) (ho : okS fr t) {b : List Tm} (hp : (tms a l e fr t).Perm b) (hs : b.Pairwise (fun x y => leT x y = true)) : b = tmL a l e fr t := by
  refine tm_ext (le_lt hs (apart_perm hp (tms_apart h ho))) (tmL_rise h ho) (fun x => ?_)
  unfold tmL
  rw [List.mem_mergeSort, hp.mem_iff]
theorem tmL_len {a : Int} {l : List (Int × Int)} {e : Evt} {fr t : Int} : (tmL a l e fr t).length = (tms a l e fr t).length := by unfold tmL; exact List.length_mergeSort _
end Go.Proofs.YthdohcjingfpoaaGreatDoor
