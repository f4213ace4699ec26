/-
  What is proved here: what times.Next answers (a contract over the translation).
  What is proved here: plain facts on an event that is once.
  What is proved here: plain facts on Times in a zone without shifts.
-/
import Derived.Test.YthdohcjingfpoaaGreatDoorDA
import Derived.Test.YthdohcjingfpoaaGreatDoorBV
import Derived.Test.YthdohcjingfpoaaGreatDoorEvSet
namespace Go.Proofs.YthdohcjingfpoaaGreatDoor
open Go.RowKit Cal Txt

/-- What Next tells. -/
def tnL (a : Int) (l : List (Int × Int)) (e : Evt) (x : Int) : List Tm := tmL a l e (x + 1) (x + 500001)
def tnF (a : Int) (l : List (Int × Int)) (e : Evt) (x : Int) : Int := if ¬ ezF a l e = 0 then ezF a l e else if ist x = false then 1 else if (tnL a l e x).length = 0 then 5 else 0
def tnT (a : Int) (l : List (Int × Int)) (e : Evt) (x : Int) : Tm := if tnF a l e x = 0 then (tnL a l e x).getD 0 (0, 0, 0) else (0, 0, 0)
theorem ist_ok {x : Int} (h : ist x = true) : okS (x + 1) (x + 500001) := by
  have := of_decide_eq_true h
  unfold okS
  omega
/-- A block of three zeros for a result, behind what a callee did. -/
def Zr3 (W : World) (b : Nat) : Prop := (W.cell? ⟨b, 0, none⟩ = some (.int .i64 0) ∧ W.cell? ⟨b, 1, none⟩ = some (.int .i64 0) ∧ W.cell? ⟨b, 2, none⟩ = some (.int .i64 0)) ∧ (W.frozen? ⟨b, 0, none⟩ = false ∧ W.frozen? ⟨b, 1, none⟩ = false ∧ W.frozen? ⟨b, 2, none⟩ = false)
theorem Zr3.on {W W' : World} {b : Nat} (h : Zr3 W b) (q : Below W.heap.size W W') : Zr3 W' b := by
  obtain ⟨c, f⟩ := bcell q
  have l := ecell_in h.1.1
  exact ⟨⟨(c _ _ l).trans h.1.1, (c _ _ l).trans h.1.2.1, (c _ _ l).trans h.1.2.2⟩, (f _ _ l).trans h.2.1, (f _ _ l).trans h.2.2.1, (f _ _ l).trans h.2.2.2⟩
end Go.Proofs.YthdohcjingfpoaaGreatDoor
namespace Go.Proofs.YthdohcjingfpoaaGreatDoor
open Go.RowKit Cal Txt

theorem ev1_fault : evF (ev1 [97] 700) = 0 := by decide
theorem ev1_list : evL [700] (ev1 [97] 700) 1 1000 = [700] := by
  refine rise_ext2 (evL_rise _ _ _ _) (by simp) (fun x => ?_)
  rw [evL_mem]
  simp
  omega
theorem one_told : lcF [700] (ev1 [97] 700) 1 1000 = 0 := by
  rw [lcF_len ev1_fault (by decide), ev1_list]; rfl
theorem one_list : lcL [700] (ev1 [97] 700) 1 1000 = [700] := by rw [lcL_yes one_told, ev1_list]
/-- The event that is once. -/
abbrev onc (e : Evt) : Evt := ⟨e.name, e.text, e.start, e.len, false, noRl, [], e.nots, e.chg, e.alm⟩
theorem once_yes {e : Evt} {fr t : Int} (h : lcF [e.start] (onc e) fr t = 0) (h1 : e.nots.contains e.start = false) (h2 : fr ≤ e.start) (h3 : e.start ≤ t) : lcL [e.start] (onc e) fr t = [e.start] := by
  rw [lcL_yes h]
  refine rise_ext2 (evL_rise _ _ _ _) (by simp) (fun x => ?_)
  rw [evL_mem]
  have h1' : e.start ∉ e.nots := by simpa using h1
  constructor
  · rintro ⟨q | q, _⟩
    · exact q
    · cases q
  · intro q
    have q' : x = e.start := by simpa using q
    subst q'
    exact ⟨Or.inl (by simp), h1', h2, h3⟩
theorem once_no {e : Evt} {fr t : Int} (h : lcF [e.start] (onc e) fr t = 0) (h1 : e.nots.contains e.start = true ∨ e.start < fr ∨ t < e.start) : lcL [e.start] (onc e) fr t = [] := by
  rw [lcL_yes h]
  refine rise_ext2 (evL_rise _ _ _ _) List.Pairwise.nil (fun x => ?_)
  rw [evL_mem]
  constructor
  · rintro ⟨q | q, k1, k2, k3⟩
    · have q' : x = e.start := by simpa using q
      subst q'
      rcases h1 with g | g | g
      · exact absurd (by simpa using g) k1
      · omega
      · omega
    · cases q
  · intro q; cases q
end Go.Proofs.YthdohcjingfpoaaGreatDoor
namespace Go.Proofs.YthdohcjingfpoaaGreatDoor
open Go.RowKit Cal Txt

def Dra (w w' : World) : Prop := ∃ q, w' = w.drewN q
theorem Dra.refl (w : World) : Dra w w := ⟨0, rfl⟩
theorem Dra.step {w w' : World} (h : Dra w w') (n : Nat) : Dra w (w'.drewN n) := by
  obtain ⟨q, rfl⟩ := h
  exact ⟨q + n, World.drewN_drewN _ _ _⟩
theorem Dra.cell {w w' : World} (h : Dra w w') (a : Addr) : w'.cell? a = w.cell? a := by
  obtain ⟨q, rfl⟩ := h
  rfl
theorem Dra.size {w w' : World} (h : Dra w w') : w'.heap.size = w.heap.size := by
  obtain ⟨q, rfl⟩ := h
  rfl
theorem Dra.below {w w' : World} (h : Dra w w') (n0 : Nat) : Below n0 w w' := by
  obtain ⟨q, rfl⟩ := h
  exact blw_drewN _ _ _
theorem zone_nil (w : World) (a : Int) : ZoneIn w (.agg #[.int .i64 a, .slice none 0 0]) a [] := ⟨_, rfl, nil_nth w⟩
theorem twi_nil {a t u : Int} : u ∈ Zo.twi a [] t ↔ ist u = true ∧ u = t - a := by
  rw [Zo.twi_mem]
  exact Iff.rfl
theorem wor_nil {a t f : Int} : wor a [] t = some f ↔ ist (t - a) = true ∧ f = t - a := by
  unfold wor
  constructor
  · intro h
    obtain ⟨h1, h2⟩ := twi_nil.1 (List.mem_of_mem_head? h)
    rw [← h2]; exact ⟨h1, rfl⟩
  · rintro ⟨h1, rfl⟩
    have hm := (twi_nil (a := a) (t := t) (u := t - a)).2 ⟨h1, rfl⟩
    rcases q : Zo.twi a [] t with _ | ⟨g, r⟩
    · rw [q] at hm; cases hm
    · have hg : g ∈ Zo.twi a [] t := by rw [q]; exact List.mem_cons_self
      rw [List.head?_cons, (twi_nil.1 hg).2]
theorem tim_nil {a : Int} {e : Evt} {c : Int × Int} {y : Tm} : tim a [] e c = some y ↔ ist (c.2 - a) = true ∧ c.2 - a + e.len ≤ 157785119 ∧ y = (c.1, c.2 - a, c.2 - a + e.len) := by
  unfold tim
  rcases q : wor a [] c.2 with _ | f
  · simp
    intro h1
    have := (wor_nil (a := a) (t := c.2) (f := c.2 - a)).2 ⟨h1, rfl⟩
    rw [q] at this; cases this
  · obtain ⟨h1, rfl⟩ := wor_nil.1 q
    simp only
    split
    · rename_i h2
      constructor
      · intro h; cases h; exact ⟨h1, h2, rfl⟩
      · rintro ⟨_, _, rfl⟩; rfl
    · rename_i h2
      constructor
      · intro h; cases h
      · rintro ⟨_, h3, _⟩; exact absurd h3 h2
/-- A Time so much earlier. -/
def shT (m : Int) (y : Tm) : Tm := (y.1, y.2.1 - m, y.2.2 - m)
theorem zf_nil {a : Int} (h : Zo.zf a [] = 0) : -900 ≤ a ∧ a ≤ 900 := (Zo.zf_open h).2.1
theorem ahead_list {a m : Int} {e : Evt} {fr t : Int} (h : evF e = 0) (ha : Zo.zf a [] = 0) (hb : Zo.zf (a + m) [] = 0) (m1 : -900 ≤ m) (m2 : m ≤ 900) (f1 : 2000 ≤ fr) (t1 : t ≤ 150000000) (ft : fr ≤ t) : tmL (a + m) [] e (fr - m) (t - m) = (tmL a [] e fr t).map (shT m) := by
  have o1 : okS fr t := by unfold okS; omega
  have o2 : okS (fr - m) (t - m) := by unfold okS; omega
  have l1 := (evF_lens h).2.2.2.2.2.1
  have l2 := (evF_lens h).2.2.2.2.2.2
  refine tm_ext (tmL_rise h o2) ?_ (fun y => ?_)
  · rw [List.pairwise_map]
    refine (tmL_rise (a := a) (l := []) h o1).imp (fun {x y} q => ?_)
    unfold ltT shT at *
    simp only
    omega
  · rw [tmL_mem h hb o2, List.mem_map]
    constructor
    · rintro ⟨p1, ⟨r, hr, ht⟩, p3, p4⟩
      obtain ⟨q1, q2, q3⟩ := tim_nil.1 ht
      simp only at q1 q2 q3
      obtain ⟨y1, y2, y3⟩ := y
      simp only [Prod.mk.injEq, true_and] at q3 p1 hr p3 p4
      refine ⟨(y1, r - a, r - a + e.len), (tmL_mem h ha o1).2 ⟨p1, ⟨r, hr, tim_nil.2 ⟨ist_yes ?_ ?_, ?_, rfl⟩⟩, ?_, ?_⟩, ?_⟩
      · show 1 ≤ r - a; omega
      · show r - a ≤ 157785119; omega
      · show r - a + e.len ≤ 157785119; omega
      · show fr ≤ r - a; omega
      · show r - a < t; omega
      · unfold shT; simp only [Prod.mk.injEq, true_and]; omega
    · rintro ⟨x, hx, rfl⟩
      obtain ⟨p1, ⟨r, hr, ht⟩, p3, p4⟩ := (tmL_mem h ha o1).1 hx
      obtain ⟨q1, q2, q3⟩ := tim_nil.1 ht
      simp only at q1 q2 q3
      obtain ⟨y1, y2, y3⟩ := x
      simp only [Prod.mk.injEq, true_and] at q3 p1 hr p3 p4
      refine ⟨p1, ⟨r, hr, tim_nil.2 ⟨ist_yes ?_ ?_, ?_, ?_⟩⟩, ?_, ?_⟩
      · show 1 ≤ r - (a + m); omega
      · show r - (a + m) ≤ 157785119; omega
      · show r - (a + m) + e.len ≤ 157785119; omega
      · unfold shT; simp only [Prod.mk.injEq, true_and]; omega
      · show fr - m ≤ y2 - m; omega
      · show y2 - m < t - m; omega
theorem evA_fault : evF (ev1 [97] 5000) = 0 := by decide
theorem evA_next : tnL 60 [] (ev1 [97] 5000) 100 = [(5000, 4940, 4940)] := by
  have o1 : okS (100 + 1) (100 + 500001) := by unfold okS; omega
  have hz : Zo.zf 60 [] = 0 := by decide
  have le : (ev1 [97] 5000).len = 0 := rfl
  have re : ∀ x, rea (ev1 [97] 5000) x = some x := fun x => rfl
  have ie : ∀ x, isE (ev1 [97] 5000) x ↔ x = 5000 := fun x => by
    unfold isE isS
    have r0 : (ev1 [97] 5000).rep = false := rfl
    have m0 : (ev1 [97] 5000).more = [] := rfl
    have n0 : (ev1 [97] 5000).nots = [] := rfl
    have s0 : (ev1 [97] 5000).start = 5000 := rfl
    rw [r0, m0, n0, s0]
    simp
  unfold tnL
  refine tm_ext (tmL_rise evA_fault o1) (by simp) (fun y => ?_)
  rw [tmL_mem evA_fault hz o1]
  obtain ⟨y1, y2, y3⟩ := y
  unfold isTm
  simp only [ie, re]
  constructor
  · rintro ⟨p1, ⟨r, hr, ht⟩, _, _⟩
    obtain ⟨_, _, q3⟩ := tim_nil.1 ht
    simp only [Prod.mk.injEq, true_and] at q3
    have hr' : y1 = r := by simpa using hr
    simp
    omega
  · intro q
    simp at q
    obtain ⟨rfl, rfl, rfl⟩ := q
    exact ⟨rfl, ⟨5000, rfl, tim_nil.2 ⟨by decide, by rw [le]; decide, by rw [le]; rfl⟩⟩, by omega, by omega⟩
theorem evA_told : tnF 60 [] (ev1 [97] 5000) 100 = 0 ∧ tnT 60 [] (ev1 [97] 5000) 100 = (5000, 4940, 4940) := by
  have h0 : tnF 60 [] (ev1 [97] 5000) 100 = 0 := by
    unfold tnF
    rw [if_neg (fun q => q (by decide)), if_neg (by decide), evA_next]
    rfl
  refine ⟨h0, ?_⟩
  unfold tnT
  rw [if_pos h0, evA_next]
  rfl
theorem tb_good {a : Int} {l : List (Int × Int)} {e : Evt} {fr t : Int} (h : tbF a l e fr t = 0) : (evF e = 0 ∧ Zo.zf a l = 0) ∧ strB fr t = true ∧ tbL a l e fr t = tmL a l e fr t ∧ (tmL a l e fr t).length ≤ 200 := by
  have h' := h
  unfold tbF at h
  split at h
  · rename_i q; exact absurd h q
  · rename_i q
    split at h
    · cases h
    · rename_i q2
      split at h
      · cases h
      · rename_i q3
        exact ⟨ez_good (Decidable.byContradiction q), by simpa using q2, if_pos h', by omega⟩
end Go.Proofs.YthdohcjingfpoaaGreatDoor
