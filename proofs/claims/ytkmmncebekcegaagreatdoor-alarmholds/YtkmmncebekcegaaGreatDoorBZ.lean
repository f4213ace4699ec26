/-
  What is proved here: plain facts on an event that is once.
  What is proved here: plain facts on Times in a zone without shifts.
  What is proved here: plain facts on the Times of an event, as chimelaw2.TimesHold asks them.
-/
import Derived.Test.YtkmmncebekcegaaGreatDoorBV
import Derived.Test.YtkmmncebekcegaaGreatDoorTiNext
namespace Go.Proofs.YtkmmncebekcegaaGreatDoor
open Go.RowKit Cal Txt

theorem ev1_fault : evF (ev1 [97] 700) = 0 := by decide
theorem ev1_list : evL [700] (ev1 [97] 700) 1 1000 = [700] := by
  refine rise_ext2 (evL_rise _ _ _ _) (by simp) (fun x => ?_)
  rw [evL_mem]
  simp
  omega
theorem one_told : lcF [700] (ev1 [97] 700) 1 1000 = 0 := by
  rw [lcF_len ev1_fault (by decide), ev1_list]; rfl
theorem one_list : lcL [700] (ev1 [97] 700) 1 1000 = [700] := by rw [lcL_yes one_told, ev1_list]
/-- The event that is once. -/
abbrev onc (e : Evt) : Evt := ⟨e.name, e.text, e.start, e.len, false, noRl, [], e.nots, e.chg, e.alm⟩
theorem once_yes {e : Evt} {fr t : Int} (h : lcF [e.start] (onc e) fr t = 0) (h1 : e.nots.contains e.start = false) (h2 : fr ≤ e.start) (h3 : e.start ≤ t) : lcL [e.start] (onc e) fr t = [e.start] := by
  rw [lcL_yes h]
  refine rise_ext2 (evL_rise _ _ _ _) (by simp) (fun x => ?_)
  rw [evL_mem]
  have h1' : e.start ∉ e.nots := by simpa using h1
  constructor
  · rintro ⟨q | q, _⟩
    · exact q
    · cases q
  · intro q
    have q' : x = e.start := by simpa using q
    subst q'
    exact ⟨Or.inl (by simp), h1', h2, h3⟩
theorem once_no {e : Evt} {fr t : Int} (h : lcF [e.start] (onc e) fr t = 0) (h1 : e.nots.contains e.start = true ∨ e.start < fr ∨ t < e.start) : lcL [e.start] (onc e) fr t = [] := by
  rw [lcL_yes h]
  refine rise_ext2 (evL_rise _ _ _ _) List.Pairwise.nil (fun x => ?_)
  rw [evL_mem]
  constructor
  · rintro ⟨q | q, k1, k2, k3⟩
    · have q' : x = e.start := by simpa using q
      subst q'
      rcases h1 with g | g | g
      · exact absurd (by simpa using g) k1
      · omega
      · omega
    · cases q
  · intro q; cases q
end Go.Proofs.YtkmmncebekcegaaGreatDoor
namespace Go.Proofs.YtkmmncebekcegaaGreatDoor
open Go.RowKit Cal Txt

def Dra (w w' : World) : Prop := ∃ q, w' = w.drewN q
theorem Dra.refl (w : World) : Dra w w := ⟨0, rfl⟩
theorem Dra.step {w w' : World} (h : Dra w w') (n : Nat) : Dra w (w'.drewN n) := by
  obtain ⟨q, rfl⟩ := h
  exact ⟨q + n, World.drewN_drewN _ _ _⟩
theorem Dra.cell {w w' : World} (h : Dra w w') (a : Addr) : w'.cell? a = w.cell? a := by
  obtain ⟨q, rfl⟩ := h
  rfl
theorem Dra.size {w w' : World} (h : Dra w w') : w'.heap.size = w.heap.size := by
  obtain ⟨q, rfl⟩ := h
  rfl
theorem Dra.below {w w' : World} (h : Dra w w') (n0 : Nat) : Below n0 w w' := by
  obtain ⟨q, rfl⟩ := h
  exact blw_drewN _ _ _
theorem zone_nil (w : World) (a : Int) : ZoneIn w (.agg #[.int .i64 a, .slice none 0 0]) a [] := ⟨_, rfl, nil_nth w⟩
theorem twi_nil {a t u : Int} : u ∈ Zo.twi a [] t ↔ ist u = true ∧ u = t - a := by
  rw [Zo.twi_mem]
  exact Iff.rfl
theorem wor_nil {a t f : Int} : wor a [] t = some f ↔ ist (t - a) = true ∧ f = t - a := by
  unfold wor
  constructor
  · intro h
    obtain ⟨h1, h2⟩ := twi_nil.1 (List.mem_of_mem_head? h)
    rw [← h2]; exact ⟨h1, rfl⟩
  · rintro ⟨h1, rfl⟩
    have hm := (twi_nil (a := a) (t := t) (u := t - a)).2 ⟨h1, rfl⟩
    rcases q : Zo.twi a [] t with _ | ⟨g, r⟩
    · rw [q] at hm; cases hm
    · have hg : g ∈ Zo.twi a [] t := by rw [q]; exact List.mem_cons_self
      rw [List.head?_cons, (twi_nil.1 hg).2]
theorem tim_nil {a : Int} {e : Evt} {c : Int × Int} {y : Tm} : tim a [] e c = some y ↔ ist (c.2 - a) = true ∧ c.2 - a + e.len ≤ 157785119 ∧ y = (c.1, c.2 - a, c.2 - a + e.len) := by
  unfold tim
  rcases q : wor a [] c.2 with _ | f
  · simp
    intro h1
    have := (wor_nil (a := a) (t := c.2) (f := c.2 - a)).2 ⟨h1, rfl⟩
    rw [q] at this; cases this
  · obtain ⟨h1, rfl⟩ := wor_nil.1 q
    simp only
    split
    · rename_i h2
      constructor
      · intro h; cases h; exact ⟨h1, h2, rfl⟩
      · rintro ⟨_, _, rfl⟩; rfl
    · rename_i h2
      constructor
      · intro h; cases h
      · rintro ⟨_, h3, _⟩; exact absurd h3 h2
/-- A Time so much earlier. -/
def shT (m : Int) (y : Tm) : Tm := (y.1, y.2.1 - m, y.2.2 - m)
theorem zf_nil {a : Int} (h : Zo.zf a [] = 0) : -900 ≤ a ∧ a ≤ 900 := (Zo.zf_open h).2.1
theorem ahead_list {a m : Int} {e : Evt} {fr t : Int} (h : evF e = 0) (ha : Zo.zf a [] = 0) (hb : Zo.zf (a + m) [] = 0) (m1 : -900 ≤ m) (m2 : m ≤ 900) (f1 : 2000 ≤ fr) (t1 : t ≤ 150000000) (ft : fr ≤ t) : tmL (a + m) [] e (fr - m) (t - m) = (tmL a [] e fr t).map (shT m) := by
  have o1 : okS fr t := by unfold okS; omega
  have o2 : okS (fr - m) (t - m) := by unfold okS; omega
  have l1 := (evF_lens h).2.2.2.2.2.1
  have l2 := (evF_lens h).2.2.2.2.2.2
  refine tm_ext (tmL_rise h o2) ?_ (fun y => ?_)
  · rw [List.pairwise_map]
    refine (tmL_rise (a := a) (l := []) h o1).imp (fun {x y} q => ?_)
    unfold ltT shT at *
    simp only
    omega
  · rw [tmL_mem h hb o2, List.mem_map]
    constructor
    · rintro ⟨p1, ⟨r, hr, ht⟩, p3, p4⟩
      obtain ⟨q1, q2, q3⟩ := tim_nil.1 ht
      simp only at q1 q2 q3
      obtain ⟨y1, y2, y3⟩ := y
      simp only [Prod.mk.injEq, true_and] at q3 p1 hr p3 p4
      refine ⟨(y1, r - a, r - a + e.len), (tmL_mem h ha o1).2 ⟨p1, ⟨r, hr, tim_nil.2 ⟨ist_yes ?_ ?_, ?_, rfl⟩⟩, ?_, ?_⟩, ?_⟩
      · show 1 ≤ r - a; omega
      · show r - a ≤ 157785119; omega
      · show r - a + e.len ≤ 157785119; omega
      · show fr ≤ r - a; omega
      · show r - a < t; omega
      · unfold shT; simp only [Prod.mk.injEq, true_and]; omega
    · rintro ⟨x, hx, rfl⟩
      obtain ⟨p1, ⟨r, hr, ht⟩, p3, p4⟩ := (tmL_mem h ha o1).1 hx
      obtain ⟨q1, q2, q3⟩ := tim_nil.1 ht
      simp only at q1 q2 q3
      obtain ⟨y1, y2, y3⟩ := x
      simp only [Prod.mk.injEq, true_and] at q3 p1 hr p3 p4
      refine ⟨p1, ⟨r, hr, tim_nil.2 ⟨ist_yes ?_ ?_, ?_, ?_⟩⟩, ?_, ?_⟩
      · show 1 ≤ r - (a + m); omega
      · show r - (a + m) ≤ 157785119; omega
      · show r - (a + m) + e.len ≤ 157785119; omega
      · unfold shT; simp only [Prod.mk.injEq, true_and]; omega
      · show fr - m ≤ y2 - m; omega
      · show y2 - m < t - m; omega
theorem evA_fault : evF (ev1 [97] 5000) = 0 := by decide
theorem evA_next : tnL 60 [] (ev1 [97] 5000) 100 = [(5000, 4940, 4940)] := by
  have o1 : okS (100 + 1) (100 + 500001) := by unfold okS; omega
  have hz : Zo.zf 60 [] = 0 := by decide
  have le : (ev1 [97] 5000).len = 0 := rfl
  have re : ∀ x, rea (ev1 [97] 5000) x = some x := fun x => rfl
  have ie : ∀ x, isE (ev1 [97] 5000) x ↔ x = 5000 := fun x => by
    unfold isE isS
    have r0 : (ev1 [97] 5000).rep = false := rfl
    have m0 : (ev1 [97] 5000).more = [] := rfl
    have n0 : (ev1 [97] 5000).nots = [] := rfl
    have s0 : (ev1 [97] 5000).start = 5000 := rfl
    rw [r0, m0, n0, s0]
    simp
  unfold tnL
  refine tm_ext (tmL_rise evA_fault o1) (by simp) (fun y => ?_)
  rw [tmL_mem evA_fault hz o1]
  obtain ⟨y1, y2, y3⟩ := y
  unfold isTm
  simp only [ie, re]
  constructor
  · rintro ⟨p1, ⟨r, hr, ht⟩, _, _⟩
    obtain ⟨_, _, q3⟩ := tim_nil.1 ht
    simp only [Prod.mk.injEq, true_and] at q3
    have hr' : y1 = r := by simpa using hr
    simp
    omega
  · intro q
    simp at q
    obtain ⟨rfl, rfl, rfl⟩ := q
    exact ⟨rfl, ⟨5000, rfl, tim_nil.2 ⟨by decide, by rw [le]; decide, by rw [le]; rfl⟩⟩, by omega, by omega⟩
theorem evA_told : tnF 60 [] (ev1 [97] 5000) 100 = 0 ∧ tnT 60 [] (ev1 [97] 5000) 100 = (5000, 4940, 4940) := by
  have h0 : tnF 60 [] (ev1 [97] 5000) 100 = 0 := by
    unfold tnF
    rw [if_neg (fun q => q (by decide)), if_neg (by decide), evA_next]
    rfl
  refine ⟨h0, ?_⟩
  unfold tnT
  rw [if_pos h0, evA_next]
  rfl
theorem tb_good {a : Int} {l : List (Int × Int)} {e : Evt} {fr t : Int} (h : tbF a l e fr t = 0) : (evF e = 0 ∧ Zo.zf a l = 0) ∧ strB fr t = true ∧ tbL a l e fr t = tmL a l e fr t ∧ (tmL a l e fr t).length ≤ 200 := by
  have h' := h
  unfold tbF at h
  split at h
  · rename_i q; exact absurd h q
  · rename_i q
    split at h
    · cases h
    · rename_i q2
      split at h
      · cases h
      · rename_i q3
        exact ⟨ez_good (Decidable.byContradiction q), by simpa using q2, if_pos h', by omega⟩
end Go.Proofs.YtkmmncebekcegaaGreatDoor
namespace Go.Proofs.YtkmmncebekcegaaGreatDoor
open Go.RowKit Cal Txt

/-- The event that is asked first. -/
abbrev evT : Evt := ⟨⟨#[97]⟩, ByteArray.empty, 66729179, 60, false, noRl, [], [], [(66729179, 66729300)], []⟩
theorem evT_fault : evF evT = 0 := by decide
theorem evT_list : tmL 100 [] evT 66729000 66730000 = [(66729179, 66729200, 66729260)] := by
  have o1 : okS 66729000 66730000 := by unfold okS; omega
  have hz : Zo.zf 100 [] = 0 := by decide
  have le : evT.len = 60 := rfl
  have re : rea evT 66729179 = some 66729300 := by decide
  have ie : ∀ x, isE evT x ↔ x = 66729179 := fun x => by
    unfold isE isS
    have r0 : evT.rep = false := rfl
    have m0 : evT.more = [] := rfl
    have n0 : evT.nots = [] := rfl
    have s0 : evT.start = 66729179 := rfl
    rw [r0, m0, n0, s0]
    simp
  refine tm_ext (tmL_rise evT_fault o1) (by simp) (fun y => ?_)
  rw [tmL_mem evT_fault hz o1]
  obtain ⟨y1, y2, y3⟩ := y
  unfold isTm
  simp only [ie]
  constructor
  · rintro ⟨rfl, ⟨r, hr, ht⟩, _, _⟩
    obtain ⟨_, _, q3⟩ := tim_nil.1 ht
    simp only [Prod.mk.injEq, true_and] at q3
    have hr' : (66729300 : Int) = r := by rw [re] at hr; simpa using hr
    simp
    omega
  · intro q
    simp at q
    obtain ⟨rfl, rfl, rfl⟩ := q
    exact ⟨rfl, ⟨66729300, re, tim_nil.2 ⟨by decide, by rw [le]; decide, by rw [le]; rfl⟩⟩, by omega, by omega⟩
theorem evT_told : tbF 100 [] evT 66729000 66730000 = 0 ∧ tbL 100 [] evT 66729000 66730000 = [(66729179, 66729200, 66729260)] := by
  have h0 : tbF 100 [] evT 66729000 66730000 = 0 := by
    unfold tbF
    rw [if_neg (fun q => q (by decide)), if_neg (by decide), evT_list]
    rfl
  refine ⟨h0, ?_⟩
  unfold tbL
  rw [if_pos h0, evT_list]
theorem tm_getD {l : List Tm} {k : Nat} (h : k < l.length) : l.getD k (0, 0, 0) = l[k] := by rw [List.getD_eq_getElem?_getD, List.getElem?_eq_getElem h]; rfl
theorem tm_mem {l : List Tm} {k : Nat} (h : k < l.length) : l.getD k (0, 0, 0) ∈ l := by rw [tm_getD h]; exact List.getElem_mem h
/-- A time that is one of the event's and is not called off: what Moved tells. -/
theorem isTm_moved {a : Int} {l : List (Int × Int)} {e : Evt} {fr t : Int} {y : Tm} (h : evF e = 0) (q : isTm a l e fr t y) : mvF e y.1 = 0 ∧ mvO e y.1 = false := by
  obtain ⟨h1, ⟨r, hr, _⟩, _, _⟩ := q
  have hb := (isEb_iff h (isE_time h h1)).2 h1
  have f0 : mvF e y.1 = 0 := by
    unfold mvF
    rw [if_neg (fun z => z h), if_neg]
    unfold isEb at hb
    simpa using hb
  refine ⟨f0, ?_⟩
  unfold mvO
  rw [if_pos f0]
  unfold rea at hr
  rcases q : chOf e.chg y.1 with _ | n
  · rfl
  · rw [q] at hr
    show (n == 0) = false
    rcases Int.decEq n 0 with z | z
    · simpa using z
    · rw [z] at hr; simp at hr
/-- In two parts: what it is in all. -/
theorem tm_two {a : Int} {l : List (Int × Int)} {e : Evt} {fr c t : Int} (h : evF e = 0) (hz : Zo.zf a l = 0) (o1 : okS fr t) (o2 : okS fr c) (o3 : okS c t) (f : fr ≤ c) (g : c ≤ t) : tmL a l e fr c ++ tmL a l e c t = tmL a l e fr t := by
  refine tm_ext ?_ (tmL_rise h o1) (fun y => ?_)
  · rw [List.pairwise_append]
    refine ⟨tmL_rise h o2, tmL_rise h o3, fun x hx y hy => ?_⟩
    have h1 := ((tmL_mem h hz o2).1 hx).2.2.2
    have h2 := ((tmL_mem h hz o3).1 hy).2.2.1
    unfold ltT
    omega
  · rw [List.mem_append, tmL_mem h hz o1, tmL_mem h hz o2, tmL_mem h hz o3]
    unfold isTm
    constructor
    · rintro (⟨h1, h2, h3, h4⟩ | ⟨h1, h2, h3, h4⟩)
      · exact ⟨h1, h2, by omega, by omega⟩
      · exact ⟨h1, h2, by omega, by omega⟩
    · rintro ⟨h1, h2, h3, h4⟩
      by_cases q : y.2.1 < c
      · exact Or.inl ⟨h1, h2, h3, q⟩
      · exact Or.inr ⟨h1, h2, by omega, h4⟩
/-- The next one is the next one. -/
theorem tm_next {a : Int} {l : List (Int × Int)} {e : Evt} {fr t : Int} (h : evF e = 0) (hz : Zo.zf a l = 0) (o1 : okS fr t) {k : Nat} (hk : k + 1 < (tmL a l e fr t).length) (x y : Tm) (hx : x = (tmL a l e fr t).getD k (0, 0, 0)) (hy : y = (tmL a l e fr t).getD (k + 1) (0, 0, 0)) (lt : x.2.1 < y.2.1) (le : y.2.1 - x.2.1 ≤ 500000) : tnF a l e x.2.1 = 0 ∧ tnT a l e x.2.1 = y := by
  have mx : x ∈ tmL a l e fr t := by rw [hx]; exact tm_mem (by omega)
  have my : y ∈ tmL a l e fr t := by rw [hy]; exact tm_mem hk
  have ix := (tmL_mem h hz o1).1 mx
  have iy := (tmL_mem h hz o1).1 my
  have tx := isTm_time ix
  have it : ist x.2.1 = true := ist_yes tx.1 tx.2
  have o2 := ist_ok it
  have yn : y ∈ tnL a l e x.2.1 := (tmL_mem h hz o2).2 ⟨iy.1, iy.2.1, by omega, by omega⟩
  have nz : ¬ (tnL a l e x.2.1).length = 0 := fun z => by rw [List.eq_nil_of_length_eq_zero z] at yn; cases yn
  have f0 : tnF a l e x.2.1 = 0 := by
    unfold tnF
    rw [if_neg (fun z => z (by unfold ezF; rw [if_neg (fun z => z h)]; exact hz)), if_neg (by rw [it]; decide), if_neg nz]
  refine ⟨f0, ?_⟩
  unfold tnT
  rw [if_pos f0]
  have ri := tmL_rise (a := a) (l := l) h o2
  have rl := tmL_rise (a := a) (l := l) h o1
  rw [show tmL a l e (x.2.1 + 1) (x.2.1 + 500001) = tnL a l e x.2.1 from rfl] at ri
  rcases hc : tnL a l e x.2.1 with _ | ⟨z, r⟩
  · rw [hc] at nz; exact absurd rfl nz
  show z = y
  rw [hc] at yn ri
  rcases List.mem_cons.1 yn with q | q
  · exact q.symm
  exfalso
  have lz := (List.pairwise_cons.1 ri).1 y q
  have iz := (tmL_mem h hz o2).1 (show z ∈ tmL a l e (x.2.1 + 1) (x.2.1 + 500001) by rw [show tmL a l e (x.2.1 + 1) (x.2.1 + 500001) = tnL a l e x.2.1 from rfl, hc]; exact List.mem_cons_self)
  have mz : z ∈ tmL a l e fr t := (tmL_mem h hz o1).2 ⟨iz.1, iz.2.1, by have := iz.2.2.1; have := ix.2.2.1; omega, by unfold ltT at lz; have := iy.2.2.2; omega⟩
  obtain ⟨j, hj, ej⟩ := List.getElem_of_mem mz
  rw [List.pairwise_iff_getElem] at rl
  rw [tm_getD (by omega)] at hx hy
  have z1 := iz.2.2.1
  rcases Nat.lt_trichotomy j k with d | d | d
  · have := rl j k hj (by omega) d
    rw [ej, ← hx] at this
    unfold ltT at this
    omega
  · subst d
    rw [ej] at hx
    rw [hx] at z1
    omega
  · rcases Nat.lt_trichotomy j (k + 1) with d2 | d2 | d2
    · omega
    · subst d2
      rw [ej] at hy
      rw [hy] at lz
      unfold ltT at lz
      omega
    · have := rl (k + 1) j (by omega) hj d2
      rw [ej, ← hy] at this
      unfold ltT at this lz
      omega
/-- What is known of the Times. -/
def KnT (a : Int) (l : List (Int × Int)) (e : Evt) (fr c t : Int) (L : List Tm) : Prop :=
  (∀ k, k < L.length → (mvF e (L.getD k (0, 0, 0)).1 = 0 ∧ mvO e (L.getD k (0, 0, 0)).1 = false) ∧ (L.getD k (0, 0, 0)).2.2 = (L.getD k (0, 0, 0)).2.1 + e.len ∧ fr ≤ (L.getD k (0, 0, 0)).2.1 ∧ (L.getD k (0, 0, 0)).2.1 < t) ∧
  (∀ k, k + 1 < L.length → (L.getD k (0, 0, 0)).2.1 ≤ (L.getD (k + 1) (0, 0, 0)).2.1) ∧
  (∀ k, k + 1 < L.length → (L.getD k (0, 0, 0)).2.1 < (L.getD (k + 1) (0, 0, 0)).2.1 → (L.getD (k + 1) (0, 0, 0)).2.1 - (L.getD k (0, 0, 0)).2.1 ≤ 500000 → tnF a l e (L.getD k (0, 0, 0)).2.1 = 0 ∧ tnT a l e (L.getD k (0, 0, 0)).2.1 = L.getD (k + 1) (0, 0, 0)) ∧
  (fr ≤ c → c ≤ t → tbF a l e fr c = 0 ∧ tbF a l e c t = 0 ∧ tbL a l e fr c ++ tbL a l e c t = L) ∧ L.length ≤ 200 ∧ (1 ≤ fr ∧ t ≤ 157785119) ∧ 0 ≤ e.len ∧ e.len ≤ 100000
theorem tb_yes {a : Int} {l : List (Int × Int)} {e : Evt} {fr t : Int} (h : evF e = 0) (hz : Zo.zf a l = 0) (hs : strB fr t = true) (hl : (tmL a l e fr t).length ≤ 200) : tbF a l e fr t = 0 ∧ tbL a l e fr t = tmL a l e fr t := by
  have h0 : tbF a l e fr t = 0 := by
    unfold tbF
    rw [if_neg (fun z => z (by unfold ezF; rw [if_neg (fun z => z h)]; exact hz)), if_neg (by rw [hs]; decide), if_neg (by omega)]
  exact ⟨h0, if_pos h0⟩
theorem strB_yes {fr t : Int} (h1 : 1 ≤ fr) (h2 : fr ≤ t) (h3 : t ≤ 157785119) (h4 : t - fr ≤ 1000000) : strB fr t = true := by
  unfold strB
  rw [ist_yes (by omega) (by omega), ist_yes (by omega) (by omega), decide_eq_true h2, decide_eq_true h4]
  rfl
theorem knt_of {a : Int} {l : List (Int × Int)} {e : Evt} {fr c t : Int} (h : tbF a l e fr t = 0) : KnT a l e fr c t (tbL a l e fr t) := by
  obtain ⟨⟨e0, z0⟩, s0, el, ll⟩ := tb_good h
  rw [el]
  have o1 := str_ok s0
  obtain ⟨⟨f1, t1⟩, ft, d1⟩ := strB_ends s0
  have g := (evF_lens e0).2.2.2.2.2
  refine ⟨fun k hk => ?_, fun k hk => ?_, fun k hk lt le => ?_, fun h1 h2 => ?_, ll, ⟨f1, t1⟩, g⟩
  · have iy := (tmL_mem e0 z0 o1).1 (tm_mem hk)
    obtain ⟨_, ⟨r, _, ht⟩, q1, q2⟩ := id iy
    exact ⟨isTm_moved e0 iy, (tim_some ht).2.2.1, q1, q2⟩
  · have := List.pairwise_iff_getElem.1 (tmL_rise (a := a) (l := l) e0 o1) k (k + 1) (by omega) hk (by omega)
    rw [tm_getD hk, tm_getD (by omega)]
    unfold ltT at this
    omega
  · exact tm_next e0 z0 o1 hk _ _ rfl rfl lt le
  · have s1 : strB fr c = true := strB_yes f1 h1 (by omega) (by omega)
    have s2 : strB c t = true := strB_yes (by omega) h2 t1 (by omega)
    have tw := tm_two (a := a) (l := l) e0 z0 o1 (str_ok s1) (str_ok s2) h1 h2
    have ln := congrArg List.length tw
    rw [List.length_append] at ln
    obtain ⟨p1, p2⟩ := tb_yes e0 z0 s1 (by omega)
    obtain ⟨q1, q2⟩ := tb_yes e0 z0 s2 (by omega)
    exact ⟨p1, q1, by rw [p2, q2]; exact tw⟩
end Go.Proofs.YtkmmncebekcegaaGreatDoor
