/-
  What is proved here: plain facts that the walk of chimelaw2.EventTells asks.
-/
import Derived.Test.YtnnpnalfkcngmadGreatDoorRefLocP
import Derived.Test.YtnnpnalfkcngmadGreatDoorBX
namespace Go.Proofs.YtnnpnalfkcngmadGreatDoor
open Go.RowKit Cal Txt

/-- What the document says is wrong with a stretch of an event. -/
def dgF (e : Evt) (fr t : Int) : Int := if evF e = 0 then seF fr t else evF e
theorem dg_bad {e : Evt} {fr t : Int} (h : ¬ dgF e fr t = 0) : loF e fr t = dgF e fr t ∧ loL e fr t = [] := by
  have q : loF e fr t = dgF e fr t := by
    unfold dgF at h ⊢
    unfold loF
    by_cases g : evF e = 0
    · rw [if_pos g] at h
      rw [if_pos g, if_pos g]
      unfold seF at h ⊢
      rcases hs : strB fr t with _ | _
      · rw [lcF_str g hs]; rfl
      · rw [hs] at h; exact absurd rfl h
    · rw [if_neg g, if_neg g]
      exact lcF_ev g
  refine ⟨q, ?_⟩
  unfold loL
  refine lcL_no ?_
  have : lcF (if evF e = 0 then stL e fr t else []) e fr t = loF e fr t := rfl
  rw [this, q]; exact h
theorem dg_good {e : Evt} {fr t : Int} (h : dgF e fr t = 0) : evF e = 0 ∧ strB fr t = true := by
  unfold dgF at h
  by_cases g : evF e = 0
  · rw [if_pos g] at h
    refine ⟨g, ?_⟩
    unfold seF at h
    rcases hs : strB fr t with _ | _
    · rw [hs] at h; cases h
    · rfl
  · rw [if_neg g] at h; exact absurd h g
theorem dg_list {e : Evt} {fr t : Int} (h : dgF e fr t = 0) : (200 < (dcL e fr t).length → loF e fr t = 4 ∧ loL e fr t = []) ∧ (¬ 200 < (dcL e fr t).length → loF e fr t = 0 ∧ loL e fr t = dcL e fr t) := by
  obtain ⟨g, hs⟩ := dg_good h
  obtain ⟨i1, i2⟩ := strB_ist hs
  have es := dcL_same g i1 i2
  have ef : loF e fr t = if 200 < (dcL e fr t).length then 4 else 0 := by
    unfold loF; rw [if_pos g, lcF_len g hs, ← es]
  constructor
  · intro q
    rw [if_pos q] at ef
    refine ⟨ef, ?_⟩
    unfold loL
    refine lcL_no ?_
    have : lcF (if evF e = 0 then stL e fr t else []) e fr t = loF e fr t := rfl
    rw [this, ef]; decide
  · intro q
    rw [if_neg q] at ef
    exact ⟨ef, by rw [loL_good ef, es]⟩
/-- How far days have been gathered. -/
def DyI (l : List Int) (i : Nat) (d : List Int) : Prop := d.Pairwise (· < ·) ∧ ∀ x, x ∈ d ↔ x ∈ (l.take i).map dyo
theorem DyI.start (l : List Int) : DyI l 0 [] := ⟨by simp, fun x => by simp⟩
theorem DyI.len {l d : List Int} {i : Nat} (h : DyI l i d) (hb : ∀ x ∈ l, ist x = true) : d.length ≤ 109573 := by
  have : ∀ x ∈ d, 1 ≤ x ∧ x ≤ 109573 := fun x hx => by
    obtain ⟨y, hy, rfl⟩ := List.mem_map.1 ((h.2 x).1 hx)
    exact (dyo_ok (hb y (List.mem_of_mem_take hy))).2
  have := rise_len d 1 109573 h.1 this
  omega
theorem dyo_mono {x y : Int} (hx : ist x = true) (hy : ist y = true) (h : x ≤ y) : dyo x ≤ dyo y := by
  rw [(dyo_ok hx).1, (dyo_ok hy).1]; omega
theorem take_low {l : List Int} {i : Nat} (hr : l.Pairwise (· < ·)) (hi : i < l.length) {x : Int} (hx : x ∈ l.take i) : x < l.getD i 0 := by
  obtain ⟨j, hj, e⟩ := List.getElem_of_mem hx
  rw [List.length_take] at hj
  rw [List.getElem_take] at e
  rw [List.getD_eq_getElem?_getD, List.getElem?_eq_getElem hi]
  have := List.pairwise_iff_getElem.1 hr j i (by omega) hi (by omega)
  show x < l[i]
  omega
theorem DyI.next {l d : List Int} {i : Nat} (h : DyI l i d) (hr : l.Pairwise (· < ·)) (hb : ∀ x ∈ l, ist x = true) (hi : i < l.length) : (d.length = 0 ∨ ¬ d.getD (d.length - 1) 0 = dyo (l.getD i 0) → DyI l (i + 1) (d ++ [dyo (l.getD i 0)])) ∧ (¬ d.length = 0 → d.getD (d.length - 1) 0 = dyo (l.getD i 0) → DyI l (i + 1) d) := by
  obtain ⟨h1, h2⟩ := h
  have mem : ∀ x, x ∈ (l.take (i + 1)).map dyo ↔ x ∈ d ∨ x = dyo (l.getD i 0) := fun x => by
    rw [List.take_succ_eq_append_getElem hi, List.map_append, List.mem_append, h2 x, List.getD_eq_getElem?_getD, List.getElem?_eq_getElem hi]
    simp
  have li : l.getD i 0 ∈ l := by rw [List.getD_eq_getElem?_getD, List.getElem?_eq_getElem hi]; exact List.getElem_mem hi
  have up : ∀ x ∈ d, x ≤ dyo (l.getD i 0) := fun x hx => by
    obtain ⟨y, hy, rfl⟩ := List.mem_map.1 ((h2 x).1 hx)
    exact dyo_mono (hb y (List.mem_of_mem_take hy)) (hb _ li) (Int.le_of_lt (take_low hr hi hy))
  constructor
  · intro q
    refine ⟨List.pairwise_append.2 ⟨h1, by simp, fun x hx y hy => ?_⟩, fun x => by rw [mem x, List.mem_append, List.mem_singleton]⟩
    rw [List.mem_singleton.1 hy]
    have u := up x hx
    have dl := List.length_pos_of_mem hx
    have q2 := q.resolve_left (by omega)
    have lst : d.getD (d.length - 1) 0 ∈ d := by rw [List.getD_eq_getElem?_getD, List.getElem?_eq_getElem (by omega)]; exact List.getElem_mem (by omega)
    have u2 := up _ lst
    obtain ⟨j, hj, ej⟩ := List.getElem_of_mem hx
    rcases Nat.lt_or_ge j (d.length - 1) with z | z
    · have := List.pairwise_iff_getElem.1 h1 j (d.length - 1) hj (by omega) z
      rw [List.getD_eq_getElem?_getD, List.getElem?_eq_getElem (by omega)] at q2 u2
      simp only [Option.getD_some] at q2 u2
      omega
    · have ez : j = d.length - 1 := by omega
      subst ez
      rw [List.getD_eq_getElem?_getD, List.getElem?_eq_getElem hj] at q2
      simp only [Option.getD_some] at q2
      omega
  · intro q0 q
    refine ⟨h1, fun x => ?_⟩
    rw [mem x]
    constructor
    · exact Or.inl
    · rintro (z | z)
      · exact z
      · rw [z, ← q, List.getD_eq_getElem?_getD, List.getElem?_eq_getElem (by omega)]; exact List.getElem_mem (by omega)
theorem loL_times {e : Evt} {fr t x : Int} (hx : x ∈ loL e fr t) : ist x = true := by
  by_cases h : loF e fr t = 0
  · obtain ⟨_, _, h1, h2⟩ := (loL_mem h).1 hx
    have := (strB_ends (loF_good h).2.1).1
    exact ist_yes (by omega) (by omega)
  · have : loL e fr t = [] := lcL_no h
    rw [this] at hx; simp at hx
theorem loL_up (e : Evt) (fr t : Int) : (loL e fr t).Pairwise (· < ·) ∧ (loL e fr t).length ≤ 200 := by
  by_cases h : loF e fr t = 0
  · exact ⟨loL_rise h, loL_len h⟩
  · have : loL e fr t = [] := lcL_no h
    rw [this]; simp
theorem DyI.done {e : Evt} {fr t : Int} {d : List Int} (h : DyI (loL e fr t) (loL e fr t).length d) : d = doL e fr t := by
  obtain ⟨h1, h2⟩ := h
  rw [List.take_length] at h2
  by_cases q : loF e fr t = 0
  · have ed : doL e fr t = Lib.compact ((loL e fr t).map dyo) := if_pos q
    have hs : ((loL e fr t).map dyo).Pairwise (· ≤ ·) := by
      rw [List.pairwise_map]
      refine (loL_up e fr t).1.imp_of_mem (fun {x y} hx hy z => ?_)
      exact dyo_mono (loL_times hx) (loL_times hy) (Int.le_of_lt z)
    obtain ⟨c1, c2⟩ := cmp_list _ hs
    rw [ed]
    exact rise_ext2 h1 c1 (fun x => by rw [h2 x, c2 x])
  · have ed : doL e fr t = [] := if_neg q
    have el : loL e fr t = [] := lcL_no q
    rw [ed]
    refine List.eq_nil_iff_forall_not_mem.2 (fun x hx => ?_)
    have := (h2 x).1 hx
    rw [el] at this; simp at this
/-- Whatever is of Start is a time. -/
theorem stL_sub {e : Evt} {fr t x : Int} (h : evF e = 0) (hx : x ∈ stL e fr t) : isS e x := by
  unfold stL at hx
  unfold isS
  split
  · rename_i hr
    rw [if_pos hr] at hx
    obtain ⟨n, hn, rfl⟩ := List.mem_map.1 hx
    have hs := (evF_lens h).2.2.1
    have h3 := (evF_lens h).2.1
    unfold ruF at h3
    rw [if_pos hr] at h3
    unfold dyL at hn
    rw [btL_eq (sf_ev h3 hs)] at hn
    exact ⟨n, (List.mem_filter.1 hn).1, rfl⟩
  · rename_i hr
    rw [if_neg hr] at hx
    simpa using hx
theorem isS_time {e : Evt} {x : Int} (h : evF e = 0) (q : isS e x) : ist x = true := by
  have hs := (evF_lens h).2.2.1
  unfold isS at q
  split at q
  · rename_i hr
    obtain ⟨n, hn, rfl⟩ := q
    have h3 := (evF_lens h).2.1
    unfold ruF at h3
    rw [if_pos hr] at h3
    obtain ⟨d1, d2, _⟩ := DAYS_in (sf_ev h3 hs) hn
    have e1 := (dyo_ok hs).1
    have := of_decide_eq_true hs
    unfold tmd
    rw [e1] at d1 ⊢
    exact ist_yes (by omega) (by omega)
  · rw [q]; exact hs
/-- Is it one, as both tell. -/
theorem one_same {e : Evt} {x : Int} (h : evF e = 0) : ((dcL e x x).length == 1) = !((evL (stL e x x) e x x).length == 0) := by
  have at1 : ∀ {l : List Int}, l.Pairwise (· < ·) → (∀ y ∈ l, y = x) → l.length ≤ 1 := fun {l} hl hy => by
    have := rise_len l x x hl (fun y q => by have := hy y q; omega)
    omega
  have m1 : ∀ y ∈ dcL e x x, y = x := fun y hy => by have := ((dcL_mem h).1 hy).2; omega
  have a1 := at1 (dcL_rise e x x) m1
  rcases hx : ist x with _ | _
  · have n1 : dcL e x x = [] := List.eq_nil_iff_forall_not_mem.2 (fun y hy => by
      obtain ⟨⟨a, _⟩, _⟩ := (dcL_mem h).1 hy
      have : ist y = true := a.elim (isS_time h) (fun q => List.all_eq_true.1 (evF_lens h).2.2.2.1.1 y q)
      rw [m1 y hy, hx] at this; cases this)
    have n2 : evL (stL e x x) e x x = [] := List.eq_nil_iff_forall_not_mem.2 (fun y hy => by
      obtain ⟨a, _, b, c⟩ := evL_mem.1 hy
      have : ist y = true := a.elim (fun q => isS_time h (stL_sub h q)) (fun q => List.all_eq_true.1 (evF_lens h).2.2.2.1.1 y q)
      rw [show y = x by omega, hx] at this; cases this)
    rw [n1, n2]; rfl
  · rw [← dcL_same h hx hx]
    generalize (dcL e x x).length = n at a1
    rcases (by omega : n = 0 ∨ n = 1) with q | q <;> subst q <;> rfl
theorem mv_bad {e : Evt} {x : Int} (h : ¬ evF e = 0) : mvF e x = evF e ∧ mvT e x = 0 ∧ mvO e x = false := by
  have q : mvF e x = evF e := if_pos h
  exact ⟨q, if_neg (by rw [q]; exact h), if_neg (by rw [q]; exact h)⟩
theorem mv_none {e : Evt} {x : Int} (h : evF e = 0) (hi : ((dcL e x x).length == 1) = false) : mvF e x = 5 ∧ mvT e x = 0 ∧ mvO e x = false := by
  rw [one_same h] at hi
  have q : mvF e x = 5 := by unfold mvF; rw [if_neg (fun z => z h), if_pos (by simpa using hi)]
  exact ⟨q, if_neg (by rw [q]; decide), if_neg (by rw [q]; decide)⟩
theorem mv_some {e : Evt} {x : Int} (h : evF e = 0) (hi : ((dcL e x x).length == 1) = true) : mvF e x = 0 ∧ mvT e x = (chOf e.chg x).getD x ∧ mvO e x = !(onB e.chg x) := by
  rw [one_same h] at hi
  have q : mvF e x = 0 := by unfold mvF; rw [if_neg (fun z => z h), if_neg (by simpa using hi)]
  refine ⟨q, if_pos q, ?_⟩
  unfold mvO onB
  rw [if_pos q]
  cases chOf e.chg x with
  | none => rfl
  | some n => show (n == 0) = !(!(n == 0)); rw [Bool.not_not]
end Go.Proofs.YtnnpnalfkcngmadGreatDoor
