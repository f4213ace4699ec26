/-
  What is proved here: plain facts on the times of an event: in two parts they are what they are in all; those of a first event; what event.Local answers of any event (a contract over the translation).
  What is proved here: words on an event in a block of a call's own, and what stores into it leave.
  What is proved here: the walk of chimelaw2.EventHolds: it returns true for every event and three numbers, and turns nothing that was there; the table of months is asked as a premise.
-/
import Derived.Test.YtdiijpjfkgnjkadGreatDoorEvRep
import Derived.Test.YtdiijpjfkgnjkadGreatDoorEvLoc
import Derived.Deep.MidRow
import Derived.Test.YtdiijpjfkgnjkadGreatDoorBR
import Derived.Deep.Cut
import Derived.Deep.CutRange
namespace Go.Proofs.YtdiijpjfkgnjkadGreatDoor
open Go.RowKit Cal Txt

/-- The times of Start, for a stretch. -/
def stL (e : Evt) (fr t : Int) : List Int := if e.rep = true then (dyL e fr t).map (tmd e.start) else [e.start]
theorem stL_len {e : Evt} {fr t : Int} (h : evF e = 0) : (stL e fr t).length ≤ 200000 := by
  unfold stL
  split
  · rename_i hr
    rw [List.length_map]
    have h2 := (evF_lens h).2.1
    unfold ruF at h2
    rw [if_pos hr] at h2
    exact btL_len (sf_ev h2 (evF_lens h).2.2.1) _ _
  · simp
theorem ofStart_any (e : Evt) (s : Evs) (fr t : Int) (w : World) (hv : EvB w e s) (hT : Tab w) (h : evF e = 0) :
    Calls Tryz.prog 54 #[.agg (ecells e s), .int .i64 fr, .int .i64 t] w (OfA w.heap.size w (stL e fr t)) := by
  unfold stL
  rcases hr : e.rep with _ | _
  · rw [if_neg (by decide)]
    exact ofStart_once e s fr t w hr
  · rw [if_pos rfl]
    have h2 := (evF_lens h).2.1
    unfold ruF at h2
    rw [if_pos hr] at h2
    exact ofStart_rep e s fr t w hv hT hr h2 (evF_lens h).2.2.1
/-- The fault of Local; its times. -/
def loF (e : Evt) (fr t : Int) : Int := lcF (if evF e = 0 then stL e fr t else []) e fr t
def loL (e : Evt) (fr t : Int) : List Int := lcL (if evF e = 0 then stL e fr t else []) e fr t
theorem local_any (e : Evt) (s : Evs) (fr t : Int) (w : World) (hv : EvB w e s) (hT : Tab w) :
    Calls Tryz.prog 12 #[.agg (ecells e s), .int .i64 fr, .int .i64 t] w (TolA w (loL e fr t) (loF e fr t)) := by
  refine local_of e s fr t _ w hv ?_ (fun h _ W q => ?_)
  · split
    · rename_i h; exact stL_len h
    · simp
  · rw [if_pos h]
    exact ofStart_any e s fr t W (hv.on q) (hT.below q) h
/-- Is a number a time of Start? -/
def isS (e : Evt) (x : Int) : Prop := if e.rep = true then ∃ n, n ∈ DAYS e.rule (dyo e.start) ∧ x = tmd e.start n else x = e.start
theorem stL_mem {e : Evt} {fr t x : Int} (h : evF e = 0) (hf : ist fr = true) (ht : ist t = true) (h1 : fr ≤ x) (h2 : x ≤ t) : x ∈ stL e fr t ↔ isS e x := by
  unfold stL isS
  split
  · rename_i hr
    have hs := (evF_lens h).2.2.1
    have h3 := (evF_lens h).2.1
    unfold ruF at h3
    rw [if_pos hr] at h3
    have s0 := sf_ev h3 hs
    unfold dyL
    rw [btL_eq s0, List.mem_map]
    constructor
    · rintro ⟨n, hn, rfl⟩
      exact ⟨n, (List.mem_filter.1 hn).1, rfl⟩
    · rintro ⟨n, hn, rfl⟩
      refine ⟨n, List.mem_filter.2 ⟨hn, ?_⟩, rfl⟩
      have e1 := (dyo_ok hs).1
      have e2 := (dyo_ok hf).1
      have e3 := (dyo_ok ht).1
      unfold tmd at h1 h2
      rw [e1] at h1 h2
      rw [e2, e3]
      simp only [decide_eq_true_eq]
      omega
  · simp
theorem loF_good {e : Evt} {fr t : Int} (h : loF e fr t = 0) : evF e = 0 ∧ strB fr t = true ∧ (evL (stL e fr t) e fr t).length ≤ 200 := by
  unfold loF at h
  by_cases g : evF e = 0
  · rw [if_pos g] at h
    rcases hs : strB fr t with _ | _
    · rw [lcF_str g hs] at h; cases h
    · rw [lcF_len g hs] at h
      split at h
      · cases h
      · exact ⟨g, rfl, by omega⟩
  · rw [lcF_ev g] at h; exact absurd h g
theorem loL_good {e : Evt} {fr t : Int} (h : loF e fr t = 0) : loL e fr t = evL (stL e fr t) e fr t := by
  have g := (loF_good h).1
  unfold loF at h
  unfold loL
  rw [lcL_yes h, if_pos g]
theorem loF_of {e : Evt} {fr t : Int} (h : evF e = 0) (hs : strB fr t = true) (hl : (evL (stL e fr t) e fr t).length ≤ 200) : loF e fr t = 0 := by
  unfold loF
  rw [if_pos h, lcF_len h hs, if_neg (by omega)]
theorem strB_ist {fr t : Int} (h : strB fr t = true) : ist fr = true ∧ ist t = true := by
  unfold strB at h
  simp only [Bool.and_eq_true] at h
  exact ⟨h.1.1.1, h.1.1.2⟩
theorem loL_mem {e : Evt} {fr t x : Int} (h : loF e fr t = 0) : x ∈ loL e fr t ↔ (isS e x ∨ x ∈ e.more) ∧ x ∉ e.nots ∧ fr ≤ x ∧ x ≤ t := by
  obtain ⟨g, hs, _⟩ := loF_good h
  obtain ⟨i1, i2⟩ := strB_ist hs
  rw [loL_good h, evL_mem]
  constructor
  · rintro ⟨a, b, c, d⟩
    exact ⟨a.imp (fun q => (stL_mem g i1 i2 c d).1 q) id, b, c, d⟩
  · rintro ⟨a, b, c, d⟩
    exact ⟨a.imp (fun q => (stL_mem g i1 i2 c d).2 q) id, b, c, d⟩
theorem loL_rise {e : Evt} {fr t : Int} (h : loF e fr t = 0) : (loL e fr t).Pairwise (· < ·) := by
  rw [loL_good h]; exact evL_rise _ _ _ _
theorem loL_len {e : Evt} {fr t : Int} (h : loF e fr t = 0) : (loL e fr t).length ≤ 200 := by
  rw [loL_good h]; exact (loF_good h).2.2
/-- In two parts. -/
theorem two_parts {e : Evt} {fr c t : Int} (h : loF e fr t = 0) (h1 : fr ≤ c) (h2 : c < t) : loF e fr c = 0 ∧ loF e (c + 1) t = 0 ∧ loL e fr c ++ loL e (c + 1) t = loL e fr t := by
  obtain ⟨g, hs, hl⟩ := loF_good h
  obtain ⟨i1, i2⟩ := strB_ist hs
  have e1 := strB_ends hs
  have a1 := of_decide_eq_true i1
  have a2 := of_decide_eq_true i2
  have ic : ist c = true := decide_eq_true (by omega)
  have id : ist (c + 1) = true := decide_eq_true (by omega)
  have s1 : strB fr c = true := by unfold strB; rw [i1, ic, decide_eq_true h1, decide_eq_true (by omega)]; rfl
  have s2 : strB (c + 1) t = true := by unfold strB; rw [id, i2, decide_eq_true (by omega), decide_eq_true (by omega)]; rfl
  have m1 : ∀ x, x ∈ evL (stL e fr c) e fr c ↔ (isS e x ∨ x ∈ e.more) ∧ x ∉ e.nots ∧ fr ≤ x ∧ x ≤ c := fun x => by
    rw [evL_mem]
    constructor
    · rintro ⟨a, b, q, d⟩
      exact ⟨a.imp (fun z => (stL_mem g i1 ic q d).1 z) _root_.id, b, q, d⟩
    · rintro ⟨a, b, q, d⟩
      exact ⟨a.imp (fun z => (stL_mem g i1 ic q d).2 z) _root_.id, b, q, d⟩
  have m2 : ∀ x, x ∈ evL (stL e (c + 1) t) e (c + 1) t ↔ (isS e x ∨ x ∈ e.more) ∧ x ∉ e.nots ∧ c + 1 ≤ x ∧ x ≤ t := fun x => by
    rw [evL_mem]
    constructor
    · rintro ⟨a, b, q, d⟩
      exact ⟨a.imp (fun z => (stL_mem g id i2 q d).1 z) _root_.id, b, q, d⟩
    · rintro ⟨a, b, q, d⟩
      exact ⟨a.imp (fun z => (stL_mem g id i2 q d).2 z) _root_.id, b, q, d⟩
  have m3 := fun x => loL_mem (x := x) h
  have eq : evL (stL e fr c) e fr c ++ evL (stL e (c + 1) t) e (c + 1) t = loL e fr t := by
    refine rise_ext2 (List.pairwise_append.2 ⟨evL_rise _ _ _ _, evL_rise _ _ _ _, fun x hx y hy => ?_⟩) (loL_rise h) (fun x => ?_)
    · have q1 := (m1 x).1 hx
      have q2 := (m2 y).1 hy
      omega
    · rw [List.mem_append, m1, m2, m3]
      constructor
      · rintro (⟨a, b, q, d⟩ | ⟨a, b, q, d⟩)
        · exact ⟨a, b, q, by omega⟩
        · exact ⟨a, b, by omega, d⟩
      · rintro ⟨a, b, q, d⟩
        by_cases z : x ≤ c
        · exact Or.inl ⟨a, b, q, z⟩
        · exact Or.inr ⟨a, b, by omega, d⟩
  have hlen := congrArg List.length eq
  rw [List.length_append] at hlen
  have hl3 := loL_len h
  have f1 := loF_of g s1 (by omega)
  have f2 := loF_of g s2 (by omega)
  exact ⟨f1, f2, by rw [loL_good f1, loL_good f2]; exact eq⟩
/-- The event that is asked first. -/
abbrev evH : Evt := ⟨⟨#[97]⟩, ⟨#[]⟩, 66729179, 0, true, ⟨1, 2, 0, 0, [], [], [], []⟩, [66729200], [66729179], [], []⟩
theorem evH_fault : evF evH = 0 := by decide
theorem evH_days (x : Int) : x ∈ DAYS evH.rule 46340 ↔ ∃ i : Nat, x = 46340 + (i : Int) * 2 ∧ x ≤ 109573 := by
  have h0 : sf (rsc 2 0) 46340 = 0 := by decide
  obtain ⟨L, h1, h2, h3, h4⟩ := dly_all (e := 2) (c := 0) (s := 46340) (by decide) (by decide) (by decide)
  have hb := btL_all h0
  rw [h1] at hb
  unfold cutC at hb
  rw [if_pos rfl] at hb
  have hx := fun x (q : x ∈ DAYS (rsc 2 0) 46340) => DAYS_in h0 q
  show x ∈ DAYS (rsc 2 0) 46340 ↔ _
  rw [← hb] at hx ⊢
  constructor
  · intro q
    obtain ⟨i, hi, e⟩ := List.getElem_of_mem q
    have := h2 i hi
    rw [List.getD_eq_getElem?_getD, List.getElem?_eq_getElem hi] at this
    exact ⟨i, by rw [← e]; exact this, (hx x q).2.1⟩
  · rintro ⟨i, e, q⟩
    have hi : i < L.length := by omega
    have := h2 i hi
    rw [List.getD_eq_getElem?_getD, List.getElem?_eq_getElem hi] at this
    rw [e, ← this]
    exact List.getElem_mem hi
theorem evH_list : evL (stL evH 66729000 66733000) evH 66729000 66733000 = [66729200, 66732059] := by
  refine rise_ext2 (evL_rise _ _ _ _) (by decide) (fun x => ?_)
  rw [evL_mem]
  constructor
  · rintro ⟨a, b, c, d⟩
    have b' : x ≠ 66729179 := by simpa using b
    rcases a with a | a
    · have a' := (stL_mem evH_fault (by decide) (by decide) c d).1 a
      obtain ⟨n, hn, rfl⟩ : ∃ n, n ∈ DAYS evH.rule (dyo evH.start) ∧ x = tmd evH.start n := a'
      have e1 : dyo evH.start = 46340 := by decide
      rw [e1] at hn
      obtain ⟨i, hi, _⟩ := (evH_days n).1 hn
      have e2 : tmd evH.start n = 66729179 + (n - 46340) * 1440 := by unfold tmd; rw [e1]
      rw [e2] at b' c d ⊢
      have : i = 1 := by omega
      subst this
      rw [hi]
      decide
    · have a' : x = 66729200 := by simpa using a
      rw [a']; simp
  · intro q
    have q' : x = 66729200 ∨ x = 66732059 := by simpa using q
    rcases q' with rfl | rfl
    · exact ⟨Or.inr (by simp), by simp, by decide, by decide⟩
    · refine ⟨Or.inl ((stL_mem evH_fault (by decide) (by decide) (by decide) (by decide)).2 ?_), by simp, by decide, by decide⟩
      show ∃ n, n ∈ DAYS evH.rule (dyo evH.start) ∧ (66732059 : Int) = tmd evH.start n
      have e1 : dyo evH.start = 46340 := by decide
      refine ⟨46342, by rw [e1]; exact (evH_days 46342).2 ⟨1, by decide, by decide⟩, ?_⟩
      unfold tmd
      rw [e1]
      decide
theorem evH_told : loF evH 66729000 66733000 = 0 := loF_of evH_fault (by decide) (by rw [evH_list]; decide)
theorem evH_told2 : loL evH 66729000 66733000 = [66729200, 66732059] := by rw [loL_good evH_told, evH_list]
end Go.Proofs.YtdiijpjfkgnjkadGreatDoor
namespace Go.Proofs.YtdiijpjfkgnjkadGreatDoor
open Go.RowKit Cal Txt

/-- An event in a block that may be written. -/
def EOwn (W : World) (b : Nat) (e : Evt) (s : Evs) : Prop := EBox W b e s ∧ ∀ o, W.frozen? ⟨b, o, none⟩ = false
theorem EOwn.new (W : World) (e : Evt) (s : Evs) (t : TypeId) : EOwn (W.alloc (.cells (ecells e s) t)) W.heap.size e s := ⟨EBox.new W e s t, fun o => by simp⟩
theorem EOwn.on {W W' : World} {b : Nat} {e : Evt} {s : Evs} (h : EOwn W b e s) (q : Below W.heap.size W W') : EOwn W' b e s :=
  ⟨h.1.on q, fun o => (q.frozen (p := ⟨b, o, none⟩) h.1.lt).trans (h.2 o)⟩
abbrev noRl : Rl := ⟨0, 0, 0, 0, [], [], [], []⟩
theorem EOwn.rep {W : World} {b : Nat} {e : Evt} {s : Evs} (h : EOwn W b e s) (r : Bool) : EOwn (W.setCell ⟨b, 4, none⟩ (.bool r)) b { e with rep := r } s := by
  obtain ⟨⟨⟨a0, a1, a2, a3, a4⟩, ⟨b0, b1, b2, b3, b4, b5, b6, b7⟩, c0, c1, c2, c3⟩, hf⟩ := h
  have O : ∀ (k : Nat) (v : Value), ¬ 4 = k → W.cell? ⟨b, k, none⟩ = some v → (W.setCell ⟨b, 4, none⟩ (.bool r)).cell? ⟨b, k, none⟩ = some v := fun k v q z => (World.cell?_setCell_other _ _ _ _ (fun e => q (by simpa using congrArg Addr.off e))).trans z
  exact ⟨⟨⟨O _ _ (by decide) a0, O _ _ (by decide) a1, O _ _ (by decide) a2, O _ _ (by decide) a3, World.cell?_setCell_same _ _ _ a4⟩, ⟨O _ _ (by decide) b0, O _ _ (by decide) b1, O _ _ (by decide) b2, O _ _ (by decide) b3, O _ _ (by decide) b4, O _ _ (by decide) b5, O _ _ (by decide) b6, O _ _ (by decide) b7⟩, O _ _ (by decide) c0, O _ _ (by decide) c1, O _ _ (by decide) c2, O _ _ (by decide) c3⟩, fun o => by rw [World.frozen?_setCell]; exact hf o⟩
theorem EOwn.more {W : World} {b : Nat} {e : Evt} {s : Evs} (h : EOwn W b e s) (l : List Int) (u : Value) : EOwn (W.setCell ⟨b, 13, none⟩ u) b { e with more := l } { s with vo := u } := by
  obtain ⟨⟨⟨a0, a1, a2, a3, a4⟩, ⟨b0, b1, b2, b3, b4, b5, b6, b7⟩, c0, c1, c2, c3⟩, hf⟩ := h
  have O : ∀ (k : Nat) (v : Value), ¬ 13 = k → W.cell? ⟨b, k, none⟩ = some v → (W.setCell ⟨b, 13, none⟩ u).cell? ⟨b, k, none⟩ = some v := fun k v q z => (World.cell?_setCell_other _ _ _ _ (fun e => q (by simpa using congrArg Addr.off e))).trans z
  exact ⟨⟨⟨O _ _ (by decide) a0, O _ _ (by decide) a1, O _ _ (by decide) a2, O _ _ (by decide) a3, O _ _ (by decide) a4⟩, ⟨O _ _ (by decide) b0, O _ _ (by decide) b1, O _ _ (by decide) b2, O _ _ (by decide) b3, O _ _ (by decide) b4, O _ _ (by decide) b5, O _ _ (by decide) b6, O _ _ (by decide) b7⟩, World.cell?_setCell_same _ _ _ c0, O _ _ (by decide) c1, O _ _ (by decide) c2, O _ _ (by decide) c3⟩, fun o => by rw [World.frozen?_setCell]; exact hf o⟩
abbrev noVs : List Value := [.int .i64 0, .int .i64 0, .int .i64 0, .int .i64 0, .slice none 0 0, .slice none 0 0, .slice none 0 0, .slice none 0 0]
theorem EOwn.there8 {W : World} {b : Nat} {e : Evt} {s : Evs} (h : EOwn W b e s) : W.there b 5 8 := fun j hj => by
  obtain ⟨⟨_, ⟨b0, b1, b2, b3, b4, b5, b6, b7⟩, _⟩, hf⟩ := h
  refine ⟨?_, hf _⟩
  rcases (by omega : j = 0 ∨ j = 1 ∨ j = 2 ∨ j = 3 ∨ j = 4 ∨ j = 5 ∨ j = 6 ∨ j = 7) with rfl | rfl | rfl | rfl | rfl | rfl | rfl | rfl
  · rw [b0]; rfl
  · rw [b1]; rfl
  · rw [b2]; rfl
  · rw [b3]; rfl
  · rw [b4]; rfl
  · rw [b5]; rfl
  · rw [b6]; rfl
  · rw [b7]; rfl
theorem EOwn.norule {W : World} {b : Nat} {e : Evt} {s : Evs} (h : EOwn W b e s) : EOwn (W.setCells b 5 noVs) b { e with rule := noRl } { s with vm := .slice none 0 0, vd := .slice none 0 0, vw := .slice none 0 0, vp := .slice none 0 0 } := by
  have I := World.cell?_setCells_in b noVs 5 W (fun j hj => (h.there8 j (by simpa using hj)).1)
  obtain ⟨⟨⟨a0, a1, a2, a3, a4⟩, _, c0, c1, c2, c3⟩, hf⟩ := h
  have O : ∀ (k : Nat) (v : Value), (k < 5 ∨ 13 ≤ k) → W.cell? ⟨b, k, none⟩ = some v → (W.setCells b 5 noVs).cell? ⟨b, k, none⟩ = some v := fun k v q z => (World.cell?_setCells_out b noVs 5 W ⟨b, k, none⟩ (fun _ _ => q)).trans z
  exact ⟨⟨⟨O _ _ (by decide) a0, O _ _ (by decide) a1, O _ _ (by decide) a2, O _ _ (by decide) a3, O _ _ (by decide) a4⟩, ⟨I 0 (by decide), I 1 (by decide), I 2 (by decide), I 3 (by decide), I 4 (by decide), I 5 (by decide), I 6 (by decide), I 7 (by decide)⟩, O _ _ (by decide) c0, O _ _ (by decide) c1, O _ _ (by decide) c2, O _ _ (by decide) c3⟩, fun o => by rw [World.frozen?_setCells]; exact hf o⟩
/-- The event that is asked first. -/
abbrev ev1 (n : List UInt8) (st : Int) : Evt := ⟨⟨n.toArray⟩, ByteArray.empty, st, 0, false, noRl, [], [], [], []⟩
abbrev nil8 : Evs := ⟨.slice none 0 0, .slice none 0 0, .slice none 0 0, .slice none 0 0, .slice none 0 0, .slice none 0 0, .slice none 0 0, .slice none 0 0⟩
theorem nil_int (w : World) : Ints w (.slice none 0 0) [] := ⟨none, 0, rfl, Or.inl rfl⟩
theorem nil_nth (w : World) : Nths w (.slice none 0 0) [] := ⟨none, 0, rfl, Or.inl rfl⟩
theorem nil_alm (w : World) : Alms w (.slice none 0 0) [] := ⟨none, 0, rfl, Or.inl rfl⟩
theorem EBox.range {W : World} {b : Nat} {e : Evt} {s : Evs} (h : EBox W b e s) : W.rangeAt b 0 (ecells e s).toList := fun j v hv => by
  obtain ⟨⟨a0, a1, a2, a3, a4⟩, ⟨b0, b1, b2, b3, b4, b5, b6, b7⟩, c0, c1, c2, c3⟩ := h
  have hj : j < 17 := (List.getElem?_eq_some_iff.1 hv).1
  rcases (by omega : j = 0 ∨ j = 1 ∨ j = 2 ∨ j = 3 ∨ j = 4 ∨ j = 5 ∨ j = 6 ∨ j = 7 ∨ j = 8 ∨ j = 9 ∨ j = 10 ∨ j = 11 ∨ j = 12 ∨ j = 13 ∨ j = 14 ∨ j = 15 ∨ j = 16) with rfl | rfl | rfl | rfl | rfl | rfl | rfl | rfl | rfl | rfl | rfl | rfl | rfl | rfl | rfl | rfl | rfl
  · exact a0.trans hv
  · exact a1.trans hv
  · exact a2.trans hv
  · exact a3.trans hv
  · exact a4.trans hv
  · exact b0.trans hv
  · exact b1.trans hv
  · exact b2.trans hv
  · exact b3.trans hv
  · exact b4.trans hv
  · exact b5.trans hv
  · exact b6.trans hv
  · exact b7.trans hv
  · exact c0.trans hv
  · exact c1.trans hv
  · exact c2.trans hv
  · exact c3.trans hv
theorem EBox.of_range {W : World} {b : Nat} {e : Evt} {s : Evs} (h : W.rangeAt b 0 (ecells e s).toList) : EBox W b e s :=
  ⟨⟨h 0 _ rfl, h 1 _ rfl, h 2 _ rfl, h 3 _ rfl, h 4 _ rfl⟩, ⟨h 5 _ rfl, h 6 _ rfl, h 7 _ rfl, h 8 _ rfl, h 9 _ rfl, h 10 _ rfl, h 11 _ rfl, h 12 _ rfl⟩, h 13 _ rfl, h 14 _ rfl, h 15 _ rfl, h 16 _ rfl⟩
theorem there_new (W : World) (C : Array Value) (t : TypeId) : (W.alloc (.cells C t)).there W.heap.size 0 C.size := fun j hj => by
  have e := heap_alloc_new W (.cells C t)
  refine ⟨?_, ?_⟩
  · simp only [World.cell?, e]
    simp [hj]
  · simp only [World.frozen?, e]
    simp
/-- An event is loaded. -/
theorem ev_load {ops : Array Oper} {rest : List Oper} {op : Oper} {a : Act} {w : World} {Q : Exit → Act → World → Prop} (hgd : op.guard = none) (x : Operand) (ho : op.op = .load 29 x)
    (b : Nat) (e : Evt) (s : Evs) (hx : a.eval x = .pointer (some ⟨b, 0, none⟩)) (hE : EBox w b e s) (h : wpList Tryz.prog ops Q rest (a.put op.dst (.agg (ecells e s))) w) : wpList Tryz.prog ops Q (op :: rest) a w :=
  wpList_load_mid hgd 29 x ho b 0 hx (ecells e s).toList _ hE.range Tryz.underlying29 rfl (by kernel_rfl) h
/-- An event is laid in a new block. -/
theorem ev_store {ops : Array Oper} {rest : List Oper} {op : Oper} {a : Act} {W : World} {Q : Exit → Act → World → Prop} (hgd : op.guard = none) (x y : Operand) (ho : op.op = .store 29 x y)
    (b : Nat) (C : Array Value) (t : TypeId) (hC : C.size = 17) (hb : W.heap.size = b) (e : Evt) (s : Evs) (hs : (ecells e s).all (·.oneCell') = true) (hx : a.eval x = .pointer (some ⟨b, 0, none⟩)) (hy : a.eval y = .agg (ecells e s))
    (h : ∀ W', EOwn W' b e s → Below W.heap.size W W' → wpList Tryz.prog ops Q rest (a.put op.dst undef) W') : wpList Tryz.prog ops Q (op :: rest) a (W.alloc (.cells C t)) := by
  subst hb
  have ht : (W.alloc (.cells C t)).there W.heap.size 0 (ecells e s).size := by have := there_new W C t; rw [hC] at this; exact this
  refine wpList_store_mid hgd 29 x y ho W.heap.size 0 (ecells e s) hx hy ht (by kernel_rfl) hs (h _ ⟨EBox.of_range (World.rangeAt_setCells_same _ _ _ _ ht), fun o => ?_⟩ ?_)
  · rw [World.frozen?_setCells]
    simp only [World.frozen?, heap_alloc_new W (.cells C t)]
    simp
  · exact ((Below.refl _ _).alloc (Nat.le_refl _) _).trans (blw_cells (Nat.le_refl _) _ _ _)
end Go.Proofs.YtdiijpjfkgnjkadGreatDoor
namespace Go.Proofs.YtdiijpjfkgnjkadGreatDoor
open Go.RowKit Cal Txt

theorem ecell_new (A : World) (v : Value) (t : TypeId) : (A.alloc (.cells #[v] t)).cell? ⟨A.heap.size, 0, none⟩ = some v := by simp
theorem one_int {w : World} {b : Nat} {x : Int} (h : w.cell? ⟨b, 0, none⟩ = some (.int .i64 x)) : Ints w (.slice (some ⟨b, 0, none⟩) 1 1) [x] :=
  ⟨_, _, rfl, Or.inr ⟨b, 0, rfl, fun i hi => by
    obtain rfl : i = 0 := by simp at hi; omega
    exact h⟩⟩
/-- The same world, but for the count of draws. -/
def Dr (w w' : World) : Prop := ∃ q, w' = w.drewN q
theorem Dr.refl (w : World) : Dr w w := ⟨0, rfl⟩
theorem Dr.step {w w' : World} (h : Dr w w') (n : Nat) : Dr w (w'.drewN n) := by
  obtain ⟨q, rfl⟩ := h
  exact ⟨q + n, World.drewN_drewN _ _ _⟩
theorem Dr.cell {w w' : World} (h : Dr w w') (a : Addr) : w'.cell? a = w.cell? a := by
  obtain ⟨q, rfl⟩ := h
  rfl
theorem Dr.size {w w' : World} (h : Dr w w') : w'.heap.size = w.heap.size := by
  obtain ⟨q, rfl⟩ := h
  rfl
theorem Dr.below {w w' : World} (h : Dr w w') (n0 : Nat) : Below n0 w w' := by
  obtain ⟨q, rfl⟩ := h
  exact blw_drewN _ _ _
/-- What is known of the times. -/
def Kno (e : Evt) (fr c t : Int) (L : List Int) : Prop :=
  (∀ k, k < L.length → e.nots.contains (L.getD k 0) = false ∧ fr ≤ L.getD k 0 ∧ L.getD k 0 ≤ t) ∧ (∀ k, k + 1 < L.length → L.getD k 0 < L.getD (k + 1) 0) ∧
  (∀ m, m ∈ e.more → e.nots.contains m = false → L.contains m = false → ¬ (fr ≤ m ∧ m ≤ t)) ∧ (fr ≤ c → c < t → loF e fr c = 0 ∧ loF e (c + 1) t = 0 ∧ loL e fr c ++ loL e (c + 1) t = L) ∧ L.length ≤ 200 ∧ (1 ≤ fr ∧ t ≤ 157785119) ∧ e.more.length ≤ 100 ∧ e.nots.length ≤ 100
theorem kno_of {e : Evt} {fr c t : Int} (h : loF e fr t = 0) : Kno e fr c t (loL e fr t) := by
  have g := (evF_lens (loF_good h).1)
  refine ⟨fun k hk => ?_, fun k hk => ?_, fun m h1 h2 h3 h4 => ?_, fun h1 h2 => two_parts h h1 h2, loL_len h, (strB_ends (loF_good h).2.1).1, g.1.2.2, g.1.2.1⟩
  · have hm : (loL e fr t).getD k 0 ∈ loL e fr t := by rw [List.getD_eq_getElem?_getD, List.getElem?_eq_getElem hk]; exact List.getElem_mem hk
    obtain ⟨_, b, c, d⟩ := (loL_mem h).1 hm
    exact ⟨by simpa using b, c, d⟩
  · have := List.pairwise_iff_getElem.1 (loL_rise h) k (k + 1) (by omega) hk (by omega)
    rw [List.getD_eq_getElem?_getD, List.getElem?_eq_getElem (by omega), List.getD_eq_getElem?_getD, List.getElem?_eq_getElem hk]
    exact this
  · have : m ∈ loL e fr t := (loL_mem h).2 ⟨Or.inr h1, by simpa using h2, h4.1, h4.2⟩
    have q : m ∉ loL e fr t := by simpa using h3
    exact q this
set_option maxRecDepth 100000 in
set_option maxHeartbeats 8000000 in
theorem eholds (e : Evt) (s : Evs) (fr c t : Int) (w : World) (hv : EvB w e s) (hT : Tab w) :
    Calls Tryz.prog 4 #[.agg (ecells e s), .int .i64 fr, .int .i64 c, .int .i64 t] w fun x w' => x = .returned (.bool true) ∧ Below w.heap.size w w' := by
  have B0 := (Below.refl w.heap.size w).alloc (Nat.le_refl _) (.cells (ecells e s) 29)
  have B1 := B0.alloc B0.size (.cells #[.int .i64 66729200] 3)
  have B2 := B1.alloc B1.size (.cells #[.int .i64 66729179] 3)
  have R0 := EBox.new w e s 29
  have q0 : Below (w.alloc (.cells (ecells e s) 29)).heap.size (w.alloc (.cells (ecells e s) 29)) (((w.alloc (.cells (ecells e s) 29)).alloc (.cells #[.int .i64 66729200] 3)).alloc (.cells #[.int .i64 66729179] 3)) := ((Below.refl _ _).alloc (Nat.le_refl _) _).alloc (by simp) _
  have R2 := R0.on q0
  have SZ : Hid ((((w.alloc (.cells (ecells e s) 29)).alloc (.cells #[.int .i64 66729200] 3)).alloc (.cells #[.int .i64 66729179] 3)).heap.size = w.heap.size + 1 + 1 + 1) := Lib.hid (by simp)
  have C1 : Hid ((((w.alloc (.cells (ecells e s) 29)).alloc (.cells #[.int .i64 66729200] 3)).alloc (.cells #[.int .i64 66729179] 3)).cell? ⟨w.heap.size + 1, 0, none⟩ = some (.int .i64 66729200)) := Lib.hid (by
    have k := ecell_new (w.alloc (.cells (ecells e s) 29)) (.int .i64 66729200) 3
    rw [World.size_alloc] at k
    exact (((Below.refl _ _).alloc (Nat.le_refl _) (.cells #[.int .i64 66729179] 3)).cell (p := ⟨w.heap.size + 1, 0, none⟩) (by show w.heap.size + 1 < _; rw [World.size_alloc, World.size_alloc]; omega)).trans k)
  have C2 : Hid ((((w.alloc (.cells (ecells e s) 29)).alloc (.cells #[.int .i64 66729200] 3)).alloc (.cells #[.int .i64 66729179] 3)).cell? ⟨w.heap.size + 1 + 1, 0, none⟩ = some (.int .i64 66729179)) := Lib.hid (by
    have k := ecell_new ((w.alloc (.cells (ecells e s) 29)).alloc (.cells #[.int .i64 66729200] 3)) (.int .i64 66729179) 3
    rw [World.size_alloc, World.size_alloc] at k
    exact k)
  have OC : Hid ((ecells evH (⟨.slice none 0 0, .slice none 0 0, .slice none 0 0, .slice none 0 0, .slice (some ⟨w.heap.size + 1, 0, none⟩) 1 1, .slice (some ⟨w.heap.size + 1 + 1, 0, none⟩) 1 1, .slice none 0 0, .slice none 0 0⟩ : Evs)).all (fun x => x.oneCell') = true) := Lib.hid (by simp [Value.oneCell'])
  have HB2 := Lib.hid B2
  have HR2 := Lib.hid R2
  have HV := Lib.hid (fun W (q : Below w.heap.size w W) => hv.on q)
  have HT := Lib.hid (fun W (q : Below w.heap.size w W) => hT.below q)
  clear hv hT B0 B1 B2 R0 R2 q0
  go_enter Tryz.func4, Tryz.ntmps4
  go_upto_region 1 with fail
  go_wp2_with (first | (refine ev_store ?h1 (.tmp 9) (.tmp 27) ?h2 (w.heap.size + 1 + 1 + 1) _ _ ?h3 SZ.out evH (⟨.slice none 0 0, .slice none 0 0, .slice none 0 0, .slice none 0 0, .slice (some ⟨w.heap.size + 1, 0, none⟩) 1 1, .slice (some ⟨w.heap.size + 1 + 1, 0, none⟩) 1 1, .slice none 0 0, .slice none 0 0⟩ : Evs) ?h4 ?h5 ?h6 ?h7; (case h1 => rfl); (case h2 => rfl); (case h3 => rfl); (case h4 => exact OC.out); (case h5 => rfl); (case h6 => rfl); intro W1 r1 b1; have Q1 := Lib.hid (And.intro r1 b1); clear r1 b1) | (refine ev_load ?i1 (.tmp 9) ?i2 (w.heap.size + 1 + 1 + 1) evH (⟨.slice none 0 0, .slice none 0 0, .slice none 0 0, .slice none 0 0, .slice (some ⟨w.heap.size + 1, 0, none⟩) 1 1, .slice (some ⟨w.heap.size + 1 + 1, 0, none⟩) 1 1, .slice none 0 0, .slice none 0 0⟩ : Evs) ?i3 Q1.out.1.1 ?i4; (case i1 => rfl); (case i2 => rfl); (case i3 => rfl)))
  have BB1 := Lib.hid (HB2.out.trans (Q1.out.2.mono HB2.out.size))
  have R1 := Lib.hid (HR2.out.on Q1.out.2)
  have hvH : EvB W1 evH (⟨.slice none 0 0, .slice none 0 0, .slice none 0 0, .slice none 0 0, .slice (some ⟨w.heap.size + 1, 0, none⟩) 1 1, .slice (some ⟨w.heap.size + 1 + 1, 0, none⟩) 1 1, .slice none 0 0, .slice none 0 0⟩ : Evs) := ⟨nil_int _, nil_int _, nil_nth _, nil_int _, one_int ((Q1.out.2.cell (p := ⟨w.heap.size + 1, 0, none⟩) (by show w.heap.size + 1 < _; rw [SZ.out]; omega)).trans C1.out), one_int ((Q1.out.2.cell (p := ⟨w.heap.size + 1 + 1, 0, none⟩) (by show w.heap.size + 1 + 1 < _; rw [SZ.out]; omega)).trans C2.out), nil_nth _, nil_alm _⟩
  have K := local_any evH _ 66729000 66733000 W1 hvH (HT.out _ BB1.out)
  rw [evH_told, evH_told2] at K
  clear hvH HB2 HR2 Q1 SZ C1 C2 OC
  refine K.mono ?_
  clear K
  rintro x w2 ⟨v, rfl, hw2, hb⟩
  obtain ⟨a, cap, rfl, _, _, hc⟩ := hw2.open
  clear hw2
  rcases hc with hc | ⟨b, off, rfl, _, hh⟩
  · cases hc
  have k0 : w2.cell? ⟨b, off, none⟩ = some (.int .i64 66729200) := (hh 0 (by decide)).1
  have k1 : w2.cell? ⟨b, off + 1, none⟩ = some (.int .i64 66732059) := (hh 1 (by decide)).1
  have BB2 := Lib.hid (BB1.out.trans (hb.mono BB1.out.size))
  have R2 := Lib.hid (R1.out.on hb)
  clear hb BB1 R1 hh
  rw [efault_0]
  go_wp2_with (refine ev_load ?j1 (.tmp 4) ?j2 w.heap.size e s ?j3 R2.out ?j4; (case j1 => rfl); (case j2 => rfl); (case j3 => rfl))
  clear k0 k1
  have K2 := Lib.hid (local_any e s fr t w2 (HV.out _ BB2.out) (HT.out _ BB2.out))
  have KN := Lib.hid (fun h => kno_of (e := e) (fr := fr) (c := c) (t := t) h)
  generalize loF e fr t = F at K2 KN
  generalize loL e fr t = L at K2 KN
  refine K2.out.mono ?_
  rintro x w3 ⟨v, rfl, hr, hb⟩
  have BB3 := Lib.hid (BB2.out.trans (hb.mono BB2.out.size))
  have R3 := Lib.hid (R2.out.on hb)
  clear hb BB2 R2 K2
  by_cases hz : F = 0
  case neg =>
    rw [efault_ne hz]
    clear hz KN hr
    go_wp2
    go_ret
    exact ⟨rfl, BB3.out⟩
  have KK := Lib.hid (KN.out hz)
  rw [hz, efault_0]
  have LI := Lib.hid hr.ints
  obtain ⟨la, lc, rfl, _, _, hc⟩ := hr.open
  have HC := Lib.hid hc
  have ll := KK.out.2.2.2.2.1
  obtain ⟨ff, tt⟩ := KK.out.2.2.2.2.2.1
  have ml := KK.out.2.2.2.2.2.2.1
  have nl := KK.out.2.2.2.2.2.2.2
  have VN := Lib.hid ((HV.out _ BB3.out).2.2.2.2.2.1)
  have VO := Lib.hid ((HV.out _ BB3.out).2.2.2.2.1)
  clear hz KN hr hc
  go_upto_region 8 with fail
  go_cut [14] from 24 to 190 (fun s14 wx => s14 = .int .i64 0 ∧ wx = w3)
  case first =>
    go_wp2
    go_meet
    case rel => exact ⟨rfl, rfl⟩
  case rest =>
  obtain ⟨rfl, hw⟩ := hcut
  replace hw := hw.symm
  subst hw
  go_wp2_with fail
  go_loopw [14] (fun iv wr => ∃ k : Nat, k ≤ L.length ∧ iv = .int .i64 k ∧ Dr w3 wr) (fun iv _ => L.length - (intOf iv).toNat)
  case atStart => exact ⟨0, Nat.zero_le _, rfl, Dr.refl _⟩
  case round =>
    obtain ⟨k, hk, rfl, hD⟩ := hrel
    have HD := Lib.hid hD
    clear hD
    have c14 : wr.cell? ⟨w.heap.size, 14, none⟩ = some s.vn := (HD.out.cell _).trans R3.out.2.2.2.1
    have VNr := Lib.hid (fun W (q : Below wr.heap.size wr W) => (VN.out.on (HD.out.below _)).on q)
    by_cases hlt : k < L.length
    · rcases HC.out with hc | ⟨b', off', rfl, _, hh⟩
      · rw [hc] at hlt; simp at hlt
      have ck : wr.cell? ⟨b', off' + k, none⟩ = some (.int .i64 (L.getD k 0)) := (HD.out.cell _).trans (hh k hlt).1
      obtain ⟨f1, f2, f3⟩ := KK.out.1 k hlt
      have rl : w.heap.size < wr.heap.size := by rw [HD.out.size]; exact R3.out.lt
      rcases Nat.eq_zero_or_pos k with h0 | h0
      · subst h0
        rw [Nat.add_zero] at ck
        generalize L.getD 0 0 = x at ck f1 f2 f3
        have HF1 := Lib.hid f1
        have d1 : decide (x < fr) = false := decide_eq_false (by omega)
        have d2 : decide (x > t) = false := decide_eq_false (by omega)
        have d3 : decide (t < x) = false := decide_eq_false (by omega)
        have d4 : decide ((0 : Int) > 0) = false := by decide
        clear hh f1 f2 f3
        go_wp2_with fail
        go_quiet ((go_at_call 18; exact Calls.quiet_of_same (Zo.refIn_any s.vn e.nots x _ (VNr.out _ (blw_drewN _ _ _)) (by omega))))
        rw [HF1.out]
        go_wp2_with fail
        go_quiet (fail)
        go_wp2
        go_roundw
        case rel => exact ⟨1, by omega, by go_num, by first | exact (HD.out.step _).step _ | exact HD.out.step _⟩
        case measure => simp [intOf]; omega
      · obtain ⟨j, rfl⟩ : ∃ j, k = j + 1 := ⟨k - 1, by omega⟩
        have cj : wr.cell? ⟨b', off' + j, none⟩ = some (.int .i64 (L.getD j 0)) := (HD.out.cell _).trans (hh j (by omega)).1
        have hjk := KK.out.2.1 j hlt
        generalize L.getD (j + 1) 0 = x at ck f1 f2 f3 hjk
        generalize L.getD j 0 = y at cj hjk
        have i1 : (0 : Int) ≤ ((j + 1 : Nat) : Int) - 1 := by omega
        have i2 : ((j + 1 : Nat) : Int) - 1 < (L.length : Int) := by omega
        have i3 : (((j + 1 : Nat) : Int) - 1).toNat = j := by omega
        have HF1 := Lib.hid f1
        have d1 : decide (x < fr) = false := decide_eq_false (by omega)
        have d2 : decide (x > t) = false := decide_eq_false (by omega)
        have d3 : decide (t < x) = false := decide_eq_false (by omega)
        have d4 : decide (((j + 1 : Nat) : Int) > 0) = true := decide_eq_true (by omega)
        have d5 : decide ((0 : Int) < ((j + 1 : Nat) : Int)) = true := decide_eq_true (by omega)
        have d6 : decide (y ≥ x) = false := decide_eq_false (by omega)
        have d7 : decide (x ≤ y) = false := decide_eq_false (by omega)
        clear hh f1 f2 f3 hjk
        go_wp2_with fail
        go_quiet ((go_at_call 18; exact Calls.quiet_of_same (Zo.refIn_any s.vn e.nots x _ (VNr.out _ (blw_drewN _ _ _)) (by omega))))
        rw [HF1.out]
        go_wp2_with fail
        go_quiet (fail)
        go_wp2
        go_roundw
        case rel => exact ⟨j + 1 + 1, by omega, by go_num, by first | exact (HD.out.step _).step _ | exact HD.out.step _⟩
        case measure => simp [intOf]; omega
    · obtain ⟨w4, rfl⟩ : ∃ w4, w4 = wr := ⟨_, rfl⟩
      have BB4 := Lib.hid (BB3.out.trans (HD.out.below _))
      have R4 := Lib.hid (R3.out.on (HD.out.below _))
      have LI4 := Lib.hid (LI.out.on (HD.out.below _))
      have VN4 := Lib.hid (VN.out.on (HD.out.below _))
      have VO4 := VO.out.on (HD.out.below _)
      obtain ⟨ao, co, eo, ho⟩ := VO4
      have c13 : w4.cell? ⟨w.heap.size, 13, none⟩ = some (.slice ao e.more.length co) := by rw [← eo]; exact R4.out.2.2.1
      have HOc := Lib.hid ho
      have HC13 := Lib.hid c13
      have rl := R4.out.lt
      clear c14 VNr HD HC BB3 R3 LI VN VO ho eo
      go_wp2_with fail
      clear c13 rl
      go_loopw [16] (fun iv wr => ∃ k : Nat, k ≤ e.more.length ∧ iv = .int .i64 k ∧ Dr w4 wr) (fun iv _ => e.more.length - (intOf iv).toNat)
      case atStart => exact ⟨0, Nat.zero_le _, rfl, Dr.refl _⟩
      case round =>
        obtain ⟨k, hk, rfl, hD⟩ := hrel
        have HD := Lib.hid hD
        clear hD
        have c13 : wr.cell? ⟨w.heap.size, 13, none⟩ = some (.slice ao e.more.length co) := (HD.out.cell _).trans HC13.out
        have rl : w.heap.size < wr.heap.size := by rw [HD.out.size]; exact R4.out.lt
        by_cases hlt2 : k < e.more.length
        · rcases HOc.out with hc | ⟨b2, off2, rfl, hh⟩
          · rw [hc] at hlt2; simp at hlt2
          have ck : wr.cell? ⟨b2, off2 + k, none⟩ = some (.int .i64 (e.more.getD k 0)) := (HD.out.cell _).trans (hh k hlt2)
          have c14 : wr.cell? ⟨w.heap.size, 14, none⟩ = some s.vn := (HD.out.cell _).trans R4.out.2.2.2.1
          have hm : e.more.getD k 0 ∈ e.more := by rw [List.getD_eq_getElem?_getD, List.getElem?_eq_getElem hlt2]; exact List.getElem_mem hlt2
          have KM := Lib.hid (KK.out.2.2.1 _ hm)
          generalize e.more.getD k 0 = m at ck KM
          have VNr := Lib.hid (fun W (q : Below wr.heap.size wr W) => (VN4.out.on (HD.out.below _)).on q)
          have LIr := Lib.hid (fun W (q : Below wr.heap.size wr W) => (LI4.out.on (HD.out.below _)).on q)
          clear hh hm
          rcases hN : e.nots.contains m with _ | _
          · rcases hI : L.contains m with _ | _
            · have hno := KM.out hN hI
              have HN := Lib.hid hN
              have HI := Lib.hid hI
              clear hN hI KM
              rcases (by omega : m < fr ∨ (fr ≤ m ∧ t < m)) with z | ⟨z1, z2⟩
              · go_wp2_with fail
                go_quiet ((go_at_call 18; exact Calls.quiet_of_same (Zo.refIn_any s.vn e.nots m _ (VNr.out _ (blw_drewN _ _ _)) (by omega))))
                rw [HN.out]
                go_wp2_with (go_at_call 18; refine (Zo.refIn_any _ L m _ (LIr.out _ (blw_drewN _ _ _)) (by omega)).mono ?_; rintro x w5 ⟨rfl, hw⟩; replace hw := hw.symm; subst hw; rw [HI.out])
                go_roundw
                case rel => exact ⟨k + 1, by omega, by go_num, by first | exact HD.out.step _ | exact (HD.out.step _).step _⟩
                case measure => simp [intOf]; omega
              · go_wp2_with fail
                go_quiet ((go_at_call 18; exact Calls.quiet_of_same (Zo.refIn_any s.vn e.nots m _ (VNr.out _ (blw_drewN _ _ _)) (by omega))))
                rw [HN.out]
                go_wp2_with (go_at_call 18; refine (Zo.refIn_any _ L m _ (LIr.out _ (blw_drewN _ _ _)) (by omega)).mono ?_; rintro x w5 ⟨rfl, hw⟩; replace hw := hw.symm; subst hw; rw [HI.out])
                go_roundw
                case rel => exact ⟨k + 1, by omega, by go_num, by first | exact HD.out.step _ | exact (HD.out.step _).step _⟩
                case measure => simp [intOf]; omega
            · have HN := Lib.hid hN
              have HI := Lib.hid hI
              clear hN hI KM
              go_wp2_with fail
              go_quiet ((go_at_call 18; exact Calls.quiet_of_same (Zo.refIn_any s.vn e.nots m _ (VNr.out _ (blw_drewN _ _ _)) (by omega))))
              rw [HN.out]
              go_wp2_with (go_at_call 18; refine (Zo.refIn_any _ L m _ (LIr.out _ (blw_drewN _ _ _)) (by omega)).mono ?_; rintro x w5 ⟨rfl, hw⟩; replace hw := hw.symm; subst hw; rw [HI.out])
              go_roundw
              case rel => exact ⟨k + 1, by omega, by go_num, by first | exact HD.out.step _ | exact (HD.out.step _).step _⟩
              case measure => simp [intOf]; omega
          · rcases hI : L.contains m with _ | _
            · have HN := Lib.hid hN
              have HI := Lib.hid hI
              clear hN hI KM
              go_wp2_with fail
              go_quiet ((go_at_call 18; exact Calls.quiet_of_same (Zo.refIn_any s.vn e.nots m _ (VNr.out _ (blw_drewN _ _ _)) (by omega))))
              rw [HN.out]
              go_wp2_with (go_at_call 18; refine (Zo.refIn_any _ L m _ (LIr.out _ (blw_drewN _ _ _)) (by omega)).mono ?_; rintro x w5 ⟨rfl, hw⟩; replace hw := hw.symm; subst hw; rw [HI.out])
              go_roundw
              case rel => exact ⟨k + 1, by omega, by go_num, by first | exact HD.out.step _ | exact (HD.out.step _).step _⟩
              case measure => simp [intOf]; omega
            · have HN := Lib.hid hN
              have HI := Lib.hid hI
              clear hN hI KM
              go_wp2_with fail
              go_quiet ((go_at_call 18; exact Calls.quiet_of_same (Zo.refIn_any s.vn e.nots m _ (VNr.out _ (blw_drewN _ _ _)) (by omega))))
              rw [HN.out]
              go_wp2_with (go_at_call 18; refine (Zo.refIn_any _ L m _ (LIr.out _ (blw_drewN _ _ _)) (by omega)).mono ?_; rintro x w5 ⟨rfl, hw⟩; replace hw := hw.symm; subst hw; rw [HI.out])
              go_roundw
              case rel => exact ⟨k + 1, by omega, by go_num, by first | exact HD.out.step _ | exact (HD.out.step _).step _⟩
              case measure => simp [intOf]; omega
        · obtain ⟨w5, rfl⟩ : ∃ w5, w5 = wr := ⟨_, rfl⟩
          have BB5 := Lib.hid (BB4.out.trans (HD.out.below _))
          have R5 := Lib.hid (R4.out.on (HD.out.below _))
          have LI5 := Lib.hid (LI4.out.on (HD.out.below _))
          have S5 := Lib.hid BB5.out.size
          clear HD HOc HC13 BB4 R4 LI4 VN4
          by_cases g1 : c < fr
          · go_wp2
            go_ret
            exact ⟨rfl, BB5.out⟩
          by_cases g2 : t ≤ c
          · go_wp2
            go_ret
            exact ⟨rfl, BB5.out⟩
          obtain ⟨p1, p2, p3⟩ := KK.out.2.2.2.1 (by omega) (by omega)
          have cw : IntKind.i64.wrap (c + 1) = c + 1 := by rw [IntKind.wrap_i64]; omega
          have P2 := Lib.hid p2
          have P3 := Lib.hid p3
          have K3 := local_any e s fr c w5 (HV.out _ BB5.out) (HT.out _ BB5.out)
          rw [p1] at K3
          have HK3 := Lib.hid K3
          clear p1 p2 p3 K3
          go_wp2_with (refine ev_load ?l1 (.tmp 4) ?l2 w.heap.size e s ?l3 R5.out ?l4; (case l1 => rfl); (case l2 => rfl); (case l3 => rfl))
          clear c13 rl
          refine HK3.out.mono ?_
          rintro x w6 ⟨va, rfl, hwa, hb⟩
          rw [efault_0]
          have BB6 := Lib.hid (BB5.out.trans (hb.mono BB5.out.size))
          have R6 := Lib.hid (R5.out.on hb)
          have H56 := Lib.hid hb
          have WA := Lib.hid hwa
          clear hb hwa BB5 R5 HK3
          have K4 := local_any e s (c + 1) t w6 (HV.out _ BB6.out) (HT.out _ BB6.out)
          rw [P2.out] at K4
          have HK4 := Lib.hid K4
          clear K4 P2
          go_wp2_with (refine ev_load ?m1 (.tmp 4) ?m2 w.heap.size e s ?m3 R6.out ?m4; (case m1 => rfl); (case m2 => rfl); (case m3 => rfl))
          refine HK4.out.mono ?_
          rintro x w7 ⟨vb, rfl, hwb, hb⟩
          rw [efault_0]
          have BB7 := Lib.hid (BB6.out.trans (hb.mono BB6.out.size))
          have H57 := Lib.hid (H56.out.trans (hb.mono H56.out.size))
          have WA7 := ow_below WA.out hb
          have LB := congrArg List.length P3.out
          rw [List.length_append] at LB
          obtain ⟨v8, w8, happ, ho8, hb8⟩ := app_any WA7 hwb.ints H57.out.size (by omega)
          rw [P3.out] at ho8
          have LI8 := LI5.out.on (H57.out.trans hb8)
          have K5 := Lib.hid (sameInts L v8 _ w8 (ow_ints ho8) LI8 (by omega))
          have BB8 := Lib.hid (BB7.out.trans (hb8.mono S5.out))
          have HAPP := Lib.hid happ
          clear happ ho8 hb8 LI8 WA7 hb hwb HK4 BB7 BB6 R6 WA H56 H57 LI5 P3
          go_wp2_with (at_builtin; refine wpList_app rfl _ _ 22 rfl _ _ _ _ rfl rfl HAPP.out ?_)
          refine K5.out.mono ?_
          rintro x w9 ⟨rfl, hb⟩
          have BB9 := Lib.hid (BB8.out.trans (hb.mono BB8.out.size))
          clear hb K5 BB8
          go_wp2
          go_ret
          exact ⟨rfl, BB9.out⟩
end Go.Proofs.YtdiijpjfkgnjkadGreatDoor
