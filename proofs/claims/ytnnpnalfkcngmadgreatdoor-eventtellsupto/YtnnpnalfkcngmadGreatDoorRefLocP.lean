/-
  What is proved here: plain facts on the times of Start as the document gathers them.
-/
import Derived.Test.YtnnpnalfkcngmadGreatDoorBV
import Derived.Test.YtnnpnalfkcngmadGreatDoorBK
namespace Go.Proofs.YtnnpnalfkcngmadGreatDoor
open Go.RowKit Cal Txt

/-- A time of a day. -/
def tmx (st d : Int) : Int := (d - 1) * 1440 + st % 1440
/-- Those of so many days. -/
def tmk (st : Int) (k : Nat) (l : List Int) : List Int := (l.take k).map (tmx st)
theorem tmk_end (st : Int) (l : List Int) : tmk st l.length l = l.map (tmx st) := by unfold tmk; rw [List.take_length]
theorem tmk_snoc {st : Int} {l : List Int} {k : Nat} (h : k < l.length) : tmk st (k + 1) l = tmk st k l ++ [tmx st (l.getD k 0)] := by
  unfold tmk
  rw [List.take_succ_eq_append_getElem h, List.map_append, List.getD_eq_getElem?_getD, List.getElem?_eq_getElem h]
  rfl
theorem tq_cases (t : Int) : (0 ≤ t ∧ t.tdiv 1440 = t / 1440) ∨ (t < 0 ∧ t.tdiv 1440 = -((-t) / 1440)) := by
  rcases (by omega : t < 0 ∨ 0 ≤ t) with h | h
  · refine Or.inr ⟨h, ?_⟩
    have := Int.neg_tdiv (-t) 1440
    rw [Int.neg_neg] at this
    rw [this, Int.tdiv_eq_ediv_of_nonneg (by omega)]
  · exact Or.inl ⟨h, Int.tdiv_eq_ediv_of_nonneg h⟩
/-- The days, as the document has them, however far. -/
theorem dsq_wide {r : Rl} {s t : Int} (h : sf r s = 0) : dsq r s t 200000 = (DAYS r s).filter (fun x => decide (x ≤ t)) := by
  rcases (by omega : 109573 < t ∨ t ≤ 109573) with q | q
  · rw [dsq_far h (by omega), dsq_much h (Int.le_refl _)]
    refine List.filter_congr (fun x hx => ?_)
    have := DAYS_in h hx
    rw [decide_eq_true (by omega), decide_eq_true (by omega)]
  · exact dsq_much h q
/-- The times of Start, as the document gathers them. -/
def dbD (e : Evt) (t : Int) : List Int := dsq e.rule (e.start / 1440 + 1) (t.tdiv 1440 + 1) 200000
def dbL (e : Evt) (t : Int) : List Int := if e.rep = true then (dbD e t).map (tmx e.start) else [e.start]
theorem ev_sf {e : Evt} (h : evF e = 0) (hr : e.rep = true) : sf e.rule (e.start / 1440 + 1) = 0 ∧ rf e.rule = 0 := by
  have hs := (evF_lens h).2.2.1
  have h3 := (evF_lens h).2.1
  unfold ruF at h3
  rw [if_pos hr] at h3
  have := sf_ev h3 hs
  rw [(dyo_ok hs).1] at this
  exact ⟨this, h3⟩
theorem dbD_eq {e : Evt} {t : Int} (h : evF e = 0) (hr : e.rep = true) : dbD e t = (DAYS e.rule (e.start / 1440 + 1)).filter (fun x => decide (x ≤ t.tdiv 1440 + 1)) := dsq_wide (ev_sf h hr).1
theorem dbD_in {e : Evt} {t x : Int} (h : evF e = 0) (hr : e.rep = true) (hx : x ∈ dbD e t) : 1 ≤ x ∧ x ≤ 109573 := by
  rw [dbD_eq h hr] at hx
  have := DAYS_in (ev_sf h hr).1 (List.mem_filter.1 hx).1
  have := (of_decide_eq_true (evF_lens h).2.2.1).1
  omega
theorem dbD_len {e : Evt} {t : Int} (h : evF e = 0) (hr : e.rep = true) : (dbD e t).length ≤ 109573 := by
  rw [dbD_eq h hr]
  exact Nat.le_trans (List.length_filter_le _ _) (DAYS_len (ev_sf h hr).1)
theorem dbL_rise {e : Evt} {t : Int} (h : evF e = 0) : (dbL e t).Pairwise (· < ·) := by
  unfold dbL
  split
  · rename_i hr
    rw [dbD_eq h hr, List.pairwise_map]
    exact ((DAYS_rise _ _).filter _).imp (fun q => by unfold tmx; omega)
  · simp
theorem dbL_len {e : Evt} {t : Int} (h : evF e = 0) : (dbL e t).length ≤ 109573 := by
  unfold dbL
  split
  · rename_i hr
    rw [List.length_map]; exact dbD_len h hr
  · simp
theorem tmx_tmd {e : Evt} (h : evF e = 0) (n : Int) : tmx e.start n = tmd e.start n := by
  unfold tmx tmd
  rw [(dyo_ok (evF_lens h).2.2.1).1]
  omega
theorem dbL_mem {e : Evt} {t x : Int} (h : evF e = 0) (hx : x ≤ t) : x ∈ dbL e t ↔ isS e x := by
  have hs := (evF_lens h).2.2.1
  unfold dbL isS
  split
  · rename_i hr
    rw [dbD_eq h hr, List.mem_map, (dyo_ok hs).1]
    constructor
    · rintro ⟨n, hn, rfl⟩
      exact ⟨n, (List.mem_filter.1 hn).1, tmx_tmd h n⟩
    · rintro ⟨n, hn, e1⟩
      refine ⟨n, List.mem_filter.2 ⟨hn, ?_⟩, by rw [e1]; exact tmx_tmd h n⟩
      have d := DAYS_in (ev_sf h hr).1 hn
      have s1 := (of_decide_eq_true hs).1
      rw [← tmx_tmd h n] at e1
      unfold tmx at e1
      simp only [decide_eq_true_eq]
      rcases tq_cases t with ⟨a, b⟩ | ⟨a, b⟩
      · rw [b]; omega
      · omega
  · simp
/-- The document's list. -/
def dcL (e : Evt) (fr t : Int) : List Int := evL (dbL e t) e fr t
theorem dcL_mem {e : Evt} {fr t x : Int} (h : evF e = 0) : x ∈ dcL e fr t ↔ ((isS e x ∨ x ∈ e.more) ∧ x ∉ e.nots) ∧ fr ≤ x ∧ x ≤ t := by
  unfold dcL
  rw [evL_mem]
  constructor
  · rintro ⟨a, b, c, d⟩
    exact ⟨⟨a.imp (fun q => (dbL_mem h d).1 q) id, b⟩, c, d⟩
  · rintro ⟨⟨a, b⟩, c, d⟩
    exact ⟨a.imp (fun q => (dbL_mem h d).2 q) id, b, c, d⟩
theorem dcL_rise (e : Evt) (fr t : Int) : (dcL e fr t).Pairwise (· < ·) := evL_rise _ _ _ _
/-- Of times it is the program's. -/
theorem dcL_same {e : Evt} {fr t : Int} (h : evF e = 0) (hf : ist fr = true) (ht : ist t = true) : dcL e fr t = evL (stL e fr t) e fr t := by
  refine rise_ext2 (dcL_rise _ _ _) (evL_rise _ _ _ _) (fun x => ?_)
  rw [dcL_mem h, evL_mem]
  constructor
  · rintro ⟨⟨a, b⟩, c, d⟩
    exact ⟨a.imp (fun q => (stL_mem h hf ht c d).2 q) id, b, c, d⟩
  · rintro ⟨a, b, c, d⟩
    exact ⟨⟨a.imp (fun q => (stL_mem h hf ht c d).1 q) id, b⟩, c, d⟩
/-- How far numbers have been put into the list. -/
def PutI (b m : List Int) (i : Nat) (p : List Int) : Prop := p.Pairwise (· < ·) ∧ (∀ x, x ∈ p ↔ x ∈ b ∨ x ∈ m.take i) ∧ p.length ≤ b.length + i
theorem PutI.start {b m : List Int} (h : b.Pairwise (· < ·)) : PutI b m 0 b := ⟨h, fun x => by simp, by omega⟩
/-- What is left of it. -/
def kee (e : Evt) (fr t x : Int) : Bool := !(e.nots.contains x) && (decide (fr ≤ x) && decide (x ≤ t))
def flt (e : Evt) (fr t : Int) (i : Nat) (p : List Int) : List Int := (p.take i).filter (kee e fr t)
theorem flt_len (e : Evt) (fr t : Int) (i : Nat) (p : List Int) : (flt e fr t i p).length ≤ i := by
  unfold flt
  have h1 := List.length_filter_le (kee e fr t) (p.take i)
  rw [List.length_take] at h1
  omega
theorem flt_yes {e : Evt} {fr t : Int} {i : Nat} {p : List Int} (h : i < p.length) (hk : kee e fr t (p.getD i 0) = true) : flt e fr t (i + 1) p = flt e fr t i p ++ [p.getD i 0] := by
  unfold flt
  rw [List.take_succ_eq_append_getElem h, List.filter_append]
  rw [List.getD_eq_getElem?_getD, List.getElem?_eq_getElem h] at hk ⊢
  have hk' : kee e fr t p[i] = true := hk
  simp [hk']
theorem flt_no {e : Evt} {fr t : Int} {i : Nat} {p : List Int} (h : i < p.length) (hk : kee e fr t (p.getD i 0) = false) : flt e fr t (i + 1) p = flt e fr t i p := by
  unfold flt
  rw [List.take_succ_eq_append_getElem h, List.filter_append]
  rw [List.getD_eq_getElem?_getD, List.getElem?_eq_getElem h] at hk
  have hk' : kee e fr t p[i] = false := hk
  simp [hk']
theorem flt_end {e : Evt} {fr t : Int} {p : List Int} (hp : PutI (dbL e t) e.more e.more.length p) : flt e fr t p.length p = dcL e fr t := by
  obtain ⟨h1, h2, _⟩ := hp
  unfold flt
  rw [List.take_length]
  refine rise_ext2 (h1.filter _) (dcL_rise _ _ _) (fun x => ?_)
  unfold dcL
  rw [List.mem_filter, evL_mem, h2 x, List.take_length]
  unfold kee
  simp
end Go.Proofs.YtnnpnalfkcngmadGreatDoor
