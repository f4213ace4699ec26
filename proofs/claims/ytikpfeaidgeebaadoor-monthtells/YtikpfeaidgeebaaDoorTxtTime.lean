/-
  What is proved here: plain facts on the text of a time: which time a text tells, and that what is written is read as it was; no program is named.
-/
import Derived.Test.YtikpfeaidgeebaaDoorTxt
import Derived.Test.YtikpfeaidgeebaaDoorCal
namespace Go.Proofs.YtikpfeaidgeebaaDoor.Txt
open Go.Lib Cal

/-- The form of a time: each 48 stands for a digit. -/
def fm : List UInt8 := [48, 48, 48, 48, 45, 48, 48, 45, 48, 48, 32, 48, 48, 58, 48, 48]
def fit (f c : UInt8) : Bool := if f = 48 then isDg c else c == f
/-- Has a text the form of a time? -/
def frm (l : List UInt8) : Bool := (l.length == 16) && (List.range 16).all fun i => fit (fm.getD i 0) (l.getD i 0)
theorem frm_iff {l : List UInt8} : frm l = true ↔ l.length = 16 ∧ ∀ i, i < 16 → fit (fm.getD i 0) (l.getD i 0) = true := by
  unfold frm
  rw [Bool.and_eq_true, beq_iff_eq, List.all_eq_true]
  constructor
  · rintro ⟨h1, h2⟩; exact ⟨h1, fun i hi => h2 i (List.mem_range.2 hi)⟩
  · rintro ⟨h1, h2⟩; exact ⟨h1, fun i hi => h2 i (List.mem_range.1 hi)⟩
/-- The number between two places. -/
def nm (l : List UInt8) (a b : Nat) : Nat := val ((l.drop a).take (b - a))
/-- The text of a time of these parts. -/
def tmt (y m d h i : Nat) : List UInt8 := d2 (y / 100) ++ d2 y ++ [45] ++ d2 m ++ [45] ++ d2 d ++ [32] ++ d2 h ++ [58] ++ d2 i

theorem frm_len {l : List UInt8} (h : frm l = true) : l.length = 16 := (frm_iff.1 h).1
theorem frm_at {l : List UInt8} (h : frm l = true) (i : Nat) (hi : i < 16) : fit (fm.getD i 0) (l.getD i 0) = true := (frm_iff.1 h).2 i hi
theorem frm_mk {l : List UInt8} (h1 : l.length = 16) (h2 : ∀ i, i < 16 → fit (fm.getD i 0) (l.getD i 0) = true) : frm l = true := frm_iff.2 ⟨h1, h2⟩
theorem frm_short {l : List UInt8} (h1 : ¬ l.length = 16) : frm l = false := by
  rcases h : frm l with _ | _
  · rfl
  · exact absurd (frm_len h) h1
theorem frm_not {l : List UInt8} (i : Nat) (hi : i < 16) (h2 : fit (fm.getD i 0) (l.getD i 0) = false) : frm l = false := by
  rcases h : frm l with _ | _
  · rfl
  · have := frm_at h i hi; rw [h2] at this; cases this
/-- The sixteen bytes of a text of this length. -/
theorem sixteen {l : List UInt8} (h : l.length = 16) : ∃ a b c d e f g i j k m n o p q r, l = [a, b, c, d, e, f, g, i, j, k, m, n, o, p, q, r] := by
  match l, h with
  | [a, b, c, d, e, f, g, i, j, k, m, n, o, p, q, r], _ => exact ⟨a, b, c, d, e, f, g, i, j, k, m, n, o, p, q, r, rfl⟩
theorem fit_dg {c : UInt8} (h : fit 48 c = true) : isDg c = true := h
theorem fit_is {f c : UInt8} (hf : f ≠ 48) (h : fit f c = true) : c = f := by
  unfold fit at h; rw [if_neg hf] at h; exact eq_of_beq h
theorem frm_parts {l : List UInt8} (h : frm l = true) : ∃ a b c d f g j k n o q r : UInt8, l = [a, b, c, d, 45, f, g, 45, j, k, 32, n, o, 58, q, r] ∧
    (isDg a = true ∧ isDg b = true ∧ isDg c = true ∧ isDg d = true) ∧ (isDg f = true ∧ isDg g = true) ∧ (isDg j = true ∧ isDg k = true) ∧ (isDg n = true ∧ isDg o = true) ∧ (isDg q = true ∧ isDg r = true) := by
  obtain ⟨a, b, c, d, e, f, g, i, j, k, m, n, o, p, q, r, rfl⟩ := sixteen (frm_len h)
  have e4 : e = 45 := fit_is (by decide) (frm_at h 4 (by decide))
  have e7 : i = 45 := fit_is (by decide) (frm_at h 7 (by decide))
  have e10 : m = 32 := fit_is (by decide) (frm_at h 10 (by decide))
  have e13 : p = 58 := fit_is (by decide) (frm_at h 13 (by decide))
  subst e4 e7 e10 e13
  exact ⟨a, b, c, d, f, g, j, k, n, o, q, r, rfl,
    ⟨frm_at h 0 (by decide), frm_at h 1 (by decide), frm_at h 2 (by decide), frm_at h 3 (by decide)⟩, ⟨frm_at h 5 (by decide), frm_at h 6 (by decide)⟩,
    ⟨frm_at h 8 (by decide), frm_at h 9 (by decide)⟩, ⟨frm_at h 11 (by decide), frm_at h 12 (by decide)⟩, ⟨frm_at h 14 (by decide), frm_at h 15 (by decide)⟩⟩
theorem val_two (a b : UInt8) : val [a, b] = (a.toNat - 48) * 10 + (b.toNat - 48) := by simp [val]
theorem val_four (a b c d : UInt8) : val [a, b, c, d] = val [a, b] * 100 + val [c, d] := by simp [val]; omega
theorem val_two_lt {a b : UInt8} (ha : isDg a = true) (hb : isDg b = true) : val [a, b] < 100 := by
  have h1 := isDg_iff.1 ha
  have h2 := isDg_iff.1 hb
  rw [val_two]; omega
theorem d2_mod (x y : Nat) : d2 (x * 100 + y) = d2 y := by
  unfold d2
  rw [show (x * 100 + y) / 10 % 10 = y / 10 % 10 by omega, show (x * 100 + y) % 10 = y % 10 by omega]
/-- A text of the form is that of its numbers. -/
theorem frm_back {l : List UInt8} (h : frm l = true) : tmt (nm l 0 4) (nm l 5 7) (nm l 8 10) (nm l 11 13) (nm l 14 16) = l := by
  obtain ⟨a, b, c, d, f, g, j, k, n, o, q, r, rfl, ⟨ha, hb, hc, hd⟩, ⟨hf, hg⟩, ⟨hj, hk⟩, ⟨hn, ho⟩, ⟨hq, hr⟩⟩ := frm_parts h
  show tmt (val [a, b, c, d]) (val [f, g]) (val [j, k]) (val [n, o]) (val [q, r]) = _
  have l1 := val_two_lt hc hd
  unfold tmt
  rw [val_four, d2_mod, show (val [a, b] * 100 + val [c, d]) / 100 = val [a, b] by omega, d2_of ha hb, d2_of hc hd, d2_of hf hg, d2_of hj hk, d2_of hn ho, d2_of hq hr]
  rfl
theorem fit_dg' {c : UInt8} (h : isDg c = true) : fit 48 c = true := by unfold fit; rw [if_pos rfl]; exact h
theorem d2_two (n : Nat) : ∃ p q, d2 n = [p, q] ∧ isDg p = true ∧ isDg q = true := ⟨_, _, rfl, dg_is (by omega), dg_is (by omega)⟩
/-- The text of numbers is of the form, and tells them. -/
theorem tmt_frm (y m d h i : Nat) : frm (tmt y m d h i) = true := by
  unfold tmt
  obtain ⟨a, b, e1, ha, hb⟩ := d2_two (y / 100)
  obtain ⟨c, d', e2, hc, hd⟩ := d2_two y
  obtain ⟨f, g, e3, hf, hg⟩ := d2_two m
  obtain ⟨j, k, e4, hj, hk⟩ := d2_two d
  obtain ⟨n, o, e5, hn, ho⟩ := d2_two h
  obtain ⟨q, r, e6, hq, hr⟩ := d2_two i
  rw [e1, e2, e3, e4, e5, e6]
  clear e1 e2 e3 e4 e5 e6
  show frm [a, b, c, d', 45, f, g, 45, j, k, 32, n, o, 58, q, r] = true
  refine frm_mk rfl fun x hx => ?_
  have hcs : x = 0 ∨ x = 1 ∨ x = 2 ∨ x = 3 ∨ x = 4 ∨ x = 5 ∨ x = 6 ∨ x = 7 ∨ x = 8 ∨ x = 9 ∨ x = 10 ∨ x = 11 ∨ x = 12 ∨ x = 13 ∨ x = 14 ∨ x = 15 := by omega
  rcases hcs with rfl | rfl | rfl | rfl | rfl | rfl | rfl | rfl | rfl | rfl | rfl | rfl | rfl | rfl | rfl | rfl
  · exact fit_dg' ha
  · exact fit_dg' hb
  · exact fit_dg' hc
  · exact fit_dg' hd
  · exact (show fit 45 45 = true by decide)
  · exact fit_dg' hf
  · exact fit_dg' hg
  · exact (show fit 45 45 = true by decide)
  · exact fit_dg' hj
  · exact fit_dg' hk
  · exact (show fit 32 32 = true by decide)
  · exact fit_dg' hn
  · exact fit_dg' ho
  · exact (show fit 58 58 = true by decide)
  · exact fit_dg' hq
  · exact fit_dg' hr
theorem tmt_nm (y m d h i : Nat) (hy : y < 10000) (hm : m < 100) (hd : d < 100) (hh : h < 100) (hi : i < 100) :
    nm (tmt y m d h i) 0 4 = y ∧ nm (tmt y m d h i) 5 7 = m ∧ nm (tmt y m d h i) 8 10 = d ∧ nm (tmt y m d h i) 11 13 = h ∧ nm (tmt y m d h i) 14 16 = i := by
  refine ⟨?_, ?_, ?_, ?_, ?_⟩
  · show val [_, _, _, _] = y
    rw [val_four]
    have e1 := d2_val (y / 100)
    have e2 := d2_val y
    unfold d2 at e1 e2
    rw [e1, e2]; omega
  · show val (d2 m) = m
    rw [d2_val]; omega
  · show val (d2 d) = d
    rw [d2_val]; omega
  · show val (d2 h) = h
    rw [d2_val]; omega
  · show val (d2 i) = i
    rw [d2_val]; omega
theorem nm_lt {l : List UInt8} (h : frm l = true) : nm l 0 4 ≤ 9999 ∧ nm l 5 7 ≤ 99 ∧ nm l 8 10 ≤ 99 ∧ nm l 11 13 ≤ 99 ∧ nm l 14 16 ≤ 99 := by
  obtain ⟨a, b, c, d, f, g, j, k, n, o, q, r, rfl, ⟨ha, hb, hc, hd⟩, ⟨hf, hg⟩, ⟨hj, hk⟩, ⟨hn, ho⟩, ⟨hq, hr⟩⟩ := frm_parts h
  have l1 := val_two_lt ha hb
  have l2 := val_two_lt hc hd
  have l3 := val_two_lt hf hg
  have l4 := val_two_lt hj hk
  have l5 := val_two_lt hn ho
  have l6 := val_two_lt hq hr
  refine ⟨?_, ?_, ?_, ?_, ?_⟩
  · show val [a, b, c, d] ≤ 9999
    rw [val_four]; omega
  · show val [f, g] ≤ 99
    omega
  · show val [j, k] ≤ 99
    omega
  · show val [n, o] ≤ 99
    omega
  · show val [q, r] ≤ 99
    omega

/-- The last minute of the last day, and one more. -/
abbrev last : Int := 157785120
/-- The text of a time. -/
def txt (t : Int) : List UInt8 := tmt (yr (t / 1440 + 1)).toNat (mo (t / 1440 + 1)).toNat (da (t / 1440 + 1)).toNat (t % 1440 / 60).toNat (t % 60).toNat
/-- The time that a text of the form tells, were its numbers right. -/
def raw (l : List UInt8) : Int := (num (nm l 0 4) (nm l 5 7) (nm l 8 10) - 1) * 1440 + nm l 11 13 * 60 + nm l 14 16
/-- Are its numbers right? -/
def good (l : List UInt8) : Prop := okD (nm l 0 4) (nm l 5 7) (nm l 8 10) ∧ nm l 11 13 ≤ 23 ∧ nm l 14 16 ≤ 59 ∧ 1 ≤ raw l
theorem ml_31 (y m : Int) : ml y m ≤ 31 := (ml_bd y m).2
theorem txt_read {t : Int} (h1 : 1 ≤ t) (h2 : t < last) : frm (txt t) = true ∧ good (txt t) ∧ raw (txt t) = t := by
  have a1 : 1 ≤ t / 1440 + 1 := by omega
  have a2 : t / 1440 + 1 ≤ 109573 := by unfold last at h2; omega
  have ok := date_ok a1 a2
  have nn : num (yr (t / 1440 + 1)) (mo (t / 1440 + 1)) (da (t / 1440 + 1)) = t / 1440 + 1 := date_num
  have m31 := ml_31 (yr (t / 1440 + 1)) (mo (t / 1440 + 1))
  have ok' := ok
  obtain ⟨o1, o2, o3, o4, o5, o6⟩ := ok'
  have e := tmt_nm (yr (t / 1440 + 1)).toNat (mo (t / 1440 + 1)).toNat (da (t / 1440 + 1)).toNat (t % 1440 / 60).toNat (t % 60).toNat (by omega) (by omega) (by omega) (by omega) (by omega)
  change nm (txt t) 0 4 = _ ∧ nm (txt t) 5 7 = _ ∧ nm (txt t) 8 10 = _ ∧ nm (txt t) 11 13 = _ ∧ nm (txt t) 14 16 = _ at e
  obtain ⟨e1, e2, e3, e4, e5⟩ := e
  have r : raw (txt t) = t := by
    unfold raw
    rw [e1, e2, e3, e4, e5, show ((yr (t / 1440 + 1)).toNat : Int) = yr (t / 1440 + 1) by omega, show ((mo (t / 1440 + 1)).toNat : Int) = mo (t / 1440 + 1) by omega, show ((da (t / 1440 + 1)).toNat : Int) = da (t / 1440 + 1) by omega, nn]
    omega
  refine ⟨tmt_frm _ _ _ _ _, ⟨?_, by omega, by omega, by omega⟩, r⟩
  rw [e1, e2, e3, show ((yr (t / 1440 + 1)).toNat : Int) = yr (t / 1440 + 1) by omega, show ((mo (t / 1440 + 1)).toNat : Int) = mo (t / 1440 + 1) by omega, show ((da (t / 1440 + 1)).toNat : Int) = da (t / 1440 + 1) by omega]
  exact ok
theorem raw_lt {l : List UInt8} (h : good l) : raw l < last := by
  obtain ⟨o, a, b, c⟩ := h
  have := num_bd o
  unfold raw last; omega
theorem txt_back {l : List UInt8} (hf : frm l = true) (h : good l) : txt (raw l) = l := by
  have hl := raw_lt h
  obtain ⟨o, a, b, c⟩ := h
  have nb := num_bd o
  have d1 : raw l / 1440 + 1 = num (nm l 0 4) (nm l 5 7) (nm l 8 10) := by unfold raw; omega
  have d2' : raw l % 1440 / 60 = nm l 11 13 := by unfold raw; omega
  have d3 : raw l % 60 = nm l 14 16 := by unfold raw; omega
  obtain ⟨D1, D2, D3⟩ := date_of o rfl
  unfold txt
  rw [d1, d2', d3, D1, D2, D3]
  exact frm_back hf
theorem frm_dg {l : List UInt8} (h : frm l = true) : (∀ c ∈ (l.drop 0).take (4 - 0), isDg c = true) ∧ (∀ c ∈ (l.drop 5).take (7 - 5), isDg c = true) ∧ (∀ c ∈ (l.drop 8).take (10 - 8), isDg c = true) ∧ (∀ c ∈ (l.drop 11).take (13 - 11), isDg c = true) ∧ (∀ c ∈ (l.drop 14).take (16 - 14), isDg c = true) := by
  obtain ⟨a, b, c, d, f, g, j, k, n, o, q, r, rfl, ⟨ha, hb, hc, hd⟩, ⟨hf, hg⟩, ⟨hj, hk⟩, ⟨hn, ho⟩, ⟨hq, hr⟩⟩ := frm_parts h
  refine ⟨?_, ?_, ?_, ?_, ?_⟩ <;> simp [*]
end Go.Proofs.YtikpfeaidgeebaaDoor.Txt
