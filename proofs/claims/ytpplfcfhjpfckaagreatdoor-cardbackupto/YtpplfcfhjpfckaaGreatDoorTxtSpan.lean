/-
  What is proved here: plain facts on the text of a span: which minutes a text tells, that both ways to read it tell the same, and that what is written is read as it was; no program is named.
-/
import Derived.Test.YtpplfcfhjpfckaaGreatDoorQB
namespace Go.Proofs.YtpplfcfhjpfckaaGreatDoor.Txt
open Go.Lib

/-- How many digits a text opens with. -/
def dcnt (l : List UInt8) : Nat := (l.takeWhile isDg).length
theorem dcnt_le (l : List UInt8) : dcnt l ≤ l.length := by
  induction l with
  | nil => simp [dcnt]
  | cons c l ih =>
    unfold dcnt at ih ⊢
    rw [List.takeWhile_cons]
    split <;> simp <;> omega
theorem dcnt_take (l : List UInt8) : ∀ c ∈ l.take (dcnt l), isDg c = true := by
  induction l with
  | nil => simp [dcnt]
  | cons c l ih =>
    unfold dcnt at ih ⊢
    rw [List.takeWhile_cons]
    split
    · rename_i h
      intro x hx
      rw [List.length_cons, List.take_succ_cons] at hx
      rcases List.mem_cons.1 hx with rfl | hx
      · exact h
      · exact ih x hx
    · simp
theorem dcnt_unique (l : List UInt8) (j : Nat) (hj : j ≤ l.length) (h1 : ∀ c ∈ l.take j, isDg c = true) (h2 : ∀ h : j < l.length, isDg l[j] = false) : dcnt l = j := by
  induction l generalizing j with
  | nil => simp at hj; simp [dcnt, hj]
  | cons c l ih =>
    unfold dcnt at ih ⊢
    rw [List.takeWhile_cons]
    cases j with
    | zero =>
      have := h2 (by simp)
      simp at this
      simp [this]
    | succ j =>
      have hc : isDg c = true := h1 c (by simp)
      rw [hc]
      simp
      exact ih j (by simpa using hj) (fun x hx => h1 x (by simp [hx])) (fun h => h2 (Nat.succ_lt_succ h))
theorem dcnt_none (l : List UInt8) (h : dcnt l < l.length) : isDg l[dcnt l] = false := by
  induction l with
  | nil => simp at h
  | cons c l ih =>
    rcases hc : isDg c with _ | _
    · have e : dcnt (c :: l) = 0 := by simp [dcnt, hc]
      simp only [e]; simpa using hc
    · have e : dcnt (c :: l) = dcnt l + 1 := by simp [dcnt, hc]
      simp only [e] at h ⊢
      simpa using ih (by simpa using h)

/-- Does a text open with no number that may stand in a span? -/
def bad (l : List UInt8) : Bool := decide (dcnt l = 0 ∨ 9 < dcnt l ∨ l.head? = some 48)
/-- The number that a text opens with. -/
def lv (l : List UInt8) : Nat := val (l.take (dcnt l))
theorem lv_le {l : List UInt8} (h : bad l = false) : lv l ≤ 999999999 := by
  have h' := of_decide_eq_false h
  exact val_le9 _ (dcnt_take l) (by rw [List.length_take]; omega)
theorem take_ne {l : List UInt8} (h : bad l = false) : l.take (dcnt l) ≠ [] ∧ (l.take (dcnt l)).head? ≠ some 48 := by
  have h' := of_decide_eq_false h
  have hl := dcnt_le l
  cases l with
  | nil => simp [dcnt] at h'
  | cons c l =>
    obtain ⟨d, hd⟩ : ∃ d, dcnt (c :: l) = d + 1 := ⟨dcnt (c :: l) - 1, by omega⟩
    rw [hd, List.take_succ_cons]
    refine ⟨by simp, ?_⟩
    intro e
    exact h' (Or.inr (Or.inr (by simpa using e)))
theorem lv_pos {l : List UInt8} (h : bad l = false) : 1 ≤ lv l := (val_dec _ (dcnt_take l) (take_ne h).1 (take_ne h).2).1
theorem lv_dec {l : List UInt8} (h : bad l = false) : decDigits (lv l) = l.take (dcnt l) := (val_dec _ (dcnt_take l) (take_ne h).1 (take_ne h).2).2

/-- The part of one unit that a text opens with, and how long it is. -/
def prt (l : List UInt8) (c : UInt8) (most : Nat) : Nat × Nat :=
  if bad l = false ∧ l[dcnt l]? = some c ∧ lv l ≤ most then (lv l, dcnt l + 1) else (0, 0)
theorem prt_len (l : List UInt8) (c : UInt8) (most : Nat) : (prt l c most).2 ≤ l.length := by
  unfold prt; split
  · rename_i h
    have := (List.getElem?_eq_some_iff.1 h.2.1).1
    show dcnt l + 1 ≤ l.length
    omega
  · exact Nat.zero_le _
theorem prt_most (l : List UInt8) (c : UInt8) (most : Nat) : (prt l c most).1 ≤ most := by
  unfold prt; split
  · rename_i h; exact h.2.2
  · exact Nat.zero_le _
/-- The sum of the parts, each unit once and in order; what is left over. -/
def l1 (l : List UInt8) : List UInt8 := l.drop (prt l 100 999999999).2
def l2 (l : List UInt8) : List UInt8 := (l1 l).drop (prt (l1 l) 104 23).2
def l3 (l : List UInt8) : List UInt8 := (l2 l).drop (prt (l2 l) 109 59).2
def sum (l : List UInt8) : Nat := (prt l 100 999999999).1 * 1440 + (prt (l1 l) 104 23).1 * 60 + (prt (l2 l) 109 59).1
def spOf (l : List UInt8) : Option Nat := if 0 < sum l ∧ l3 l = [] then some (sum l) else none

/-- The same, step by step. -/
def rs : Nat → Nat → Nat → List UInt8 → Option Nat
  | 0, _, _, _ => none
  | f + 1, p, n, l =>
    if l = [] then (if p = 0 then none else some n) else
    if bad l = true then none else
    if l[dcnt l]? = some 100 ∧ p = 0 then rs f 1 (n + lv l * 1440) (l.drop (dcnt l + 1)) else
    if l[dcnt l]? = some 104 ∧ p ≤ 1 ∧ lv l < 24 then rs f 2 (n + lv l * 60) (l.drop (dcnt l + 1)) else
    if l[dcnt l]? = some 109 ∧ p ≤ 2 ∧ lv l < 60 then rs f 3 (n + lv l) (l.drop (dcnt l + 1)) else none
theorem prt_nil (c : UInt8) (m : Nat) : prt [] c m = (0, 0) := by simp [prt]
theorem prt_bad {l : List UInt8} (h : bad l = true) (c : UInt8) (m : Nat) : prt l c m = (0, 0) := by simp [prt, h]
theorem prt_hit {l : List UInt8} {c : UInt8} {m : Nat} (h : bad l = false) (g : l[dcnt l]? = some c) (k : lv l ≤ m) : prt l c m = (lv l, dcnt l + 1) := by simp [prt, h, g, k]
theorem prt_miss {l : List UInt8} {c : UInt8} {m : Nat} (g : ¬ (l[dcnt l]? = some c ∧ lv l ≤ m)) : prt l c m = (0, 0) := by
  unfold prt; rw [if_neg]; rintro ⟨_, h⟩; exact g h
theorem rs_three (f n : Nat) (l : List UInt8) : rs (f + 1) 3 n l = if l = [] then some n else none := by
  unfold rs
  by_cases h : l = [] <;> simp [h]
theorem rs_two (f n : Nat) (l : List UInt8) : rs (f + 2) 2 n l = if l.drop (prt l 109 59).2 = [] then some (n + (prt l 109 59).1) else none := by
  by_cases h : l = []
  · subst h; simp [rs, prt_nil]
  rcases hb : bad l with _ | _
  · by_cases g : l[dcnt l]? = some 109 ∧ lv l ≤ 59
    · rw [prt_hit hb g.1 g.2]
      have e : rs (f + 2) 2 n l = rs (f + 1) 3 (n + lv l) (l.drop (dcnt l + 1)) := by
        rw [rs, if_neg h, if_neg (by simp [hb]), if_neg (by simp), if_neg (by simp), if_pos ⟨g.1, by omega, by omega⟩]
      rw [e, rs_three]
    · rw [prt_miss g]
      rw [rs, if_neg h, if_neg (by simp [hb]), if_neg (by simp), if_neg (by simp), if_neg (by intro k; exact g ⟨k.1, by omega⟩)]
      simp [h]
  · rw [prt_bad hb]; simp [rs, h, hb]
theorem rs_one (f n : Nat) (l : List UInt8) : rs (f + 3) 1 n l = if (l.drop (prt l 104 23).2).drop (prt (l.drop (prt l 104 23).2) 109 59).2 = [] then some (n + (prt l 104 23).1 * 60 + (prt (l.drop (prt l 104 23).2) 109 59).1) else none := by
  by_cases h : l = []
  · subst h; simp [rs, prt_nil]
  rcases hb : bad l with _ | _
  · by_cases g : l[dcnt l]? = some 104 ∧ lv l ≤ 23
    · rw [prt_hit hb g.1 g.2]
      have e : rs (f + 3) 1 n l = rs (f + 2) 2 (n + lv l * 60) (l.drop (dcnt l + 1)) := by
        rw [rs, if_neg h, if_neg (by simp [hb]), if_neg (by simp), if_pos ⟨g.1, by omega, by omega⟩]
      rw [e, rs_two]
    · rw [prt_miss g]
      simp only [List.drop_zero, Nat.zero_mul, Nat.add_zero]
      by_cases g2 : l[dcnt l]? = some 109 ∧ lv l ≤ 59
      · rw [prt_hit hb g2.1 g2.2]
        have e : rs (f + 3) 1 n l = rs (f + 2) 3 (n + lv l) (l.drop (dcnt l + 1)) := by
          rw [rs, if_neg h, if_neg (by simp [hb]), if_neg (by simp), if_neg (by intro k; exact g ⟨k.1, by omega⟩), if_pos ⟨g2.1, by omega, by omega⟩]
        rw [e, rs_three]
      · rw [prt_miss g2, rs, if_neg h, if_neg (by simp [hb]), if_neg (by simp), if_neg (by intro k; exact g ⟨k.1, by omega⟩), if_neg (by intro k; exact g2 ⟨k.1, by omega⟩)]
        simp [h]
  · rw [prt_bad hb]; simp [rs, h, hb, prt_bad hb]
/-- Both ways tell the same. -/
theorem rs_all (l : List UInt8) : rs 4 0 0 l = spOf l := by
  unfold spOf sum l3
  by_cases h : l = []
  · subst h; simp [rs, prt_nil, l1, l2]
  rcases hb : bad l with _ | _
  · have hp := lv_pos hb
    by_cases g : l[dcnt l]? = some 100
    · have e : rs 4 0 0 l = rs 3 1 (0 + lv l * 1440) (l.drop (dcnt l + 1)) := by
        rw [rs, if_neg h, if_neg (by simp [hb]), if_pos ⟨g, rfl⟩]
      have q := prt_hit hb g (lv_le hb)
      rw [e, rs_one]
      unfold l2 l1
      rw [q]
      simp only [Nat.zero_add]
      by_cases k : ((l.drop (dcnt l + 1)).drop (prt (l.drop (dcnt l + 1)) 104 23).2).drop (prt ((l.drop (dcnt l + 1)).drop (prt (l.drop (dcnt l + 1)) 104 23).2) 109 59).2 = []
      · rw [if_pos k, if_pos ⟨by omega, k⟩]
      · rw [if_neg k, if_neg (fun x => k x.2)]
    · have q : prt l 100 999999999 = (0, 0) := prt_miss (fun x => g x.1)
      unfold l2 l1
      rw [q]
      simp only [List.drop_zero, Nat.zero_mul, Nat.zero_add]
      by_cases g1 : l[dcnt l]? = some 104 ∧ lv l ≤ 23
      · have e : rs 4 0 0 l = rs 3 2 (0 + lv l * 60) (l.drop (dcnt l + 1)) := by
          rw [rs, if_neg h, if_neg (by simp [hb]), if_neg (fun x => g x.1), if_pos ⟨g1.1, by omega, by omega⟩]
        rw [e, rs_two, prt_hit hb g1.1 g1.2]
        simp only [Nat.zero_add]
        by_cases k : (l.drop (dcnt l + 1)).drop (prt (l.drop (dcnt l + 1)) 109 59).2 = []
        · rw [if_pos k, if_pos ⟨by omega, k⟩]
        · rw [if_neg k, if_neg (fun x => k x.2)]
      · rw [prt_miss g1]
        simp only [List.drop_zero, Nat.zero_mul, Nat.zero_add]
        by_cases g2 : l[dcnt l]? = some 109 ∧ lv l ≤ 59
        · have e : rs 4 0 0 l = rs 3 3 (0 + lv l) (l.drop (dcnt l + 1)) := by
            rw [rs, if_neg h, if_neg (by simp [hb]), if_neg (fun x => g x.1), if_neg (by intro k; exact g1 ⟨k.1, by omega⟩), if_pos ⟨g2.1, by omega, by omega⟩]
          rw [e, rs_three, prt_hit hb g2.1 g2.2]
          simp only [Nat.zero_add]
          by_cases k : l.drop (dcnt l + 1) = []
          · rw [if_pos k, if_pos ⟨by omega, k⟩]
          · rw [if_neg k, if_neg (fun x => k x.2)]
        · rw [prt_miss g2, rs, if_neg h, if_neg (by simp [hb]), if_neg (fun x => g x.1), if_neg (by intro k; exact g1 ⟨k.1, by omega⟩), if_neg (by intro k; exact g2 ⟨k.1, by omega⟩)]
          simp
  · unfold l2 l1; simp [rs, h, hb, prt_bad hb]

/-! The text of a span. -/
def pc (k : Nat) (c : UInt8) : List UInt8 := if k = 0 then [] else decDigits k ++ [c]
def prts (a : Nat) : List UInt8 := pc (a / 1440) 100 ++ (pc (a % 1440 / 60) 104 ++ pc (a % 60) 109)
theorem pc_zero (c : UInt8) : pc 0 c = [] := rfl
theorem pc_pos {k : Nat} (h : 1 ≤ k) (c : UInt8) : pc k c = decDigits k ++ [c] := by unfold pc; rw [if_neg (by omega)]
theorem at_pc {k : Nat} {c : UInt8} (h : 1 ≤ k) (hk : k ≤ 999999999) (hc : isDg c = false) (r : List UInt8) :
    bad (pc k c ++ r) = false ∧ (pc k c ++ r)[dcnt (pc k c ++ r)]? = some c ∧ lv (pc k c ++ r) = k ∧ dcnt (pc k c ++ r) + 1 = (pc k c).length := by
  have hd : dcnt (pc k c ++ r) = (decDigits k).length := by
    rw [pc_pos h, List.append_assoc]
    refine dcnt_unique _ _ (by simp) (fun x hx => ?_) (fun g => ?_)
    · rw [List.take_left] at hx; exact dec_is k x hx
    · simpa using hc
  have hl := dec_len k 8 (by omega)
  have hn := dec_ne k
  have hz : 1 ≤ (decDigits k).length := by
    rcases Nat.eq_zero_or_pos (decDigits k).length with q | q
    · exact absurd (List.length_eq_zero_iff.1 q) hn
    · exact q
  refine ⟨?_, ?_, ?_, ?_⟩
  · unfold bad
    rw [hd]
    refine decide_eq_false ?_
    rintro (e | e | e)
    · omega
    · omega
    · rw [pc_pos h, List.append_assoc, head_app hn] at e; exact dec_head k h e
  · rw [hd, pc_pos h, List.append_assoc]; simp
  · unfold lv; rw [hd, pc_pos h, List.append_assoc, List.take_left, dec_val]
  · rw [hd, pc_pos h]; simp
theorem prt_pc {k m : Nat} {c : UInt8} (hk : k ≤ 999999999) (hm : k ≤ m) (hc : isDg c = false) (r : List UInt8) (h0 : prt r c m = (0, 0)) : prt (pc k c ++ r) c m = (k, (pc k c).length) := by
  rcases Nat.eq_zero_or_pos k with rfl | h
  · simpa [pc_zero] using h0
  · obtain ⟨a1, a2, a3, a4⟩ := at_pc h hk hc r
    rw [prt_hit a1 a2 (by omega), a3, a4]
theorem prt_not {k m : Nat} {c c' : UInt8} (hk : k ≤ 999999999) (hc : isDg c = false) (hcc : c ≠ c') (r : List UInt8) (h0 : prt r c' m = (0, 0)) : prt (pc k c ++ r) c' m = (0, 0) := by
  rcases Nat.eq_zero_or_pos k with rfl | h
  · simpa [pc_zero] using h0
  · obtain ⟨a1, a2, a3, a4⟩ := at_pc h hk hc r
    refine prt_miss ?_
    rintro ⟨e, _⟩
    rw [a2] at e
    exact hcc (Option.some.inj e)
theorem prts_read (a : Nat) (h : a ≤ 1000000) : sum (prts a) = a ∧ l3 (prts a) = [] := by
  have n1 : prt (pc (a % 60) 109) 109 59 = (a % 60, (pc (a % 60) 109).length) := by
    have := prt_pc (k := a % 60) (m := 59) (c := 109) (by omega) (by omega) (by decide) [] (prt_nil _ _)
    simpa using this
  have n2 : prt (pc (a % 60) 109) 104 23 = (0, 0) := by
    have := prt_not (k := a % 60) (m := 23) (c := 109) (c' := 104) (by omega) (by decide) (by decide) [] (prt_nil _ _)
    simpa using this
  have n3 : prt (pc (a % 60) 109) 100 999999999 = (0, 0) := by
    have := prt_not (k := a % 60) (m := 999999999) (c := 109) (c' := 100) (by omega) (by decide) (by decide) [] (prt_nil _ _)
    simpa using this
  have m1 := prt_pc (k := a % 1440 / 60) (m := 23) (c := 104) (by omega) (by omega) (by decide) _ n2
  have m2 := prt_not (k := a % 1440 / 60) (m := 999999999) (c := 104) (c' := 100) (by omega) (by decide) (by decide) _ n3
  have q := prt_pc (k := a / 1440) (m := 999999999) (c := 100) (by omega) (by omega) (by decide) _ m2
  have e1 : l1 (prts a) = pc (a % 1440 / 60) 104 ++ pc (a % 60) 109 := by unfold l1 prts; rw [q]; simp
  have e2 : l2 (prts a) = pc (a % 60) 109 := by unfold l2; rw [e1, m1]; simp
  have e3 : l3 (prts a) = [] := by unfold l3; rw [e2, n1]; simp
  refine ⟨?_, e3⟩
  unfold sum
  rw [e2, e1, n1, m1]
  unfold prts
  rw [q]
  simp only
  omega
theorem prt_inv (l : List UInt8) (c : UInt8) (m : Nat) : l = pc (prt l c m).1 c ++ l.drop (prt l c m).2 := by
  unfold prt
  split
  · rename_i h
    obtain ⟨a, b, _⟩ := h
    obtain ⟨q1, q2⟩ := List.getElem?_eq_some_iff.1 b
    show l = pc (lv l) c ++ l.drop (dcnt l + 1)
    rw [pc_pos (lv_pos a), lv_dec a]
    have e : l.drop (dcnt l) = c :: l.drop (dcnt l + 1) := by rw [List.drop_eq_getElem_cons q1, q2]
    rw [List.append_assoc, List.singleton_append, ← e, List.take_append_drop]
  · simp [pc]
theorem prts_back {l : List UInt8} (h : l3 l = []) : prts (sum l) = l := by
  have e1 := prt_inv l 100 999999999
  have e2 := prt_inv (l1 l) 104 23
  have e3 := prt_inv (l2 l) 109 59
  have b2 := prt_most (l1 l) 104 23
  have b3 := prt_most (l2 l) 109 59
  change l = pc _ 100 ++ l1 l at e1
  change l1 l = pc _ 104 ++ l2 l at e2
  change l2 l = pc _ 109 ++ l3 l at e3
  rw [h, List.append_nil] at e3
  have hs : sum l = (prt l 100 999999999).1 * 1440 + (prt (l1 l) 104 23).1 * 60 + (prt (l2 l) 109 59).1 := rfl
  have x1 : sum l / 1440 = (prt l 100 999999999).1 := by omega
  have x2 : sum l % 1440 / 60 = (prt (l1 l) 104 23).1 := by omega
  have x3 : sum l % 60 = (prt (l2 l) 109 59).1 := by omega
  unfold prts
  rw [x1, x2, x3, ← e3, ← e2, ← e1]

/-- The text of a span of so many minutes. -/
def spt (n : Int) : List UInt8 := if n = 0 then [48, 109] else (if n < 0 then [45] else []) ++ prts n.natAbs
/-- What a text tells behind its sign. -/
def unsg (l : List UInt8) : List UInt8 := if l.head? = some 45 then l.tail else l
/-- The minutes of a text, and its fault. -/
def spn (l : List UInt8) : Int × Int :=
  if l = [48, 109] then (0, 0) else
  match spOf (unsg l) with
  | none => (0, 2)
  | some n => if 1000000 < n then (0, 1) else (if l.head? = some 45 then -(n : Int) else n, 0)
theorem prts_head (a : Nat) : (prts a).head? ≠ some 45 := by
  have key : ∀ (k : Nat) (c : UInt8) (r : List UInt8), c ≠ 45 → r.head? ≠ some 45 → (pc k c ++ r).head? ≠ some 45 := by
    intro k c r _ hr
    rcases Nat.eq_zero_or_pos k with rfl | h
    · simpa [pc_zero] using hr
    · rw [pc_pos h, List.append_assoc, head_app (dec_ne k)]
      intro e
      have hm : (45 : UInt8) ∈ decDigits k := List.mem_of_mem_head? e
      have := dec_is k _ hm
      exact absurd this (by decide)
  unfold prts
  refine key _ _ _ (by decide) (key _ _ _ (by decide) ?_)
  have := key (a % 60) 109 [] (by decide) (by simp)
  simpa using this
theorem spt_read (n : Int) (h1 : -1000000 ≤ n) (h2 : n ≤ 1000000) : spn (spt n) = (n, 0) := by
  unfold spt
  by_cases h0 : n = 0
  · subst h0; rfl
  rw [if_neg h0]
  obtain ⟨r1, r2⟩ := prts_read n.natAbs (by omega)
  have hs : spOf (prts n.natAbs) = some n.natAbs := by unfold spOf; rw [r1, r2, if_pos ⟨by omega, rfl⟩]
  have hz : ∀ x : List UInt8, (x = [48, 109] → spOf (unsg x) = none) := by
    rintro x rfl; decide
  by_cases hn : n < 0
  · rw [if_pos hn]
    have hu : unsg ([45] ++ prts n.natAbs) = prts n.natAbs := by simp [unsg]
    unfold spn
    rw [if_neg (by intro e; have := hz _ e; rw [hu, hs] at this; cases this), hu, hs]
    simp only
    rw [if_neg (by omega)]
    simp; omega
  · rw [if_neg hn]
    have hu : unsg ([] ++ prts n.natAbs) = prts n.natAbs := by simp [unsg, prts_head]
    unfold spn
    rw [if_neg (by intro e; have := hz _ e; rw [hu, hs] at this; cases this), hu, hs]
    simp only
    rw [if_neg (by omega)]
    have := prts_head n.natAbs
    simp [this]; omega
theorem spn_back {l : List UInt8} {n : Int} (h : spn l = (n, 0)) : spt n = l ∧ -1000000 ≤ n ∧ n ≤ 1000000 := by
  unfold spn at h
  split at h
  · rename_i e
    have : n = 0 := by simpa using (congrArg Prod.fst h).symm
    subst this; subst e; exact ⟨rfl, by omega, by omega⟩
  · split at h
    · exact absurd (congrArg Prod.snd h) (by simp)
    · rename_i k hk
      split at h
      · exact absurd (congrArg Prod.snd h) (by simp)
      · rename_i hb
        have hn : n = if l.head? = some 45 then -(k : Int) else k := (congrArg Prod.fst h).symm
        unfold spOf at hk
        split at hk
        · rename_i g
          have hk' : sum (unsg l) = k := Option.some.inj hk
          have hp := prts_back g.2
          rw [hk'] at hp
          rw [hk'] at g
          unfold unsg at hp
          by_cases hh : l.head? = some 45
          · rw [if_pos hh] at hn hp
            refine ⟨?_, by omega, by omega⟩
            unfold spt
            rw [if_neg (by omega), if_pos (by omega), show n.natAbs = k by omega, hp]
            cases l with
            | nil => simp at hh
            | cons c l => simp at hh; simp [hh]
          · rw [if_neg hh] at hn hp
            refine ⟨?_, by omega, by omega⟩
            unfold spt
            rw [if_neg (by omega), if_neg (by omega), show n.natAbs = k by omega, hp]
            rfl
        · cases hk
end Go.Proofs.YtpplfcfhjpfckaaGreatDoor.Txt
