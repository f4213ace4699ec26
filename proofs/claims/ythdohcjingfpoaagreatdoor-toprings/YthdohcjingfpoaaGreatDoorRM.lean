/-
  What is proved here: small words on lists of numbers that lie in memory behind a slice.
  What is proved here: plain facts on what is wrong with a rule, and words on a rule that lies in memory.
-/
import Derived.Test.YthdohcjingfpoaaGreatDoorLow
import Derived.Test.YthdohcjingfpoaaGreatDoorBT
namespace Go.Proofs.YthdohcjingfpoaaGreatDoor
open Go.RowKit Cal

/-- A slice reads as a list of numbers. -/
def Ints (w : World) (v : Value) (l : List Int) : Prop :=
  ∃ a cap, v = .slice a l.length cap ∧ (l = [] ∨ ∃ b off, a = some ⟨b, off, none⟩ ∧ ∀ i, i < l.length → w.cell? ⟨b, off + i, none⟩ = some (.int .i64 (l.getD i 0)))
theorem Ints.on {w w' : World} {v : Value} {l : List Int} (h : Ints w v l) (q : Below w.heap.size w w') : Ints w' v l := by
  obtain ⟨a, cap, e, hc⟩ := h
  refine ⟨a, cap, e, ?_⟩
  rcases hc with hc | ⟨b, off, ea, hc⟩
  · exact Or.inl hc
  · refine Or.inr ⟨b, off, ea, fun i hi => ?_⟩
    have k := hc i hi
    have hb : b < w.heap.size := by
      rcases Nat.lt_or_ge b w.heap.size with g | g
      · exact g
      · simp [World.cell?, Array.getElem?_eq_none g] at k
    exact (q.cell (p := ⟨b, off + i, none⟩) hb).trans k
theorem Ints.alloc {w : World} {v : Value} {l : List Int} (h : Ints w v l) (o : Obj) : Ints (w.alloc o) v l := h.on ((Below.refl _ _).alloc (Nat.le_refl _) _)
/-- Are all numbers from one to another one, and none 0? -/
def inB (lo hi : Int) (l : List Int) : Bool := l.all fun x => decide (¬ x = 0 ∧ lo ≤ x ∧ x ≤ hi)
theorem inB_iff {lo hi : Int} {l : List Int} : inB lo hi l = true ↔ ∀ j, j < l.length → ¬ l.getD j 0 = 0 ∧ lo ≤ l.getD j 0 ∧ l.getD j 0 ≤ hi := by
  unfold inB
  rw [List.all_eq_true]
  constructor
  · intro h j hj
    have := h (l[j]) (List.getElem_mem hj)
    rw [List.getD_eq_getElem?_getD, List.getElem?_eq_getElem hj]
    simpa using this
  · intro h x hx
    obtain ⟨j, hj, rfl⟩ := List.getElem_of_mem hx
    have := h j hj
    rw [List.getD_eq_getElem?_getD, List.getElem?_eq_getElem hj] at this
    simpa using this
theorem inB_not {lo hi : Int} {l : List Int} (j : Nat) (hj : j < l.length) (h : ¬ (¬ l.getD j 0 = 0 ∧ lo ≤ l.getD j 0 ∧ l.getD j 0 ≤ hi)) : inB lo hi l = false := by
  rcases e : inB lo hi l with _ | _
  · rfl
  · exact absurd (inB_iff.1 e j hj) h
/-- Is each number above the one ahead? -/
def risB (l : List Int) : Bool := (List.range (l.length - 1)).all fun i => decide (l.getD i 0 < l.getD (i + 1) 0)
theorem risB_iff {l : List Int} : risB l = true ↔ ∀ j, j + 1 < l.length → l.getD j 0 < l.getD (j + 1) 0 := by
  unfold risB
  rw [List.all_eq_true]
  constructor
  · intro h j hj
    have := h j (List.mem_range.2 (by omega))
    exact of_decide_eq_true this
  · intro h j hj
    exact decide_eq_true (h j (by have := List.mem_range.1 hj; omega))
theorem risB_not {l : List Int} (j : Nat) (hj : j + 1 < l.length) (h : ¬ l.getD j 0 < l.getD (j + 1) 0) : risB l = false := by
  rcases e : risB l with _ | _
  · rfl
  · exact absurd (risB_iff.1 e j hj) h
end Go.Proofs.YthdohcjingfpoaaGreatDoor
namespace Go.Proofs.YthdohcjingfpoaaGreatDoor
open Go.RowKit Cal Txt

/-- A slice reads as a list of weekdays. -/
def Nths (w : World) (v : Value) (l : List (Int × Int)) : Prop :=
  ∃ a cap, v = .slice a l.length cap ∧ (l = [] ∨ ∃ b off, a = some ⟨b, off, none⟩ ∧ ∀ i, i < l.length → w.cell? ⟨b, off + i * 2, none⟩ = some (.int .i64 (l.getD i (0, 0)).1) ∧ w.cell? ⟨b, off + i * 2 + 1, none⟩ = some (.int .i64 (l.getD i (0, 0)).2))
theorem Nths.on {w w' : World} {v : Value} {l : List (Int × Int)} (h : Nths w v l) (q : Below w.heap.size w w') : Nths w' v l := by
  obtain ⟨a, cap, e, hc⟩ := h
  refine ⟨a, cap, e, ?_⟩
  rcases hc with hc | ⟨b, off, ea, hc⟩
  · exact Or.inl hc
  · refine Or.inr ⟨b, off, ea, fun i hi => ?_⟩
    have k := hc i hi
    have hb : b < w.heap.size := by
      rcases Nat.lt_or_ge b w.heap.size with g | g
      · exact g
      · simp [World.cell?, Array.getElem?_eq_none g] at k
    exact ⟨(q.cell (p := ⟨b, off + i * 2, none⟩) hb).trans k.1, (q.cell (p := ⟨b, off + i * 2 + 1, none⟩) hb).trans k.2⟩
/-- A rule's cells lie in a block. -/
def RBox (W : World) (b : Nat) (f e c u : Int) (vm vd vw vp : Value) : Prop :=
  W.cell? ⟨b, 0, none⟩ = some (.int .i64 f) ∧ W.cell? ⟨b, 1, none⟩ = some (.int .i64 e) ∧ W.cell? ⟨b, 2, none⟩ = some (.int .i64 c) ∧ W.cell? ⟨b, 3, none⟩ = some (.int .i64 u) ∧
  W.cell? ⟨b, 4, none⟩ = some vm ∧ W.cell? ⟨b, 5, none⟩ = some vd ∧ W.cell? ⟨b, 6, none⟩ = some vw ∧ W.cell? ⟨b, 7, none⟩ = some vp
theorem RBox.lt {W : World} {b : Nat} {f e c u : Int} {vm vd vw vp : Value} (h : RBox W b f e c u vm vd vw vp) : b < W.heap.size := by
  have k := h.1
  rcases Nat.lt_or_ge b W.heap.size with q | q
  · exact q
  · simp [World.cell?, Array.getElem?_eq_none q] at k
theorem RBox.on {W W' : World} {b : Nat} {f e c u : Int} {vm vd vw vp : Value} (h : RBox W b f e c u vm vd vw vp) (q : Below W.heap.size W W') : RBox W' b f e c u vm vd vw vp := by
  have l := h.lt
  obtain ⟨h0, h1, h2, h3, h4, h5, h6, h7⟩ := h
  exact ⟨(q.cell (p := ⟨b, 0, none⟩) l).trans h0, (q.cell (p := ⟨b, 1, none⟩) l).trans h1, (q.cell (p := ⟨b, 2, none⟩) l).trans h2, (q.cell (p := ⟨b, 3, none⟩) l).trans h3,
    (q.cell (p := ⟨b, 4, none⟩) l).trans h4, (q.cell (p := ⟨b, 5, none⟩) l).trans h5, (q.cell (p := ⟨b, 6, none⟩) l).trans h6, (q.cell (p := ⟨b, 7, none⟩) l).trans h7⟩
theorem RBox.new (W : World) (f e c u : Int) (vm vd vw vp : Value) (t : TypeId) : RBox (W.alloc (.cells #[.int .i64 f, .int .i64 e, .int .i64 c, .int .i64 u, vm, vd, vw, vp] t)) W.heap.size f e c u vm vd vw vp :=
  ⟨by simp, by simp, by simp, by simp, by simp, by simp, by simp, by simp⟩

/-! What is wrong with a rule. -/
/-- The numbers by themselves. -/
def ok1 (r : Rl) : Bool := decide ((1 ≤ r.freq ∧ r.freq ≤ 4) ∧ (1 ≤ r.every ∧ r.every ≤ 50) ∧ (0 ≤ r.count ∧ r.count ≤ 200) ∧ (0 ≤ r.till ∧ r.till ≤ 109573))
/-- How long the lists are. -/
def ok2 (r : Rl) : Bool := decide (r.months.length ≤ 12 ∧ r.days.length ≤ 31 ∧ r.weeks.length ≤ 20 ∧ r.pick.length ≤ 20)
def ok3 (r : Rl) : Bool := inB 1 12 r.months && inB (-31) 31 r.days && inB (-31) 31 r.pick
/-- Each weekday by itself. -/
def wkB (l : List (Int × Int)) : Bool := l.all fun x => decide (1 ≤ x.2 ∧ x.2 ≤ 7 ∧ -5 ≤ x.1 ∧ x.1 ≤ 5)
/-- Has one a number? -/
def anyN (l : List (Int × Int)) : Bool := l.any fun x => decide (¬ x.1 = 0)
/-- One weekday is ahead of another. -/
def wlt (a b : Int × Int) : Prop := a.2 < b.2 ∨ (a.2 = b.2 ∧ a.1 < b.1)
def wriB (l : List (Int × Int)) : Bool := (List.range (l.length - 1)).all fun i => decide ((l.getD i (0, 0)).2 < (l.getD (i + 1) (0, 0)).2 ∨ ((l.getD i (0, 0)).2 = (l.getD (i + 1) (0, 0)).2 ∧ (l.getD i (0, 0)).1 < (l.getD (i + 1) (0, 0)).1))
def ok4 (r : Rl) : Bool := (risB r.months && wriB r.weeks) && risB r.days && risB r.pick
theorem wkB_iff {l : List (Int × Int)} : wkB l = true ↔ ∀ j, j < l.length → 1 ≤ (l.getD j (0, 0)).2 ∧ (l.getD j (0, 0)).2 ≤ 7 ∧ -5 ≤ (l.getD j (0, 0)).1 ∧ (l.getD j (0, 0)).1 ≤ 5 := by
  unfold wkB
  rw [List.all_eq_true]
  constructor
  · intro h j hj
    have := h (l[j]) (List.getElem_mem hj)
    rw [List.getD_eq_getElem?_getD, List.getElem?_eq_getElem hj]
    exact of_decide_eq_true this
  · intro h x hx
    obtain ⟨j, hj, rfl⟩ := List.getElem_of_mem hx
    have := h j hj
    rw [List.getD_eq_getElem?_getD, List.getElem?_eq_getElem hj] at this
    exact decide_eq_true this
theorem wriB_iff {l : List (Int × Int)} : wriB l = true ↔ ∀ j, j + 1 < l.length → wlt (l.getD j (0, 0)) (l.getD (j + 1) (0, 0)) := by
  unfold wriB wlt
  rw [List.all_eq_true]
  constructor
  · intro h j hj
    exact of_decide_eq_true (h j (List.mem_range.2 (by omega)))
  · intro h j hj
    exact decide_eq_true (h j (by have := List.mem_range.1 hj; omega))
theorem anyN_take (l : List (Int × Int)) (k : Nat) (h : k < l.length) : anyN (l.take (k + 1)) = (anyN (l.take k) || decide (¬ (l.getD k (0, 0)).1 = 0)) := by
  rw [List.take_succ_eq_append_getElem h, List.getD_eq_getElem?_getD, List.getElem?_eq_getElem h]
  unfold anyN
  rw [List.any_append, List.any_cons, List.any_nil, Bool.or_false]; rfl
/-- What does not go together, as a test. -/
def oddB (r : Rl) : Bool := (anyN r.weeks && decide (r.freq ≤ 2)) || (decide (0 < r.days.length) && decide (r.freq = 2)) || (decide (r.freq = 4) && decide (r.months.length = 0) && decide (0 < r.days.length + r.weeks.length)) || (decide (0 < r.pick.length) && decide (r.months.length + r.days.length + r.weeks.length = 0))
/-- What is wrong with a rule; 0: nothing. -/
def rf (r : Rl) : Int := if ok1 r = false then 1 else if ¬ r.count = 0 ∧ ¬ r.till = 0 then 3 else if ok2 r = false then 4 else if ok3 r = false then 1 else if wkB r.weeks = false then 1 else if ok4 r = false then 7 else if oddB r = true then 3 else 0
/-- A rule's value, and what lies behind it. -/
def RuleIn (w : World) (v : Value) (r : Rl) : Prop :=
  ∃ vm vd vw vp, v = .agg #[.int .i64 r.freq, .int .i64 r.every, .int .i64 r.count, .int .i64 r.till, vm, vd, vw, vp] ∧ Ints w vm r.months ∧ Ints w vd r.days ∧ Nths w vw r.weeks ∧ Ints w vp r.pick
theorem RuleIn.on {w w' : World} {v : Value} {r : Rl} (h : RuleIn w v r) (q : Below w.heap.size w w') : RuleIn w' v r := by
  obtain ⟨vm, vd, vw, vp, e, a, b, c, d⟩ := h
  exact ⟨vm, vd, vw, vp, e, a.on q, b.on q, c.on q, d.on q⟩
end Go.Proofs.YthdohcjingfpoaaGreatDoor
