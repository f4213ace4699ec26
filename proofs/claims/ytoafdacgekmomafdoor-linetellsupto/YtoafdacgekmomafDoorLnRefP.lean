/-
  What is proved here: plain facts on pieces: those that the document lets pass are just those that a text is folded into (no program).
-/
import Derived.Test.YtoafdacgekmomafDoorLnUnf
namespace Go.Proofs.YtoafdacgekmomafDoor
open Ln

/-- May a piece stand behind the first one? last: it is the last one. -/
def gT (q : List UInt8) (last : Prop) : Prop := q.length ≤ 40 ∧ 2 ≤ q.length ∧ q.head? = some 32 ∧ (last ∨ q.length = 40)
def tgood : List (List UInt8) → Prop
  | [] => True
  | q :: r => gT q (r = []) ∧ tgood r
theorem tgood_fr : ∀ (qs : List (List UInt8)), tgood qs → fr (qs.flatMap trim) = qs
  | [], _ => fr_nil
  | q :: r, h => by
    obtain ⟨⟨h1, h2, h3, h4⟩, h5⟩ := h
    have ih := tgood_fr r h5
    obtain ⟨q', rfl⟩ : ∃ q', q = 32 :: q' := by
      match q, h3 with
      | b :: q', h3 => simp at h3; exact ⟨q', by rw [h3]⟩
    have e : trim (32 :: q') = q' := by rw [trim_cons, if_pos rfl]
    rw [List.flatMap_cons, e]
    simp only [List.length_cons] at h1 h2 h4
    have hne : q' ++ r.flatMap trim ≠ [] := by
      intro k
      have := (List.append_eq_nil_iff.1 k).1
      rw [this] at h2; simp at h2
    rw [fr_cons hne]
    rcases h4 with rfl | h4
    · have e2 : ([] : List (List UInt8)).flatMap trim = [] := rfl
      rw [e2, List.append_nil, List.take_of_length_le (by omega), List.drop_of_length_le (by omega), fr_nil]
    · have l39 : q'.length = 39 := by omega
      have e3 : (q' ++ r.flatMap trim).take 39 = q' := by rw [← l39, List.take_left]
      have e4 : (q' ++ r.flatMap trim).drop 39 = r.flatMap trim := by rw [← l39, List.drop_left]
      rw [e3, e4, ih]
theorem fr_tgood : ∀ (n : Nat) (l : List UInt8), l.length ≤ n → tgood (fr l)
  | n, [], _ => by rw [fr_nil]; trivial
  | 0, _ :: _, h => by simp at h
  | n + 1, b :: r, h => by
    have hne : b :: r ≠ [] := by simp
    rw [fr_cons hne]
    refine ⟨⟨?_, ?_, rfl, ?_⟩, fr_tgood n _ (by rw [List.length_drop]; simp at h ⊢; omega)⟩
    · rw [List.length_cons, List.length_take]; omega
    · rw [List.length_cons, List.length_take]; simp; omega
    · rw [List.length_cons, List.length_take]
      by_cases k : (b :: r).length ≤ 39
      · left
        rw [List.drop_of_length_le k, fr_nil]
      · right; omega
/-- Are pieces such as a text is folded into? -/
def agood : List (List UInt8) → Prop
  | [] => False
  | p :: qs => p.length ≤ 40 ∧ (qs = [] ∨ p.length = 40) ∧ tgood qs
theorem agood_fold {ps : List (List UInt8)} (h : agood ps) : fold (unf ps) = ps := by
  match ps, h with
  | p :: qs, ⟨h1, h2, h3⟩ =>
    show (p ++ qs.flatMap trim).take 40 :: fr ((p ++ qs.flatMap trim).drop 40) = _
    rcases h2 with rfl | h2
    · have e2 : ([] : List (List UInt8)).flatMap trim = [] := rfl
      rw [e2, List.append_nil, List.take_of_length_le h1, List.drop_of_length_le h1, fr_nil]
    · rw [← h2, List.take_left, List.drop_left, tgood_fr qs h3]
theorem fold_agood (l : List UInt8) : agood (fold l) := by
  refine ⟨?_, ?_, fr_tgood _ _ (Nat.le_refl _)⟩
  · rw [List.length_take]; omega
  · rw [List.length_take]
    by_cases k : l.length ≤ 40
    · left; rw [List.drop_of_length_le k, fr_nil]
    · right; omega
theorem unB_agood (xs : List ByteArray) : unB xs = true ↔ agood (pcl xs) := by
  unfold unB
  rw [decide_eq_true_iff]
  constructor
  · intro h; rw [← h]; exact fold_agood _
  · exact agood_fold
/-- May the j-th of n pieces stand there? -/
def gd (n j : Nat) (p : List UInt8) : Prop := p.length ≤ 40 ∧ (j + 1 = n ∨ p.length = 40) ∧ (j = 0 ∨ 2 ≤ p.length ∧ p.head? = some 32)
theorem tgood_iff : ∀ (qs : List (List UInt8)), tgood qs ↔ ∀ j (hj : j < qs.length), gT qs[j] (j + 1 = qs.length)
  | [] => ⟨fun _ j hj => by simp at hj, fun _ => trivial⟩
  | q :: r => by
    constructor
    · rintro ⟨h1, h2⟩ j hj
      cases j with
      | zero =>
        refine ⟨h1.1, h1.2.1, h1.2.2.1, ?_⟩
        rcases h1.2.2.2 with k | k
        · left; rw [k]; rfl
        · right; exact k
      | succ j =>
        have := (tgood_iff r).1 h2 j (by simpa using hj)
        rw [List.getElem_cons_succ]
        refine ⟨this.1, this.2.1, this.2.2.1, ?_⟩
        rcases this.2.2.2 with k | k
        · left; simp; omega
        · right; exact k
    · intro h
      refine ⟨?_, (tgood_iff r).2 fun j hj => ?_⟩
      · have := h 0 (by simp)
        refine ⟨this.1, this.2.1, this.2.2.1, ?_⟩
        rcases this.2.2.2 with k | k
        · left; simp at k; exact k
        · right; exact k
      · have := h (j + 1) (by simpa using hj)
        rw [List.getElem_cons_succ] at this
        refine ⟨this.1, this.2.1, this.2.2.1, ?_⟩
        rcases this.2.2.2 with k | k
        · left; simp at k; omega
        · right; exact k
theorem agood_iff {ps : List (List UInt8)} (hp : 0 < ps.length) : agood ps ↔ ∀ j (hj : j < ps.length), gd ps.length j ps[j] := by
  match ps, hp with
  | p :: qs, _ =>
    constructor
    · rintro ⟨h1, h2, h3⟩ j hj
      cases j with
      | zero =>
        refine ⟨h1, ?_, Or.inl rfl⟩
        rcases h2 with k | k
        · left; rw [k]; rfl
        · right; exact k
      | succ j =>
        have := (tgood_iff qs).1 h3 j (by simpa using hj)
        rw [List.getElem_cons_succ]
        refine ⟨this.1, ?_, Or.inr ⟨this.2.1, this.2.2.1⟩⟩
        rcases this.2.2.2 with k | k
        · left; simp; omega
        · right; exact k
    · intro h
      refine ⟨?_, ?_, (tgood_iff qs).2 fun j hj => ?_⟩
      · exact (h 0 (by simp)).1
      · rcases (h 0 (by simp)).2.1 with k | k
        · left; simp at k; exact k
        · right; exact k
      · have := h (j + 1) (by simpa using hj)
        rw [List.getElem_cons_succ] at this
        rcases this.2.2 with k | k
        · omega
        · refine ⟨this.1, k.1, k.2, ?_⟩
          rcases this.2.1 with m | m
          · left; simp at m; omega
          · right; exact m
theorem unB_yes {xs : List ByteArray} (h0 : 0 < xs.length) (h : ∀ j (hj : j < (pcl xs).length), gd (pcl xs).length j (pcl xs)[j]) : unB xs = true :=
  (unB_agood xs).2 ((agood_iff (by simpa [pcl] using h0)).2 h)
theorem unB_no {xs : List ByteArray} (j : Nat) (hj : j < (pcl xs).length) (h : ¬ gd (pcl xs).length j (pcl xs)[j]) : unB xs = false := by
  rcases e : unB xs with _ | _
  · rfl
  · exact absurd ((agood_iff (by omega)).1 ((unB_agood xs).1 e) j hj) h
theorem unB_nil : unB [] = false := by
  rcases e : unB [] with _ | _
  · rfl
  · exact absurd ((unB_agood []).1 e) id
end Go.Proofs.YtoafdacgekmomafDoor
