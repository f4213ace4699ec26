/-
  What is proved here: plain facts on the times of an event: which they are, that they rise.
-/
import Derived.Test.YtkmmncebekcegaaGreatDoorEvLow
import Derived.Lib.SlicesCompact
namespace Go.Proofs.YtkmmncebekcegaaGreatDoor
open Go.RowKit Cal Txt

theorem cmp_inv (d : Array Int) (hs : ∀ i j, i ≤ j → j < d.size → d[i]! ≤ d[j]!) : ∀ m, m ≤ d.size → (Lib.compactUpTo d m).Pairwise (· < ·) ∧ ∀ x, x ∈ Lib.compactUpTo d m ↔ ∃ j, j < m ∧ d[j]! = x
  | 0, _ => ⟨List.Pairwise.nil, fun x => by simp [Lib.compactUpTo]⟩
  | m + 1, h => by
    obtain ⟨a, b⟩ := cmp_inv d hs m (by omega)
    rw [Lib.compactUpTo_succ]
    rcases hk : Lib.keeps d m with _ | _
    · have hk' : ¬ (m = 0 ∨ d[m]! ≠ d[m - 1]!) := of_decide_eq_false hk
      have h1 : ¬ m = 0 := fun q => hk' (Or.inl q)
      have h2 : d[m]! = d[m - 1]! := Decidable.byContradiction (fun q => hk' (Or.inr q))
      rw [if_neg (by decide), List.append_nil]
      refine ⟨a, fun x => (b x).trans ⟨fun ⟨j, q, e⟩ => ⟨j, by omega, e⟩, fun ⟨j, q, e⟩ => ?_⟩⟩
      rcases Nat.lt_or_ge j m with g | g
      · exact ⟨j, g, e⟩
      · obtain rfl : j = m := by omega
        exact ⟨j - 1, by omega, by rw [← h2]; exact e⟩
    · have hk' : m = 0 ∨ d[m]! ≠ d[m - 1]! := of_decide_eq_true hk
      rw [if_pos rfl]
      refine ⟨List.pairwise_append.2 ⟨a, List.pairwise_singleton _ _, fun x hx y hy => ?_⟩, fun x => ?_⟩
      · obtain ⟨j, q, e⟩ := (b x).1 hx
        have ey : y = d[m]! := by simpa using hy
        rw [ey, ← e]
        have l1 := hs j (m - 1) (by omega) (by omega)
        have l2 := hs (m - 1) m (by omega) (by omega)
        rcases hk' with z | z
        · omega
        · omega
      · rw [List.mem_append, b x]
        constructor
        · rintro (⟨j, q, e⟩ | q)
          · exact ⟨j, by omega, e⟩
          · exact ⟨m, by omega, by simpa [eq_comm] using q⟩
        · rintro ⟨j, q, e⟩
          rcases Nat.lt_or_ge j m with g | g
          · exact Or.inl ⟨j, g, e⟩
          · obtain rfl : j = m := by omega
            exact Or.inr (by simp [e])
theorem cmp_list (l : List Int) (hs : l.Pairwise (· ≤ ·)) : (Lib.compact l).Pairwise (· < ·) ∧ ∀ x, x ∈ Lib.compact l ↔ x ∈ l := by
  have hg : ∀ i, i < l.length → l.toArray[i]! = l.getD i 0 := fun i hi => by
    rw [getElem!_pos _ i (by simpa using hi), List.getD_eq_getElem?_getD, List.getElem?_eq_getElem hi]; simp
  have k := cmp_inv l.toArray (fun i j hij hj => by
    have hj' : j < l.length := by simpa using hj
    rw [hg i (by omega), hg j hj']
    rcases Nat.eq_or_lt_of_le hij with q | q
    · rw [q]; exact Int.le_refl _
    · have := List.pairwise_iff_getElem.1 hs i j (by omega) hj' q
      rw [List.getD_eq_getElem?_getD, List.getElem?_eq_getElem (by omega), List.getD_eq_getElem?_getD, List.getElem?_eq_getElem hj']
      exact this) l.length (by simp)
  refine ⟨k.1, fun x => (k.2 x).trans ⟨fun ⟨j, hj, e⟩ => ?_, fun hx => ?_⟩⟩
  · rw [hg j hj] at e
    rw [← e, List.getD_eq_getElem?_getD, List.getElem?_eq_getElem hj]
    exact List.getElem_mem hj
  · obtain ⟨j, hj, e⟩ := List.getElem_of_mem hx
    exact ⟨j, hj, by rw [hg j hj, List.getD_eq_getElem?_getD, List.getElem?_eq_getElem hj]; exact e⟩
/-- Is a number none that is told? -/
def outB (e : Evt) (fr t x : Int) : Bool := e.nots.contains x || !decide (fr ≤ x ∧ x ≤ t)
/-- The times, out of those of Start. -/
def evL (l : List Int) (e : Evt) (fr t : Int) : List Int := Lib.compact (((l ++ e.more).filter (fun x => !outB e fr t x)).mergeSort (fun x y => decide (x ≤ y)))
theorem srt_le (l : List Int) : (l.mergeSort (fun x y => decide (x ≤ y))).Pairwise (· ≤ ·) := by
  have := List.pairwise_mergeSort (le := fun x y : Int => decide (x ≤ y)) (fun a b c h k => by simp at *; omega) (fun a b => by simp; omega) l
  exact this.imp (fun h => by simpa using h)
theorem evL_rise (l : List Int) (e : Evt) (fr t : Int) : (evL l e fr t).Pairwise (· < ·) := (cmp_list _ (srt_le _)).1
theorem evL_mem {l : List Int} {e : Evt} {fr t x : Int} : x ∈ evL l e fr t ↔ (x ∈ l ∨ x ∈ e.more) ∧ x ∉ e.nots ∧ fr ≤ x ∧ x ≤ t := by
  unfold evL
  rw [(cmp_list _ (srt_le _)).2, List.mem_mergeSort, List.mem_filter, List.mem_append]
  unfold outB
  simp
/-- Two lists that rise and hold the same are the same. -/
theorem rise_ext2 : ∀ {a b : List Int}, a.Pairwise (· < ·) → b.Pairwise (· < ·) → (∀ x, x ∈ a ↔ x ∈ b) → a = b
  | [], [], _, _, _ => rfl
  | [], y :: b, _, _, h => by have := (h y).2 (by simp); cases this
  | x :: a, [], _, _, h => by have := (h x).1 (by simp); cases this
  | x :: a, y :: b, ha, hb, h => by
    obtain ⟨h1, h2⟩ := List.pairwise_cons.1 ha
    obtain ⟨k1, k2⟩ := List.pairwise_cons.1 hb
    have e : x = y := by
      rcases List.mem_cons.1 ((h x).1 (by simp)) with q | q
      · exact q
      · rcases List.mem_cons.1 ((h y).2 (by simp)) with z | z
        · exact z.symm
        · have := k1 x q; have := h1 y z; omega
    subst e
    rw [rise_ext2 h2 k2 (fun z => ⟨fun hz => ?_, fun hz => ?_⟩)]
    · rcases List.mem_cons.1 ((h z).1 (List.mem_cons_of_mem _ hz)) with q | q
      · have := h1 z hz; omega
      · exact q
    · rcases List.mem_cons.1 ((h z).2 (List.mem_cons_of_mem _ hz)) with q | q
      · have := k1 z hz; omega
      · exact q
end Go.Proofs.YtkmmncebekcegaaGreatDoor
