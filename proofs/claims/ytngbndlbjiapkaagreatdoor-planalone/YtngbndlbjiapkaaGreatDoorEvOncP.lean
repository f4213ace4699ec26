/-
  What is proved here: plain facts on an event that is once.
-/
import Derived.Test.YtngbndlbjiapkaaGreatDoorBV
namespace Go.Proofs.YtngbndlbjiapkaaGreatDoor
open Go.RowKit Cal Txt

theorem ev1_fault : evF (ev1 [97] 700) = 0 := by decide
theorem ev1_list : evL [700] (ev1 [97] 700) 1 1000 = [700] := by
  refine rise_ext2 (evL_rise _ _ _ _) (by simp) (fun x => ?_)
  rw [evL_mem]
  simp
  omega
theorem one_told : lcF [700] (ev1 [97] 700) 1 1000 = 0 := by
  rw [lcF_len ev1_fault (by decide), ev1_list]; rfl
theorem one_list : lcL [700] (ev1 [97] 700) 1 1000 = [700] := by rw [lcL_yes one_told, ev1_list]
/-- The event that is once. -/
abbrev onc (e : Evt) : Evt := ⟨e.name, e.text, e.start, e.len, false, noRl, [], e.nots, e.chg, e.alm⟩
theorem once_yes {e : Evt} {fr t : Int} (h : lcF [e.start] (onc e) fr t = 0) (h1 : e.nots.contains e.start = false) (h2 : fr ≤ e.start) (h3 : e.start ≤ t) : lcL [e.start] (onc e) fr t = [e.start] := by
  rw [lcL_yes h]
  refine rise_ext2 (evL_rise _ _ _ _) (by simp) (fun x => ?_)
  rw [evL_mem]
  have h1' : e.start ∉ e.nots := by simpa using h1
  constructor
  · rintro ⟨q | q, _⟩
    · exact q
    · cases q
  · intro q
    have q' : x = e.start := by simpa using q
    subst q'
    exact ⟨Or.inl (by simp), h1', h2, h3⟩
theorem once_no {e : Evt} {fr t : Int} (h : lcF [e.start] (onc e) fr t = 0) (h1 : e.nots.contains e.start = true ∨ e.start < fr ∨ t < e.start) : lcL [e.start] (onc e) fr t = [] := by
  rw [lcL_yes h]
  refine rise_ext2 (evL_rise _ _ _ _) List.Pairwise.nil (fun x => ?_)
  rw [evL_mem]
  constructor
  · rintro ⟨q | q, k1, k2, k3⟩
    · have q' : x = e.start := by simpa using q
      subst q'
      rcases h1 with g | g | g
      · exact absurd (by simpa using g) k1
      · omega
      · omega
    · cases q
  · intro q; cases q
end Go.Proofs.YtngbndlbjiapkaaGreatDoor
