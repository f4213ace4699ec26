/-
  What is proved here: plain facts on what is due by a time and what is not.
-/
import Derived.Test.YtpnbnnndpbjgmaaDoorWhInv
namespace Go.Proofs.YtpnbnnndpbjgmaaDoor.Qu
open Go.RowKit

/-- By its time alone. -/
theorem oc_at {x y : Rq} (h : x.1 < y.1) : oc x y < 0 := by
  unfold oc
  have e : cmi x.1 y.1 = -1 := if_pos h
  simp only [orL, e]
  rw [if_neg (by decide)]
  decide
theorem due_split {M : List Rq} (h : Rs M) (t : Int) : dueQ M t ++ laterQ M t = M := by
  refine rs_ext ?_ h (fun z => ?_)
  · unfold Rs
    rw [List.pairwise_append]
    refine ⟨dueQ_rs h, laterQ_rs h, fun x hx y hy => oc_at ?_⟩
    have := (dueQ_mem.1 hx).2
    have := (laterQ_mem.1 hy).2
    omega
  · rw [List.mem_append, dueQ_mem, laterQ_mem]
    constructor
    · rintro (q | q)
      · exact q.1
      · exact q.1
    · intro q
      rcases Int.lt_or_le t z.1 with r | r
      · exact Or.inr ⟨q, r⟩
      · exact Or.inl ⟨q, r⟩
theorem later_later {M : List Rq} {t t' : Int} (h : t ≤ t') : laterQ (laterQ M t) t' = laterQ M t' := by
  unfold laterQ
  rw [List.filter_filter]
  apply List.filter_congr
  intro z _
  rw [Bool.eq_iff_iff, Bool.and_eq_true, decide_eq_true_iff, decide_eq_true_iff]
  omega
theorem due_due {M : List Rq} (hM : Rs M) {t t' : Int} (h : t ≤ t') : dueQ M t ++ dueQ (laterQ M t) t' = dueQ M t' := by
  refine rs_ext ?_ (dueQ_rs hM) (fun z => ?_)
  · unfold Rs
    rw [List.pairwise_append]
    refine ⟨dueQ_rs hM, dueQ_rs (laterQ_rs hM), fun x hx y hy => oc_at ?_⟩
    have := (dueQ_mem.1 hx).2
    have := (laterQ_mem.1 (dueQ_mem.1 hy).1).2
    omega
  · rw [List.mem_append, dueQ_mem, dueQ_mem, dueQ_mem, laterQ_mem]
    constructor
    · rintro (q | q)
      · exact ⟨q.1, by omega⟩
      · exact ⟨q.1.1, q.2⟩
    · intro q
      rcases Int.lt_or_le t z.1 with r | r
      · exact Or.inr ⟨⟨q.1, r⟩, q.2⟩
      · exact Or.inl ⟨q.1, r⟩
theorem due_none {M : List Rq} {t : Int} (h : ∀ z, z ∈ M → t < z.1) : dueQ M t = [] ∧ laterQ M t = M := by
  constructor
  · unfold dueQ
    rw [List.filter_eq_nil_iff]
    intro z hz
    have := h z hz
    simp
    omega
  · unfold laterQ
    rw [List.filter_eq_self]
    intro z hz
    exact decide_eq_true (h z hz)
theorem Wl.above {w : World} {b : Nat} {S : Nat → Value} {now : Int} {M : List Rq} (h : Wl w b S now M) : ∀ z, z ∈ M → now < z.1 := fun z hz => by
  obtain ⟨R, _, h2⟩ := h
  exact (h2.in_ hz).1
end Go.Proofs.YtpnbnnndpbjgmaaDoor.Qu
