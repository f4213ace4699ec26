/-
  What is proved here: what package queue's Drop and Push answer, and what they keep (contracts over the translation).
-/
import Derived.Test.YtkdmdkjkabfiaaaDoorQuOps2
namespace Go.Proofs.YtkdmdkjkabfiaaaDoor.Qu
open Go.RowKit

/-- What a change of the rings leaves. -/
def PsA (b : Nat) (v : Value) (w : World) (f : Int) (N : List Rq) (e : Ending) (w' : World) : Prop := e = .returned (fault f) ∧ ∃ v' M', Qs w' b v' M' ∧ Kp b v v' w w' ∧ M' = N
/-- What is left where a ring is dropped. -/
def drp (M : List Rq) (r : Rq) : List Rq := M.filter (fun x => !decide (oc x r = 0))
theorem drp_mem {M : List Rq} {r z : Rq} : z ∈ drp M r ↔ z ∈ M ∧ z ≠ r := by
  unfold drp
  rw [List.mem_filter]
  simp only [Bool.not_eq_true', decide_eq_false_iff_not, oc_cm.eq, ne_eq]
theorem drp_rs {M : List Rq} {r : Rq} (h : Rs M) : Rs (drp M r) := List.Pairwise.sublist List.filter_sublist h
theorem drp_del {M : List Rq} {r : Rq} {p : Nat} (h : Rs M) (hf : Fnd M r p) (hr : r ∈ M) : p < M.length ∧ del M p = drp M r := by
  have k := (hf.there h).1 hr
  have e := (oc_cm.eq _ _).1 k.2
  refine ⟨k.1, rs_ext (del_rs h) (drp_rs h) (fun z => ?_)⟩
  rw [del_mem h k.1, drp_mem, e]
theorem drp_none {M : List Rq} {r : Rq} (h : Rs M) (hr : r ∉ M) : drp M r = M :=
  rs_ext (drp_rs h) h (fun z => by
    rw [drp_mem]
    exact ⟨fun q => q.1, fun q => ⟨q, fun e => hr (by rw [← e]; exact q)⟩⟩)
/-- What there is where a ring is put in. -/
def put (M : List Rq) (r : Rq) : List Rq := M.filter (fun x => decide (oc x r < 0)) ++ r :: M.filter (fun x => decide (0 < oc x r))
theorem put_mem {M : List Rq} {r z : Rq} (hr : r ∉ M) : z ∈ put M r ↔ z ∈ M ∨ z = r := by
  unfold put
  simp only [List.mem_append, List.mem_cons, List.mem_filter, decide_eq_true_eq]
  constructor
  · rintro (h | h | h)
    · exact Or.inl h.1
    · exact Or.inr h
    · exact Or.inl h.1
  · rintro (h | h)
    · rcases (by omega : oc z r < 0 ∨ oc z r = 0 ∨ 0 < oc z r) with q | q | q
      · exact Or.inl ⟨h, q⟩
      · exact absurd (by rw [← (oc_cm.eq _ _).1 q]; exact h) hr
      · exact Or.inr (Or.inr ⟨h, q⟩)
    · exact Or.inr (Or.inl h)
theorem put_rs {M : List Rq} {r : Rq} (h : Rs M) : Rs (put M r) := by
  unfold put Rs
  rw [List.pairwise_append]
  refine ⟨List.Pairwise.sublist List.filter_sublist h, ?_, ?_⟩
  · rw [List.pairwise_cons]
    refine ⟨fun y hy => ?_, List.Pairwise.sublist List.filter_sublist h⟩
    have := (List.mem_filter.1 hy).2
    exact (oc_cm.anti r y).2 (of_decide_eq_true this)
  · intro x hx y hy
    have hx' := of_decide_eq_true (List.mem_filter.1 hx).2
    rcases List.mem_cons.1 hy with rfl | hy
    · exact hx'
    · have hy' := of_decide_eq_true (List.mem_filter.1 hy).2
      exact oc_cm.tr _ _ _ hx' ((oc_cm.anti r y).2 hy')
theorem put_ins {M : List Rq} {r : Rq} {p : Nat} (h : Rs M) (hf : Fnd M r p) (hr : r ∉ M) : ins M p r = put M r :=
  rs_ext (ins_rs hf h hr) (put_rs h) (fun z => by rw [ins_mem, put_mem hr])
theorem put_len {M : List Rq} {r : Rq} {p : Nat} (h : Rs M) (hf : Fnd M r p) (hr : r ∉ M) : (put M r).length = M.length + 1 := by rw [← put_ins h hf hr, ins_len hf.le]
/-- What Drop tells. -/
def df (M : List Rq) (r : Rq) : Int := if hasQ M r = true then 0 else 5
theorem drop_any (w : World) (b : Nat) (v : Value) (M : List Rq) (r : Rq) (h : Qs w b v M) (hM : Rs M) (hl : M.length ≤ 1000000) :
    Calls Tryd.prog 15 #[.pointer (some ⟨b, 0, none⟩), agQ r] w (PsA b v w (df M r) (drp M r)) := by
  obtain ⟨W0, hW0⟩ : ∃ W0, W0 = w.alloc (.cells #[.int .i64 r.1, .string r.2.1, .int .i64 r.2.2.1, .int .i64 r.2.2.2.1, .int .i64 r.2.2.2.2] 26) := ⟨_, rfl⟩
  have b0 : Below w.heap.size w W0 := by rw [hW0]; exact (Below.refl _ _).alloc (Nat.le_refl _) _
  have KF : Hid (Calls Tryd.prog 20 #[.pointer (some ⟨b, 0, none⟩), agQ r] W0 (FndA M r W0)) := Lib.hid (find_any W0 b v M r (h.on b0) hM hl)
  have KR : Hid (r ∈ M → ∀ p : Nat, Fnd M r p → ∀ X, Below w.heap.size w X → Calls Tryd.prog 22 #[.pointer (some ⟨b, 0, none⟩), .int .i64 p] X fun e w' => e = .returned (.tuple #[]) ∧ Hid (PsA b v w 0 (drp M r) (.returned (fault 0)) w')) := Lib.hid (fun hr p hf X q => by
    obtain ⟨h1, h2⟩ := drp_del hM hf hr
    refine (remove_any X b v M p (h.on q) h1 hl).mono (fun e w' ⟨he, v', q1, q2⟩ => ⟨he, Lib.hid ⟨rfl, v', _, q1, (Kp.of_below q).trans q2, h2⟩⟩))
  have KN : Hid (r ∉ M → ∀ X, Below w.heap.size w X → PsA b v w 5 (drp M r) (.returned (fault 5)) X) := Lib.hid (fun hr X q => ⟨rfl, v, M, h.on q, Kp.of_below q, (drp_none hM hr).symm⟩)
  have BT : Hid (∀ X, Below W0.heap.size W0 X → Below w.heap.size w X) := Lib.hid (fun X q => b0.trans (q.mono b0.size))
  have HW := Lib.hid hW0
  have x0 : QBx W0 w.heap.size r := by rw [hW0]; exact QBx.new w r _
  obtain ⟨r1, r2, r3, r4, r5⟩ := x0
  have bl : w.heap.size < W0.heap.size := cell_in r1
  rcases hB : hasQ M r with _ | _
  · have e5 : df M r = 5 := by unfold df; rw [hB]; rfl
    have N1 := Lib.hid (KN.out (hasQ_not.1 hB))
    have HB := Lib.hid hB
    rw [e5]
    generalize PsA b v w 5 (drp M r) = PP at N1 ⊢
    clear h hM hl hW0 b0 KR KN hB e5
    go_enter Tryd.func15, Tryd.ntmps15
    go_upto_region 1 with fail
    rw [← HW.out]
    go_wp2_with (go_at_call 20; refine KF.out.mono ?_; rintro e w2 ⟨p, hf, rfl, hb⟩; rw [HB.out])
    exact N1.out _ (BT.out _ hb)
  · have e5 : df M r = 0 := by unfold df; rw [hB]; rfl
    have N1 := Lib.hid (KR.out (hasQ_iff.1 hB))
    have HB := Lib.hid hB
    rw [e5]
    generalize PsA b v w 0 (drp M r) = PP at N1 ⊢
    clear h hM hl hW0 b0 KR KN hB e5
    go_enter Tryd.func15, Tryd.ntmps15
    go_upto_region 1 with fail
    rw [← HW.out]
    go_wp2_with (first
      | (go_at_call 20; refine KF.out.mono ?_; rintro e w2 ⟨p, hf, rfl, hb⟩; rw [HB.out])
      | (go_at_call 22; refine (N1.out p hf _ (BT.out _ hb)).mono ?_; rintro e w3 ⟨rfl, FI⟩))
    exact FI.out
end Go.Proofs.YtkdmdkjkabfiaaaDoor.Qu
