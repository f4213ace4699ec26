/-
  What is proved here: plain facts on what is put into and taken out of a rising list of rings; small words on rings that lie in blocks of their own.
-/
import Derived.Test.YtpnbnnndpbjgmaaDoorQuFnd
namespace Go.Proofs.YtpnbnnndpbjgmaaDoor.Qu
open Go.RowKit

theorem own_on {w w' : World} {n0 : Nat} {v : Value} {M : List Rq} (h : Ow w n0 v M) (q : ∀ k, v.ownBlock = some k → w'.heap[k]? = w.heap[k]?) : Ow w' n0 v M := by
  refine ⟨h.1, ?_⟩
  rcases h.2 with h2 | ⟨g, cap, cur, hv, hb, hg, hr⟩
  · exact Or.inl h2
  · exact Or.inr ⟨g, cap, cur, hv, hb, (q g (by rw [hv]; rfl)).trans hg, hr⟩
/-- What is left where a ring is dropped. -/
def drp (M : List Rq) (r : Rq) : List Rq := M.filter (fun x => !decide (oc x r = 0))
theorem drp_mem {M : List Rq} {r z : Rq} : z ∈ drp M r ↔ z ∈ M ∧ z ≠ r := by
  unfold drp
  rw [List.mem_filter]
  simp only [Bool.not_eq_true', decide_eq_false_iff_not, oc_cm.eq, ne_eq]
theorem drp_rs {M : List Rq} {r : Rq} (h : Rs M) : Rs (drp M r) := List.Pairwise.sublist List.filter_sublist h
theorem drp_del {M : List Rq} {r : Rq} {p : Nat} (h : Rs M) (hf : Fnd M r p) (hr : r ∈ M) : p < M.length ∧ del M p = drp M r := by
  have k := (hf.there h).1 hr
  have e := (oc_cm.eq _ _).1 k.2
  refine ⟨k.1, rs_ext (del_rs h) (drp_rs h) (fun z => ?_)⟩
  rw [del_mem h k.1, drp_mem, e]
theorem drp_none {M : List Rq} {r : Rq} (h : Rs M) (hr : r ∉ M) : drp M r = M :=
  rs_ext (drp_rs h) h (fun z => by
    rw [drp_mem]
    exact ⟨fun q => q.1, fun q => ⟨q, fun e => hr (by rw [← e]; exact q)⟩⟩)
/-- What there is where a ring is put in. -/
def put (M : List Rq) (r : Rq) : List Rq := M.filter (fun x => decide (oc x r < 0)) ++ r :: M.filter (fun x => decide (0 < oc x r))
theorem put_mem {M : List Rq} {r z : Rq} (hr : r ∉ M) : z ∈ put M r ↔ z ∈ M ∨ z = r := by
  unfold put
  simp only [List.mem_append, List.mem_cons, List.mem_filter, decide_eq_true_eq]
  constructor
  · rintro (h | h | h)
    · exact Or.inl h.1
    · exact Or.inr h
    · exact Or.inl h.1
  · rintro (h | h)
    · rcases (by omega : oc z r < 0 ∨ oc z r = 0 ∨ 0 < oc z r) with q | q | q
      · exact Or.inl ⟨h, q⟩
      · exact absurd (by rw [← (oc_cm.eq _ _).1 q]; exact h) hr
      · exact Or.inr (Or.inr ⟨h, q⟩)
    · exact Or.inr (Or.inl h)
theorem put_rs {M : List Rq} {r : Rq} (h : Rs M) : Rs (put M r) := by
  unfold put Rs
  rw [List.pairwise_append]
  refine ⟨List.Pairwise.sublist List.filter_sublist h, ?_, ?_⟩
  · rw [List.pairwise_cons]
    refine ⟨fun y hy => ?_, List.Pairwise.sublist List.filter_sublist h⟩
    have := (List.mem_filter.1 hy).2
    exact (oc_cm.anti r y).2 (of_decide_eq_true this)
  · intro x hx y hy
    have hx' := of_decide_eq_true (List.mem_filter.1 hx).2
    rcases List.mem_cons.1 hy with rfl | hy
    · exact hx'
    · have hy' := of_decide_eq_true (List.mem_filter.1 hy).2
      exact oc_cm.tr _ _ _ hx' ((oc_cm.anti r y).2 hy')
theorem put_ins {M : List Rq} {r : Rq} {p : Nat} (h : Rs M) (hf : Fnd M r p) (hr : r ∉ M) : ins M p r = put M r :=
  rs_ext (ins_rs hf h hr) (put_rs h) (fun z => by rw [ins_mem, put_mem hr])
theorem put_len {M : List Rq} {r : Rq} {p : Nat} (h : Rs M) (hf : Fnd M r p) (hr : r ∉ M) : (put M r).length = M.length + 1 := by rw [← put_ins h hf hr, ins_len hf.le]
/-- What Drop tells. -/
def df (M : List Rq) (r : Rq) : Int := if hasQ M r = true then 0 else 5
theorem Lies.on {w w' : World} {k : Nat} {L : List Value} (h : Lies w k L) (q : Below w.heap.size w w') : Lies w' k L := (q.block k h.lt).trans h
theorem Lies.box {w : World} {k : Nat} {x : Rq} (h : Lies w k (encQ x)) : QBx w k x := ⟨h.cell rfl, h.cell rfl, h.cell rfl, h.cell rfl, h.cell rfl⟩
theorem below_alloc (w : World) (o : Obj) : Below w.heap.size w (w.alloc o) := (Below.refl _ _).alloc (Nat.le_refl _) _
/-- A ring is laid into a block that may be written. -/
theorem ring_store {ops : Array Oper} {rest : List Oper} {op : Oper} {a : Act} {W : World} {Q : Exit → Act → World → Prop} (hgd : op.guard = none) (x y : Operand) (ho : op.op = .store 34 x y) (b : Nat) (r : Rq) (hx : a.eval x = .pointer (some ⟨b, 0, none⟩)) (hy : a.eval y = agQ r) (L : List Value) (hL : L.length = 5) (ht : Lies W b L)
    (h : ∀ W', Hid (W' = W.setRow b (encQ r).toArray) → QBx W' b r → wpList Tryd.prog ops Q rest (a.put op.dst undef) W') : wpList Tryd.prog ops Q (op :: rest) a W := by
  refine wpList_store_row hgd 34 x y ho b (encQ r).toArray hx hy 34 L.toArray ht (by kernel_rfl) (by simpa [encQ_len] using hL) (all_oneCell_toArray (encQ_one r)) ?_
  have q := ht.set (encQ r)
  exact h _ (Lib.hid rfl) ⟨q.cell rfl, q.cell rfl, q.cell rfl, q.cell rfl, q.cell rfl⟩
end Go.Proofs.YtpnbnnndpbjgmaaDoor.Qu
