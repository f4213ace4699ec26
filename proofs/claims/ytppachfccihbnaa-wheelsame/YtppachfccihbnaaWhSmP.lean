/-
  What is proved here: what WheelSame's walk carries from step to step: two wheels, a queue and a row that lie apart, and what of them a change of one keeps; plain facts on what is due.
-/
import Derived.Test.YtppachfccihbnaaWhGo
import Derived.Test.YtppachfccihbnaaQuSame
import Derived.Test.YtppachfccihbnaaQuPop
import Derived.Test.YtppachfccihbnaaQuBox
namespace Go.Proofs.Ytppachfccihbnaa.Qu
open Go.RowKit

/-- What a queue has of its own. -/
def Fq (b : Nat) (v : Value) (g : Nat) : Prop := g = b ∨ v.ownBlock = some g
theorem Kp.kf {b : Nat} {v v' : Value} {w w' : World} (h : Kp b v v' w w') : Kf (Fq b v) (Fq b v') w w' :=
  ⟨h.os, h.tape, h.output, h.size, fun k hk hF => h.block k hk (fun e => hF (Or.inl e)) (fun e => hF (Or.inr e.symm)), fun k hF => by
    rcases hF with e | e
    · exact Or.inl (Or.inl e)
    · rcases h.own k e with q | q
      · exact Or.inl (Or.inr q)
      · exact Or.inr q⟩
theorem Qs.inw {w : World} {b : Nat} {v : Value} {M : List Rq} (h : Qs w b v M) {g : Nat} (hg : Fq b v g) : b ≤ g ∧ g < w.heap.size := by
  rcases hg with rfl | e
  · exact ⟨Nat.le_refl _, h.lt⟩
  · have := h.own.lt g e
    omega
theorem Qs.onF {w w' : World} {b : Nat} {v : Value} {M : List Rq} (h : Qs w b v M) (q : ∀ g, Fq b v g → w'.heap[g]? = w.heap[g]?) : Qs w' b v M :=
  ⟨(q b (Or.inl rfl)).trans h.box, own_on h.own (fun k hk => q k (Or.inr hk))⟩
/-- Two wheels, a queue and a row, each apart from the others. -/
structure St (w : World) (ba bb bq : Nat) (Sa Sb : Nat → Value) (vq gv : Value) (ta tb : Int) (Ma Mb Mq G : List Rq) (wr : World) : Prop where
  a : Wl wr ba Sa ta Ma
  b : Wl wr bb Sb tb Mb
  q : Qs wr bq vq Mq
  g : Ow wr w.heap.size gv G
  ab : ∀ g, Ft ba Sa g → ¬ Ft bb Sb g
  aq : ∀ g, Ft ba Sa g → ¬ Fq bq vq g
  bbq : ∀ g, Ft bb Sb g → ¬ Fq bq vq g
  ga : ∀ g, gv.ownBlock = some g → ¬ Ft ba Sa g ∧ ¬ Ft bb Sb g ∧ ¬ Fq bq vq g
  na : w.heap.size ≤ ba
  nb : w.heap.size ≤ bb
  nq : w.heap.size ≤ bq
  bel : Below w.heap.size w wr
section
variable {w wr wx : World} {ba bb bq : Nat} {Sa Sb : Nat → Value} {vq gv : Value} {ta tb : Int} {Ma Mb Mq G : List Rq}
theorem St.onB (h : St w ba bb bq Sa Sb vq gv ta tb Ma Mb Mq G wr) (q : Below wr.heap.size wr wx) : St w ba bb bq Sa Sb vq gv ta tb Ma Mb Mq G wx :=
  { h with a := h.a.onB q, b := h.b.onB q, q := h.q.on q, g := own_on h.g (fun k hk => q.block k (h.g.lt k hk).2), bel := h.bel.trans (q.mono h.bel.size) }
theorem St.chA (h : St w ba bb bq Sa Sb vq gv ta tb Ma Mb Mq G wr) {S' : Nat → Value} {t' : Int} {M' : List Rq} (hw : Wl wx ba S' t' M') (k : Kf (Ft ba Sa) (Ft ba S') wr wx) : St w ba bb bq S' Sb vq gv t' tb M' Mb Mq G wx where
  a := hw
  b := h.b.on (fun g hg => k.block g (h.b.inw hg).2 (fun e => h.ab g e hg))
  q := h.q.onF (fun g hg => k.block g (h.q.inw hg).2 (fun e => h.aq g e hg))
  g := own_on h.g (fun g hg => k.block g (h.g.lt g hg).2 (h.ga g hg).1)
  ab g h1 h2 := k.apart (h.b.inw h2).2 (fun e => h.ab g e h2) h1
  aq g h1 h2 := k.apart (h.q.inw h2).2 (fun e => h.aq g e h2) h1
  bbq := h.bbq
  ga g hg := ⟨k.apart (h.g.lt g hg).2 (h.ga g hg).1, (h.ga g hg).2⟩
  na := h.na
  nb := h.nb
  nq := h.nq
  bel := h.bel.trans (k.below h.bel.size (fun _ hg => Nat.le_trans h.na (h.a.inw hg).1))
theorem St.chB (h : St w ba bb bq Sa Sb vq gv ta tb Ma Mb Mq G wr) {S' : Nat → Value} {t' : Int} {M' : List Rq} (hw : Wl wx bb S' t' M') (k : Kf (Ft bb Sb) (Ft bb S') wr wx) : St w ba bb bq Sa S' vq gv ta t' Ma M' Mq G wx where
  a := h.a.on (fun g hg => k.block g (h.a.inw hg).2 (fun e => h.ab g hg e))
  b := hw
  q := h.q.onF (fun g hg => k.block g (h.q.inw hg).2 (fun e => h.bbq g e hg))
  g := own_on h.g (fun g hg => k.block g (h.g.lt g hg).2 (h.ga g hg).2.1)
  ab g h1 h2 := k.apart (h.a.inw h1).2 (fun e => h.ab g h1 e) h2
  aq := h.aq
  bbq g h1 h2 := k.apart (h.q.inw h2).2 (fun e => h.bbq g e h2) h1
  ga g hg := ⟨(h.ga g hg).1, k.apart (h.g.lt g hg).2 (h.ga g hg).2.1, (h.ga g hg).2.2⟩
  na := h.na
  nb := h.nb
  nq := h.nq
  bel := h.bel.trans (k.below h.bel.size (fun _ hg => Nat.le_trans h.nb (h.b.inw hg).1))
theorem St.chQ (h : St w ba bb bq Sa Sb vq gv ta tb Ma Mb Mq G wr) {v' : Value} {M' : List Rq} (hw : Qs wx bq v' M') (k : Kf (Fq bq vq) (Fq bq v') wr wx) : St w ba bb bq Sa Sb v' gv ta tb Ma Mb M' G wx where
  a := h.a.on (fun g hg => k.block g (h.a.inw hg).2 (fun e => h.aq g hg e))
  b := h.b.on (fun g hg => k.block g (h.b.inw hg).2 (fun e => h.bbq g hg e))
  q := hw
  g := own_on h.g (fun g hg => k.block g (h.g.lt g hg).2 (h.ga g hg).2.2)
  ab := h.ab
  aq g h1 h2 := k.apart (h.a.inw h1).2 (fun e => h.aq g h1 e) h2
  bbq g h1 h2 := k.apart (h.b.inw h1).2 (fun e => h.bbq g h1 e) h2
  ga g hg := ⟨(h.ga g hg).1, (h.ga g hg).2.1, k.apart (h.g.lt g hg).2 (h.ga g hg).2.2⟩
  na := h.na
  nb := h.nb
  nq := h.nq
  bel := h.bel.trans (k.below h.bel.size (fun _ hg => Nat.le_trans h.nq (h.q.inw hg).1))
/-- The row is another one. -/
theorem St.chG (h : St w ba bb bq Sa Sb vq gv ta tb Ma Mb Mq G wr) {v' : Value} {G' : List Rq} (o : Ow wx w.heap.size v' G') (k : wr.grownBy wx gv.ownBlock) (hv : ∀ g, v'.ownBlock = some g → gv.ownBlock = some g ∨ wr.heap.size ≤ g) : St w ba bb bq Sa Sb vq v' ta tb Ma Mb Mq G' wx where
  a := h.a.on (fun g hg => k.block g (h.a.inw hg).2 (fun e => (h.ga g e.symm).1 hg))
  b := h.b.on (fun g hg => k.block g (h.b.inw hg).2 (fun e => (h.ga g e.symm).2.1 hg))
  q := h.q.onF (fun g hg => k.block g (h.q.inw hg).2 (fun e => (h.ga g e.symm).2.2 hg))
  g := o
  ab := h.ab
  aq := h.aq
  bbq := h.bbq
  ga g hg := by
    rcases hv g hg with q | q
    · exact h.ga g q
    · exact ⟨fun e => by have := (h.a.inw e).2; omega, fun e => by have := (h.b.inw e).2; omega, fun e => by have := (h.q.inw e).2; omega⟩
  na := h.na
  nb := h.nb
  nq := h.nq
  bel := h.bel.trans (grown_low h.g h.bel.size k)
/-- Another row that lies apart. -/
theorem St.setG (h : St w ba bb bq Sa Sb vq gv ta tb Ma Mb Mq G wr) {v' : Value} {G' : List Rq} (o : Ow wr w.heap.size v' G') (ga : ∀ g, v'.ownBlock = some g → ¬ Ft ba Sa g ∧ ¬ Ft bb Sb g ∧ ¬ Fq bq vq g) : St w ba bb bq Sa Sb vq v' ta tb Ma Mb Mq G' wr :=
  { h with g := o, ga := ga }
end
/-- By its time alone. -/
theorem oc_at {x y : Rq} (h : x.1 < y.1) : oc x y < 0 := by
  unfold oc
  have e : cmi x.1 y.1 = -1 := if_pos h
  simp only [orL, e]
  rw [if_neg (by decide)]
  decide
theorem due_split {M : List Rq} (h : Rs M) (t : Int) : dueQ M t ++ laterQ M t = M := by
  refine rs_ext ?_ h (fun z => ?_)
  · unfold Rs
    rw [List.pairwise_append]
    refine ⟨dueQ_rs h, laterQ_rs h, fun x hx y hy => oc_at ?_⟩
    have := (dueQ_mem.1 hx).2
    have := (laterQ_mem.1 hy).2
    omega
  · rw [List.mem_append, dueQ_mem, laterQ_mem]
    constructor
    · rintro (q | q)
      · exact q.1
      · exact q.1
    · intro q
      rcases Int.lt_or_le t z.1 with r | r
      · exact Or.inr ⟨q, r⟩
      · exact Or.inl ⟨q, r⟩
theorem later_later {M : List Rq} {t t' : Int} (h : t ≤ t') : laterQ (laterQ M t) t' = laterQ M t' := by
  unfold laterQ
  rw [List.filter_filter]
  apply List.filter_congr
  intro z _
  rw [Bool.eq_iff_iff, Bool.and_eq_true, decide_eq_true_iff, decide_eq_true_iff]
  omega
theorem due_due {M : List Rq} (hM : Rs M) {t t' : Int} (h : t ≤ t') : dueQ M t ++ dueQ (laterQ M t) t' = dueQ M t' := by
  refine rs_ext ?_ (dueQ_rs hM) (fun z => ?_)
  · unfold Rs
    rw [List.pairwise_append]
    refine ⟨dueQ_rs hM, dueQ_rs (laterQ_rs hM), fun x hx y hy => oc_at ?_⟩
    have := (dueQ_mem.1 hx).2
    have := (laterQ_mem.1 (dueQ_mem.1 hy).1).2
    omega
  · rw [List.mem_append, dueQ_mem, dueQ_mem, dueQ_mem, laterQ_mem]
    constructor
    · rintro (q | q)
      · exact ⟨q.1, by omega⟩
      · exact ⟨q.1.1, q.2⟩
    · intro q
      rcases Int.lt_or_le t z.1 with r | r
      · exact Or.inr ⟨⟨q.1, r⟩, q.2⟩
      · exact Or.inl ⟨q.1, r⟩
theorem due_none {M : List Rq} {t : Int} (h : ∀ z, z ∈ M → t < z.1) : dueQ M t = [] ∧ laterQ M t = M := by
  constructor
  · unfold dueQ
    rw [List.filter_eq_nil_iff]
    intro z hz
    have := h z hz
    simp
    omega
  · unfold laterQ
    rw [List.filter_eq_self]
    intro z hz
    exact decide_eq_true (h z hz)
theorem Wl.above {w : World} {b : Nat} {S : Nat → Value} {now : Int} {M : List Rq} (h : Wl w b S now M) : ∀ z, z ∈ M → now < z.1 := fun z hz => by
  obtain ⟨R, _, h2⟩ := h
  exact (h2.in_ hz).1
theorem waf_pf {now : Int} {M : List Rq} {r : Rq} (h : waf now M r = 0) : pf M r = 0 := by
  unfold waf at h
  unfold pf
  split at h
  · cases h
  · rename_i h1
    rw [if_neg h1]
    split at h
    · cases h
    · split at h
      · cases h
      · rename_i h2
        rw [if_neg h2]
        split at h
        · cases h
        · rename_i h3
          rw [if_neg h3]
/-- The one ring of the fact. -/
def f1 : Rq := (200, ⟨#[97]⟩, 0, 0, 0)
theorem f1_add : waf 100 [] f1 = 0 ∧ wad 100 [] f1 = [f1] := by
  have h : waf 100 [] f1 = 0 := by
    unfold waf
    rw [if_neg (by decide), if_neg (by decide)]
    simp [hasQ]
  refine ⟨h, ?_⟩
  unfold wad
  rw [if_pos h]
  simp [put]
theorem f1_due : dueQ [f1] 200 = [f1] := by
  unfold dueQ f1
  simp
end Go.Proofs.Ytppachfccihbnaa.Qu
