/-
  What is proved here: chimelaw2.WheelSame returns true for every number, every rings and every steps, and keeps all that was there (a contract over the translation).
-/
import Derived.Test.YtppachfccihbnaaWhSmP
import Derived.Test.YtppachfccihbnaaQuEq
import Derived.Test.YtppachfccihbnaaInts
import Derived.Deep.CutBlock
namespace Go.Proofs.Ytppachfccihbnaa.Qu
open Go.RowKit

section
variable {w wr : World} {ba bb bq : Nat} {Sa Sb : Nat → Value} {vq gv : Value} {ta tb : Int} {Ma Mb Mq G : List Rq}
theorem st_addA_yes (h : St w ba bb bq Sa Sb vq gv ta tb Ma Mb Mq G wr) (r : Rq) (hf : waf ta Ma r = 0) :
    Calls Try.prog 5 #[.pointer (some ⟨ba, 0, none⟩), agQ r] wr fun e w' => e = .returned .nilIface ∧ ∃ Sa', St w ba bb bq Sa' Sb vq gv ta tb (put Ma r) Mb Mq G w' :=
  (wadd_any wr ba Sa ta Ma r h.a).mono (fun e w' ⟨he, S', h1, h2⟩ => by
    unfold wad at h1
    rw [if_pos hf] at h1
    rw [hf] at he
    exact ⟨he, S', h.chA h1 h2⟩)
theorem st_addA_no (h : St w ba bb bq Sa Sb vq gv ta tb Ma Mb Mq G wr) (r : Rq) (hf : ¬ waf ta Ma r = 0) :
    Calls Try.prog 5 #[.pointer (some ⟨ba, 0, none⟩), agQ r] wr fun e w' => e = .returned (.iface 42 (.int .i64 (waf ta Ma r))) ∧ ∃ Sa', St w ba bb bq Sa' Sb vq gv ta tb Ma Mb Mq G w' :=
  (wadd_any wr ba Sa ta Ma r h.a).mono (fun e w' ⟨he, S', h1, h2⟩ => by
    unfold wad at h1
    rw [if_neg hf] at h1
    unfold fault at he
    rw [if_neg hf] at he
    exact ⟨he, S', h.chA h1 h2⟩)
theorem st_addB_yes (h : St w ba bb bq Sa Sb vq gv ta tb Ma Mb Mq G wr) (r : Rq) (hf : waf tb Mb r = 0) :
    Calls Try.prog 5 #[.pointer (some ⟨bb, 0, none⟩), agQ r] wr fun e w' => e = .returned .nilIface ∧ ∃ Sb', St w ba bb bq Sa Sb' vq gv ta tb Ma (put Mb r) Mq G w' :=
  (wadd_any wr bb Sb tb Mb r h.b).mono (fun e w' ⟨he, S', h1, h2⟩ => by
    unfold wad at h1
    rw [if_pos hf] at h1
    rw [hf] at he
    exact ⟨he, S', h.chB h1 h2⟩)
theorem st_addB_no (h : St w ba bb bq Sa Sb vq gv ta tb Ma Mb Mq G wr) (r : Rq) (hf : ¬ waf tb Mb r = 0) :
    Calls Try.prog 5 #[.pointer (some ⟨bb, 0, none⟩), agQ r] wr fun e w' => e = .returned (.iface 42 (.int .i64 (waf tb Mb r))) ∧ ∃ Sb', St w ba bb bq Sa Sb' vq gv ta tb Ma Mb Mq G w' :=
  (wadd_any wr bb Sb tb Mb r h.b).mono (fun e w' ⟨he, S', h1, h2⟩ => by
    unfold wad at h1
    rw [if_neg hf] at h1
    unfold fault at he
    rw [if_neg hf] at he
    exact ⟨he, S', h.chB h1 h2⟩)
theorem st_push (h : St w ba bb bq Sa Sb vq gv ta tb Ma Mb Mq G wr) (hM : Rs Mq) (hl : Mq.length ≤ 400) (r : Rq) (hf : pf Mq r = 0) :
    Calls Try.prog 8 #[.pointer (some ⟨bq, 0, none⟩), agQ r] wr fun e w' => e = .returned .nilIface ∧ ∃ vq', St w ba bb bq Sa Sb vq' gv ta tb Ma Mb (put Mq r) G w' :=
  (push_any wr bq vq Mq r h.q hM (by omega)).mono (fun e w' ⟨he, v', M', h1, h2, h3⟩ => by
    unfold pus at h3
    rw [if_pos hf] at h3
    rw [hf] at he
    rw [h3] at h1
    exact ⟨he, v', h.chQ h1 h2.kf⟩)
theorem st_pop {x : Rq} {N : List Rq} (h : St w ba bb bq Sa Sb vq gv ta tb Ma Mb (x :: N) G wr) (hl : (x :: N).length ≤ 400) :
    Calls Try.prog 10 #[.pointer (some ⟨bq, 0, none⟩)] wr fun e w' => e = .returned (.tuple #[agQ x, .nilIface]) ∧ ∃ vq', St w ba bb bq Sa Sb vq' gv ta tb Ma Mb N G w' :=
  (pop_any wr bq vq (x :: N) h.q (by omega)).mono (fun e w' ⟨he, v', M', h1, h2, h3⟩ => by
    rw [show M' = N from h3] at h1
    exact ⟨by rw [he]; simp [hdQ, eQ, fault], v', h.chQ h1 h2.kf⟩)
theorem st_goA_no (h : St w ba bb bq Sa Sb vq gv ta tb Ma Mb Mq G wr) (t : Int) (hf : ¬ wgf ta t = 0) :
    Calls Try.prog 6 #[.pointer (some ⟨ba, 0, none⟩), .int .i64 t] wr fun e w' => e = .returned (.tuple #[.slice none 0 0, .iface 42 (.int .i64 (wgf ta t))]) ∧ St w ba bb bq Sa Sb vq gv ta tb Ma Mb Mq G w' :=
  (wgo_no wr ba Sa ta Ma t h.a hf).mono (fun e w' ⟨he, _, h2⟩ => by
    unfold fault at he
    rw [if_neg hf] at he
    exact ⟨he, h.onB h2⟩)
/-- Going on, and what is told is gathered. -/
theorem st_goA_yes (h : St w ba bb bq Sa Sb vq gv ta tb Ma Mb Mq G wr) (t : Int) (hT : ist t = true) (hle : ta ≤ t) (hG : G.length ≤ 1000) :
    Calls Try.prog 6 #[.pointer (some ⟨ba, 0, none⟩), .int .i64 t] wr fun e w' => ∃ u, e = .returned (.tuple #[u, .nilIface]) ∧ Hid (Below w.heap.size w w') ∧ ∃ Sa' v' w3, Hid (∀ ty, (Builtin.append_ #[22, 22] ty #[gv, u]).run Try.prog w' = .ok v' w3) ∧ Hid (St w ba bb bq Sa' Sb vq v' t tb (laterQ Ma t) Mb Mq (G ++ dueQ Ma t) w3) :=
  (wgo_yes wr ba Sa ta Ma t h.a hT hle).mono (fun e w' ⟨u, S', he, h1, h2, h3, h4⟩ => by
    have s1 := h.chA h1 h2
    have hl : (dueQ Ma t).length ≤ 400 := by
      have := h.a.len
      have := due_later Ma t
      omega
    obtain ⟨v', w3, ap, o3, g3, p3⟩ := app5_at s1.g h3.rd s1.bel.size (by omega)
    exact ⟨u, he, Lib.hid s1.bel, S', v', w3, Lib.hid ap, Lib.hid (s1.chG o3 g3 (fun g hg => by
      rcases p3 with p | p
      · exact Or.inl (p.symm.trans hg)
      · rw [p] at hg; injection hg with hg; exact Or.inr (by omega)))⟩)
/-- The other wheel at once: what is told lies apart. -/
theorem st_goB_yes (h : St w ba bb bq Sa Sb vq gv ta tb Ma Mb Mq G wr) (t : Int) (hT : ist t = true) (hle : tb ≤ t) :
    Calls Try.prog 6 #[.pointer (some ⟨bb, 0, none⟩), .int .i64 t] wr fun e w' => ∃ u Sb', e = .returned (.tuple #[u, .nilIface]) ∧ Hid (Rd w' gv G ∧ Rd w' u (dueQ Mb t) ∧ St w ba bb bq Sa Sb' vq u ta t Ma (laterQ Mb t) Mq (dueQ Mb t) w') :=
  (wgo_yes wr bb Sb tb Mb t h.b hT hle).mono (fun e w' ⟨u, S', he, h1, h2, h3, h4⟩ => by
    have s1 := h.chB h1 h2
    refine ⟨u, S', he, Lib.hid ⟨s1.g.rd, h3.rd, s1.setG (own_mono h3 h.bel.size) (fun g hg => ?_)⟩⟩
    have hg2 := (h3.lt g hg).1
    exact ⟨fun e => by have := (h.a.inw e).2; omega, h4 g hg, fun e => by have := (h.q.inw e).2; omega⟩)
end
end Go.Proofs.Ytppachfccihbnaa.Qu
