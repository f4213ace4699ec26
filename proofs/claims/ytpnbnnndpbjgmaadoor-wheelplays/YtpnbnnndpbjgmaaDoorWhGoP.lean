/-
  What is proved here: what holds on the way, ring by ring, where a wheel goes on to a later time; contracts of what is done with each (over the translation).
-/
import Derived.Test.YtpnbnnndpbjgmaaDoorWhAdd
namespace Go.Proofs.YtpnbnnndpbjgmaaDoor.Qu
open Go.RowKit

/-- What Go tells. -/
def wgf (now t : Int) : Int := if ist t = false then 1 else if t < now then 6 else 0
/-- On the way: so many of those taken out are told or laid again. -/
def GoI (w : World) (b : Nat) (S : Nat → Value) (n t : Int) (M P : List Rq) (u : Value) (k : Nat) (dv : Value) (wr : World) : Prop :=
  ∃ Si Ri Ni, Wm wr b t n Si Ri ∧ Iv t Ri Ni ∧ (∀ z, z ∈ Ni ↔ z ∈ M ∧ t < z.1 ∧ (z ∉ P ∨ z ∈ P.take k)) ∧ Kf (Ft b S) (Ft b Si) w wr ∧ Ow wr w.heap.size u P ∧ (∀ g, u.ownBlock = some g → ¬ Ft b Si g) ∧ Ow wr w.heap.size dv ((P.take k).filter (fun z => decide (z.1 ≤ t))) ∧ (∀ g, dv.ownBlock = some g → ¬ Ft b Si g) ∧ (∀ g, dv.ownBlock = some g → u.ownBlock ≠ some g)
theorem GoI.onB {w wr X : World} {b k : Nat} {S : Nat → Value} {n t : Int} {M P : List Rq} {u dv : Value} (h : GoI w b S n t M P u k dv wr) (q : Below wr.heap.size wr X) : GoI w b S n t M P u k dv X := by
  obtain ⟨Si, Ri, Ni, h1, h2, h3, h4, h5, h6, h7, h8, h9⟩ := h
  exact ⟨Si, Ri, Ni, h1.onB q, h2, h3, h4.later (q.mono h4.size), own_on h5 (fun g hg => q.block g (h5.lt g hg).2), h6, own_on h7 (fun g hg => q.block g (h7.lt g hg).2), h8, h9⟩
theorem take_one {P : List Rq} {k : Nat} (hk : k < P.length) : P.take (k + 1) = P.take k ++ [P.getD k zq] := by
  rw [List.take_add_one, List.getD_eq_getElem?_getD, List.getElem?_eq_getElem hk]
  rfl
theorem nd_take {P : List Rq} (h : P.Nodup) {k : Nat} (hk : k < P.length) : P.getD k zq ∉ P.take k := fun q => by
  have e : P = P.take k ++ P.getD k zq :: P.drop (k + 1) := by
    rw [List.getD_eq_getElem?_getD, List.getElem?_eq_getElem hk]
    simp
  have h' := h
  rw [e, List.nodup_append] at h'
  exact h'.2.2 _ q _ List.mem_cons_self rfl
/-- One that is due is told. -/
theorem go_due {w X : World} {b k : Nat} {S : Nat → Value} {n t : Int} {M P : List Rq} {u dv : Value} {r : Rq} (h : GoI w b S n t M P u k dv X) (hk : k < P.length) (hr : P.getD k zq = r) (hd : r.1 ≤ t) (hl : P.length ≤ 1000000) :
    ∃ v' w3, (∀ ty, (Builtin.append_ #[23, 23] ty #[dv, .slice (some ⟨X.heap.size, 0, none⟩) 1 1]).run Tryd.prog (X.alloc (.cells #[.int .i64 r.1, .string r.2.1, .int .i64 r.2.2.1, .int .i64 r.2.2.2.1, .int .i64 r.2.2.2.2] 34)) = .ok v' w3) ∧ GoI w b S n t M P u (k + 1) v' w3 := by
  obtain ⟨Y, hY⟩ : ∃ Y, Y = X.alloc (.cells #[.int .i64 r.1, .string r.2.1, .int .i64 r.2.2.1, .int .i64 r.2.2.2.1, .int .i64 r.2.2.2.2] 34) := ⟨_, rfl⟩
  have qY : Below X.heap.size X Y := by rw [hY]; exact below_alloc _ _
  have rr : Rd Y (.slice (some ⟨X.heap.size, 0, none⟩) 1 1) [r] := by rw [hY]; exact rd_new X r
  obtain ⟨Si, Ri, Ni, h1, h2, h3, h4, h5, h6, h7, h8, h9⟩ := h.onB qY
  have hn : w.heap.size ≤ Y.heap.size := h4.size
  have hlen : ((P.take k).filter (fun z => decide (z.1 ≤ t))).length ≤ k := by
    have := List.length_filter_le (fun z : Rq => decide (z.1 ≤ t)) (P.take k)
    rw [List.length_take] at this
    omega
  obtain ⟨v', w3, ap, o3, g3, p3⟩ := app5_at h7 rr hn (by simp only [List.length_cons, List.length_nil]; omega)
  have b3 := grown_low h7 hn g3
  have e1 : (P.take (k + 1)).filter (fun z => decide (z.1 ≤ t)) = (P.take k).filter (fun z => decide (z.1 ≤ t)) ++ [r] := by
    rw [take_one hk, List.filter_append, hr, List.filter_cons_of_pos (by simpa using hd)]
    rfl
  rw [← hY]
  refine ⟨v', w3, ap, Si, Ri, Ni, h1.on (fun g hg => g3.block g (h1.inw hg).2 (fun e => h8 g e.symm hg)), h2, fun z => ?_, h4.later b3, own_on h5 (fun g hg => g3.block g (h5.lt g hg).2 (fun e => h9 g e.symm hg)), h6, by rw [e1]; exact o3, fun g hg hF => ?_, fun g hg hU => ?_⟩
  · rw [h3, take_one hk, hr, List.mem_append, List.mem_singleton]
    constructor
    · rintro ⟨q1, q2, q3⟩
      exact ⟨q1, q2, q3.imp id Or.inl⟩
    · rintro ⟨q1, q2, q3 | q3 | q3⟩
      · exact ⟨q1, q2, Or.inl q3⟩
      · exact ⟨q1, q2, Or.inr q3⟩
      · rw [q3] at q2
        omega
  · rcases p3 with p | p
    · exact h8 g (p.symm.trans hg) hF
    · rw [p] at hg
      injection hg with hg
      have := (h1.inw hF).2
      omega
  · rcases p3 with p | p
    · exact h9 g (p.symm.trans hg) hU
    · rw [p] at hg
      injection hg with hg
      have := (h5.lt g hU).2
      omega
/-- One that is not is laid again. -/
theorem go_lay {w X : World} {b k : Nat} {S : Nat → Value} {R : Nat → List Rq} {n now t : Int} {M P : List Rq} {u dv : Value} {r : Rq} (hi : Iv now R M) (hPM : ∀ z, z ∈ P → z ∈ M) (hP : P.Nodup) (h : GoI w b S n t M P u k dv X) (hk : k < P.length) (hr : P.getD k zq = r) (hd : t < r.1) :
    Calls Tryd.prog 22 #[.pointer (some ⟨b, 0, none⟩), agQ r] X fun e w4 => e = .returned (.tuple #[]) ∧ GoI w b S n t M P u (k + 1) dv w4 := by
  obtain ⟨Si, Ri, Ni, h1, h2, h3, h4, h5, h6, h7, h8, h9⟩ := h
  have hrP : r ∈ P := by rw [← hr]; exact getD_mem hk
  have hrM := hPM r hrP
  have hrQ : r ∉ P.take k := by rw [← hr]; exact nd_take hP hk
  have ti := hi.in_ hrM
  have n1 := hi.n1
  refine (lay_any X b t n Si Ri r h1 h2.n1 h2.n2 (by omega) ti.2 (fun j hj => h2.row hj)).mono (fun e w4 ⟨he, l, s, v', hs, hl5, hs6, m4, f4⟩ => ⟨he, ?_⟩)
  obtain ⟨N', i4, e4⟩ := Iv.again hi h2 h3 hrM hrP hrQ hd (by omega) hs
  refine ⟨_, _, N', m4, i4, fun z => ?_, h4.trans f4, own_on h5 (fun g hg => f4.block g (h5.lt g hg).2 (h6 g hg)), fun g hg => f4.apart (h5.lt g hg).2 (h6 g hg), ?_, fun g hg => f4.apart (h7.lt g hg).2 (h8 g hg), h9⟩
  · rw [e4, take_one hk, hr]
  · have e1 : (P.take (k + 1)).filter (fun z => decide (z.1 ≤ t)) = (P.take k).filter (fun z => decide (z.1 ≤ t)) := by
      rw [take_one hk, List.filter_append, hr, List.filter_cons_of_neg (by simp; omega)]
      simp
    rw [e1]
    exact own_on h7 (fun g hg => f4.block g (h7.lt g hg).2 (h8 g hg))
/-- At the beginning. -/
theorem go_start {w w2 : World} {b : Nat} {S : Nat → Value} {R : Nat → List Rq} {n now t : Int} {M : List Rq} {u : Value} {l s : Nat} (hm : Wm w b now n S R) (hi : Iv now R M) (hs : Sp now.toNat t.toNat l s) (hs6 : s < 64) (ht : 1 ≤ t) (ht2 : t ≤ 157785119) (hT : TkA b now n S R 0 (l * 64 + (s + 1)) w u w2) :
    GoI w b S n t M (tkL R 0 (l * 64 + (s + 1))) u 0 (.slice none 0 0) (w2.setCell ⟨b, 0, none⟩ (.int .i64 t)) := by
  obtain ⟨o, m, f⟩ := hT
  obtain ⟨m3, f3⟩ := wm_now m t
  obtain ⟨N, i3, e3⟩ := hi.later hs hs6 ht ht2
  refine ⟨_, _, N, m3, i3, fun z => by rw [e3, List.take_zero], f.trans f3, ownsRow_setCell_below o (by show b < w.heap.size; exact hm.box.lt) _, fun g hg hF => ?_, World.ownsRow_nil _ _ _ _, fun g hg => (by cases hg), fun g hg => (by cases hg)⟩
  have h1 := (o.lt g hg).1
  have h2 := (hm.inw (tkS_ft hF)).2
  omega
end Go.Proofs.YtpnbnnndpbjgmaaDoor.Qu
