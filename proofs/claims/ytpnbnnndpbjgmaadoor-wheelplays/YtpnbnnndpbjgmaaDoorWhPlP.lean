/-
  What is proved here: the wheel and the list that is held against it, call by call (contracts over the translation).
-/
import Derived.Test.YtpnbnnndpbjgmaaDoorWhGo
import Derived.Test.YtpnbnnndpbjgmaaDoorWhDrop
import Derived.Test.YtpnbnnndpbjgmaaDoorWhNext
import Derived.Test.YtpnbnnndpbjgmaaDoorQuSts
import Derived.Test.YtpnbnnndpbjgmaaDoorQuSame
import Derived.Test.YtpnbnnndpbjgmaaDoorErrT
namespace Go.Proofs.YtpnbnnndpbjgmaaDoor.Qu
open Go.RowKit

/-- The wheel, and the list that is held against it, apart from it. -/
structure Wp (w0 w : World) (b : Nat) (S : Nat → Value) (now : Int) (m : Value) (M : List Rq) : Prop where
  q : Wl w b S now M
  r : Rw w m M
  nb : w0.heap.size ≤ b
  below : Below w0.heap.size w0 w
  ap : ∀ k, m.ownBlock = some k → ¬ Ft b S k ∧ k < w.heap.size
section
variable {w0 w w' : World} {b : Nat} {S S' : Nat → Value} {now now' : Int} {m m2 : Value} {M N : List Rq}
theorem Wp.on (h : Wp w0 w b S now m M) (q : Below w.heap.size w w') : Wp w0 w' b S now m M :=
  ⟨h.q.onB q, h.r.on q, h.nb, h.below.trans (q.mono h.below.size), fun k hk => ⟨(h.ap k hk).1, Nat.lt_of_lt_of_le (h.ap k hk).2 q.size⟩⟩
/-- A store into a block of one's own leaves it. -/
theorem Wp.blk {g : Nat} (h : Wp w0 w b S now m M) (hs : w'.heap.size = w.heap.size) (ho : w'.os = w.os ∧ w'.tape = w.tape ∧ w'.output = w.output) (q : ∀ k, k ≠ g → w'.heap[k]? = w.heap[k]?) (g1 : ¬ Ft b S g) (g3 : m.ownBlock ≠ some g) (g4 : w0.heap.size ≤ g) : Wp w0 w' b S now m M :=
  ⟨h.q.on (fun k hk => q k (fun e => g1 (by rw [← e]; exact hk))), h.r.blk (fun k hk => q k (fun e => g3 (by rw [← e]; exact hk))), h.nb,
    ⟨ho.1.trans h.below.os, ho.2.1.trans h.below.tape, ho.2.2.trans h.below.output, by rw [hs]; exact h.below.size, fun k hk => (q k (by omega)).trans (h.below.block k hk)⟩, fun k hk => ⟨(h.ap k hk).1, by rw [hs]; exact (h.ap k hk).2⟩⟩
theorem Wp.cell {g o : Nat} {u : Value} (h : Wp w0 w b S now m M) (g1 : ¬ Ft b S g) (g3 : m.ownBlock ≠ some g) (g4 : w0.heap.size ≤ g) : Wp w0 (w.setCell ⟨g, o, none⟩ u) b S now m M :=
  h.blk (g := g) (by simp [World.setCell]) ⟨rfl, rfl, rfl⟩ (fun k hk => Below.heap_setCell w _ _ k hk) g1 g3 g4
theorem Wp.row {g : Nat} {c : Array Value} (h : Wp w0 w b S now m M) (g1 : ¬ Ft b S g) (g3 : m.ownBlock ≠ some g) (g4 : w0.heap.size ≤ g) : Wp w0 (w.setRow g c) b S now m M :=
  h.blk (g := g) (by simp [World.setRow]) ⟨rfl, rfl, rfl⟩ (fun k hk => setRow_other w g k c hk) g1 g3 g4
/-- A change of the wheel, and of the list. -/
theorem Wp.step (h : Wp w0 w b S now m M) (hr : Rw w m2 N) (ho : ∀ k, m2.ownBlock = some k → ¬ Ft b S k ∧ k < w.heap.size) (hq : Wl w' b S' now' N) (hk : Kf (Ft b S) (Ft b S') w w') : Wp w0 w' b S' now' m2 N :=
  ⟨hq, hr.blk (fun k hm => hk.block k (ho k hm).2 (ho k hm).1), h.nb, h.below.trans (hk.below h.below.size (fun _ hg => Nat.le_trans h.nb (h.q.inw hg).1)), fun k hm => ⟨hk.apart (ho k hm).2 (ho k hm).1, Nat.lt_of_lt_of_le (ho k hm).2 hk.size⟩⟩
theorem wp_has (r : Rq) (h : Wp w0 w b S now m M) : Calls Tryd.prog 7 #[m, agQ r] w fun e w' => e = .returned (.bool (hasQ M r)) ∧ Below w.heap.size w w' := has_any M r m w (RowK.rd h.r.1) (by have := h.q.len; omega)
theorem wp_add_no (r : Rq) (h : Wp w0 w b S now m M) (hp : ¬ waf now M r = 0) : Calls Tryd.prog 9 #[.pointer (some ⟨b, 0, none⟩), agQ r] w fun e w' => e = .returned (.iface 47 (.int .i64 (waf now M r))) ∧ ∃ S', Hid (Wp w0 w' b S' now m M) :=
  (wadd_any w b S now M r h.q).mono (fun e w' ⟨he, S', h1, h2⟩ => by
    unfold wad at h1
    rw [if_neg hp] at h1
    unfold fault at he
    rw [if_neg hp] at he
    exact ⟨he, S', Lib.hid (h.step h.r h.ap h1 h2)⟩)
theorem wp_add_yes (r : Rq) (h : Wp w0 w b S now m M) (hp : waf now M r = 0) (hr : Rw w m2 (put M r)) (ho : ∀ k, m2.ownBlock = some k → ¬ Ft b S k ∧ k < w.heap.size) : Calls Tryd.prog 9 #[.pointer (some ⟨b, 0, none⟩), agQ r] w fun e w' => e = .returned .nilIface ∧ ∃ S', Hid (Wp w0 w' b S' now m2 (put M r)) :=
  (wadd_any w b S now M r h.q).mono (fun e w' ⟨he, S', h1, h2⟩ => by
    unfold wad at h1
    rw [if_pos hp] at h1
    rw [hp] at he
    exact ⟨he, S', Lib.hid (h.step hr ho h1 h2)⟩)
theorem wp_radd (r : Rq) (h : Wp w0 w b S now m M) (hr : r ∉ M) : Calls Tryd.prog 8 #[m, agQ r] w fun e w' => ∃ a n c, e = .returned (.slice a n c) ∧ Below w.heap.size w w' ∧ Hid (Rw w' (.slice a n c) (put M r) ∧ ∀ k, (Value.slice a n c).ownBlock = some k → ¬ Ft b S k ∧ k < w'.heap.size) :=
  (refAdd_any M r m w h.r h.q.rs (by have := h.q.len; omega)).mono (fun e w' ⟨u, P, he, h1, h2, h3, h4⟩ => by
    have eP : P = put M r := rs_ext h2.1 (put_rs h.q.rs) (fun z => by rw [h2.2.1, put_mem hr])
    subst eP
    obtain ⟨a, c, rfl⟩ := h1.form
    refine ⟨a, _, c, he, h3, Lib.hid ⟨h1, fun k hk => ?_⟩⟩
    have hlt : k < w'.heap.size := by
      obtain ⟨⟨a', c', e', hc⟩, hf⟩ := h1
      rcases hc with hc | ⟨b', off', ea, hc⟩
      · have := (put_mem (z := r) hr).2 (Or.inr rfl)
        rw [hc] at this
        cases this
      · injection e' with e1 _ _
        rw [e1, ea] at hk
        injection hk with hk
        have hlen : 0 < (put M r).length := List.length_pos_of_mem ((put_mem (z := r) hr).2 (Or.inr rfl))
        have h5 : 0 < ((put M r).flatMap encQ).length := by rw [flatQ_len]; omega
        have := cell_in (hc 0 _ (List.getElem?_eq_getElem h5))
        rw [← hk]
        exact this
    rcases h4 k hk with q | q
    · exact ⟨(h.ap k q).1, hlt⟩
    · exact ⟨fun e => by have := (h.q.inw e).2; omega, hlt⟩)
theorem wp_off (r : Rq) (h : Wp w0 w b S now m M) : Calls Tryd.prog 10 #[m, agQ r] w fun e w' => ∃ a n c, e = .returned (.tuple #[.slice a n c, .bool (hasQ M r)]) ∧ Below w.heap.size w w' ∧ Hid (Rw w' (.slice a n c) (drp M r) ∧ ∀ k, (Value.slice a n c).ownBlock = some k → ¬ Ft b S k ∧ k < w'.heap.size) :=
  (off_any M r m w (RowK.rd h.r.1) (by have := h.q.len; omega)).mono (fun e w' ⟨u, he, ho, hb⟩ => by
    have h1 := own_rw ho
    obtain ⟨a, c, rfl⟩ := h1.form
    refine ⟨a, _, c, he, hb, Lib.hid ⟨h1, fun k hk => ?_⟩⟩
    obtain ⟨q1, q2⟩ := ho.lt k hk
    exact ⟨fun e => by have := (h.q.inw e).2; omega, q2⟩)
theorem wp_drop (r : Rq) (h : Wp w0 w b S now m M) (hr : Rw w m2 (drp M r)) (ho : ∀ k, m2.ownBlock = some k → ¬ Ft b S k ∧ k < w.heap.size) : Calls Tryd.prog 11 #[.pointer (some ⟨b, 0, none⟩), agQ r] w fun e w' => e = .returned (fault (df M r)) ∧ ∃ S', Hid (Wp w0 w' b S' now m2 (drp M r)) :=
  (wdrop_any w b S now M r h.q).mono (fun _ _ ⟨he, S', h1, h2⟩ => ⟨he, S', Lib.hid (h.step hr ho h1 h2)⟩)
theorem wp_err (f : Int) (h : Wp w0 w b S now m M) (hg : ErrTy w0) : Calls Tryd.prog 6 #[.iface 47 (.int .i64 f), .int .i64 f] w fun e w' => e = .returned (.bool true) ∧ Hid (Below w.heap.size w w') :=
  (error_errno f f w (hg.below h.below)).mono (fun e w' ⟨he, hb⟩ => ⟨by rw [he]; simp, Lib.hid hb⟩)
theorem wp_err0 (w : World) : Calls Tryd.prog 6 #[.nilIface, .int .i64 0] w fun e w' => e = .returned (.bool true) ∧ Hid (Below w.heap.size w w') :=
  (error_nil 0 w).mono (fun e w' ⟨he, hw⟩ => ⟨he, Lib.hid (by rw [hw]; exact Below.refl _ _)⟩)
theorem wp_go_no (t : Int) (h : Wp w0 w b S now m M) (hf : ¬ wgf now t = 0) : Calls Tryd.prog 12 #[.pointer (some ⟨b, 0, none⟩), .int .i64 t] w fun e w' => e = .returned (.tuple #[.slice none 0 0, .iface 47 (.int .i64 (wgf now t))]) ∧ Hid (Wp w0 w' b S now m M) :=
  (wgo_no w b S now M t h.q hf).mono (fun e w' ⟨he, _, h2⟩ => by
    unfold fault at he
    rw [if_neg hf] at he
    exact ⟨he, Lib.hid (h.on h2)⟩)
theorem wp_go_yes (t : Int) (h : Wp w0 w b S now m M) (hT : ist t = true) (hle : now ≤ t) (hr : Rw w m2 (laterQ M t)) (ho : ∀ k, m2.ownBlock = some k → ¬ Ft b S k ∧ k < w.heap.size) {dv : Value} {n0 : Nat} (hd : Ow w n0 dv (dueQ M t)) (hda : ∀ k, dv.ownBlock = some k → ¬ Ft b S k) : Calls Tryd.prog 12 #[.pointer (some ⟨b, 0, none⟩), .int .i64 t] w fun e w' => ∃ u S', e = .returned (.tuple #[u, .nilIface]) ∧ Hid (Wp w0 w' b S' t m2 (laterQ M t) ∧ Rd w' u (dueQ M t) ∧ Rd w' dv (dueQ M t)) :=
  (wgo_yes w b S now M t h.q hT hle).mono (fun _ _ ⟨u, S', he, h1, h2, h3, _⟩ => ⟨u, S', he, Lib.hid ⟨h.step hr ho h1 h2, h3.rd, (own_on hd (fun k hk => h2.block k (hd.lt k hk).2 (hda k hk))).rd⟩⟩)
theorem wp_next (h : Wp w0 w b S now m M) : Calls Tryd.prog 14 #[.pointer (some ⟨b, 0, none⟩)] w fun e w' => e = .returned (.tuple #[.int .i64 (wnT M), fault (wnF M)]) ∧ Hid (Below w.heap.size w w') :=
  (wnext_any w b S now M h.q).mono (fun _ _ ⟨he, hb⟩ => ⟨he, Lib.hid hb⟩)
theorem wp_now (h : Wp w0 w b S now m M) : Calls Tryd.prog 15 #[.pointer (some ⟨b, 0, none⟩)] w fun e w' => e = .returned (.int .i64 now) ∧ w' = w := by
  obtain ⟨R, hm, _⟩ := h.q
  exact wnow_any w b _ _ _ hm.box
theorem wp_len (h : Wp w0 w b S now m M) : Calls Tryd.prog 16 #[.pointer (some ⟨b, 0, none⟩)] w fun e w' => e = .returned (.int .i64 (M.length : Int)) ∧ w' = w := by
  obtain ⟨R, hm, _⟩ := h.q
  exact wlen_any w b _ _ _ hm.box
end
/-- Three numbers lie in a block that may be written. -/
def Vt (w : World) (g : Nat) (x0 x1 x2 : Int) : Prop := w.heap[g]? = some (.cells #[.int .i64 x0, .int .i64 x1, .int .i64 x2] 31 (0, 0))
theorem Vt.cells {w : World} {g : Nat} {x0 x1 x2 : Int} (h : Vt w g x0 x1 x2) : w.cell? ⟨g, 0, none⟩ = some (.int .i64 x0) ∧ w.cell? ⟨g, 1, none⟩ = some (.int .i64 x1) ∧ w.cell? ⟨g, 2, none⟩ = some (.int .i64 x2) ∧ ∀ o, w.frozen? ⟨g, o, none⟩ = false := by
  unfold Vt at h
  exact ⟨by simp [World.cell?, h], by simp [World.cell?, h], by simp [World.cell?, h], fun o => by simp [World.frozen?, h]⟩
theorem Vt.lt {w : World} {g : Nat} {x0 x1 x2 : Int} (h : Vt w g x0 x1 x2) : g < w.heap.size := cell_in h.cells.1
theorem Vt.on {w w' : World} {g : Nat} {x0 x1 x2 : Int} (h : Vt w g x0 x1 x2) (q : Below w.heap.size w w') : Vt w' g x0 x1 x2 := (q.block g h.lt).trans h
theorem Vt.set {w : World} {g t : Nat} {x0 x1 x2 : Int} (h : Vt w g x0 x1 x2) (ht : t < 3) (y : Int) : ∃ y0 y1 y2, Vt (w.setCell ⟨g, t, none⟩ (.int .i64 y)) g y0 y1 y2 := by
  unfold Vt
  rw [setCell_eq_setRow w g t _ _ _ _ h, setRow_heap w g _ _ _ _ h]
  rcases (by omega : t = 0 ∨ t = 1 ∨ t = 2) with rfl | rfl | rfl
  · exact ⟨y, x1, x2, rfl⟩
  · exact ⟨x0, y, x2, rfl⟩
  · exact ⟨x0, x1, y, rfl⟩
theorem Vt.at {w : World} {g t : Nat} {x0 x1 x2 : Int} (h : Vt w g x0 x1 x2) (ht : t < 3) : ∃ y : Int, w.cell? ⟨g, t, none⟩ = some (.int .i64 y) := by
  obtain ⟨h0, h1, h2, _⟩ := h.cells
  rcases (by omega : t = 0 ∨ t = 1 ∨ t = 2) with rfl | rfl | rfl
  · exact ⟨_, h0⟩
  · exact ⟨_, h1⟩
  · exact ⟨_, h2⟩
end Go.Proofs.YtpnbnnndpbjgmaaDoor.Qu
