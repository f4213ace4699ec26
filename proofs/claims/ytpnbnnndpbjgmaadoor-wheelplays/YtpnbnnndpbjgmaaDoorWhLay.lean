/-
  What is proved here: what package wheel's lay answers, and what it keeps (a contract over the translation).
-/
import Derived.Test.YtpnbnnndpbjgmaaDoorWhNew
import Derived.Test.YtpnbnnndpbjgmaaDoorWhRow
namespace Go.Proofs.YtpnbnnndpbjgmaaDoor.Qu
open Go.RowKit

/-- A row is laid into its slot. -/
theorem wm_store {w w2 : World} {b k : Nat} {now many : Int} {S : Nat → Value} {R : Nat → List Rq} {v' : Value} {l' : List Rq} (h : Wm w b now many S R) (hk : k < 320) (hg : w.grownBy w2 (S k).ownBlock) (ho : Ow w2 (b + 1) v' l')
    (hv : ∀ g, v'.ownBlock = some g → (S k).ownBlock = some g ∨ w.heap.size ≤ g) :
    Wm (w2.setCell ⟨b, 2 + k, none⟩ v') b now many (upd S k v') (upd R k l') ∧ Kf (Ft b S) (Ft b (upd S k v')) w (w2.setCell ⟨b, 2 + k, none⟩ v') := by
  have hb2 : some b ≠ (S k).ownBlock := fun e => by have := ((h.own k hk).lt b e.symm).1; omega
  have box2 : Wb w2 b now many S := h.box.on (hg.block b h.box.lt hb2)
  refine ⟨⟨?_, fun j hj => ?_, fun i j hi hj hij g hgi hgj => ?_⟩, ⟨hg.os, hg.tape, hg.output, by simpa [World.setCell] using hg.size, fun i hi hF => ?_, fun g hF => ?_⟩⟩
  · have := box2.set (2 + k) v'
    rw [hf_slot] at this
    exact this
  · by_cases e : j = k
    · subst e
      rw [upd_at, upd_at]
      exact ownsRow_setCell_below ho (by show b < b + 1; omega) v'
    · rw [upd_ne S v' e, upd_ne R l' e]
      refine own_on (h.own j hj) (fun g hgj => ?_)
      have q := (h.own j hj).lt g hgj
      rw [Below.heap_setCell w2 _ _ g (by show g ≠ b; omega)]
      exact hg.block g q.2 (fun e2 => h.apart j k hj hk e g hgj e2.symm)
  · have no : ∀ j, j < 320 → j ≠ k → (S j).ownBlock = some g → v'.ownBlock = some g → False := fun j hj e h1 h2 => by
      rcases hv g h2 with q | q
      · exact h.apart j k hj hk e g h1 q
      · have := ((h.own j hj).lt g h1).2; omega
    by_cases ei : i = k
    · subst ei
      rw [upd_at] at hgi
      rw [upd_ne S v' (Ne.symm hij)] at hgj
      exact no j hj (Ne.symm hij) hgj hgi
    · rw [upd_ne S v' ei] at hgi
      by_cases ej : j = k
      · subst ej
        rw [upd_at] at hgj
        exact no i hi ei hgi hgj
      · rw [upd_ne S v' ej] at hgj
        exact h.apart i j hi hj hij g hgi hgj
  · rw [Below.heap_setCell w2 _ _ i (fun e => hF (Or.inl e))]
    exact hg.block i hi (fun e => hF (Or.inr ⟨k, hk, e.symm⟩))
  · rcases hF with e | ⟨j, hj, e⟩
    · exact Or.inl (Or.inl e)
    · by_cases ej : j = k
      · subst ej
        rw [upd_at] at e
        rcases hv g e with q | q
        · exact Or.inl (Or.inr ⟨j, hj, q⟩)
        · exact Or.inr q
      · rw [upd_ne S v' ej] at e
        exact Or.inl (Or.inr ⟨j, hj, e⟩)
/-- What a ring that is laid leaves. -/
def LyA (b : Nat) (now many : Int) (S : Nat → Value) (R : Nat → List Rq) (r : Rq) (w w' : World) : Prop := ∃ (l s : Nat) (v' : Value), Sp now.toNat r.1.toNat l s ∧ l < 5 ∧ s < 64 ∧ Wm w' b now many (upd S (l * 64 + s) v') (upd R (l * 64 + s) (R (l * 64 + s) ++ [r])) ∧ Kf (Ft b S) (Ft b (upd S (l * 64 + s) v')) w w'
set_option maxRecDepth 100000 in
set_option maxHeartbeats 4000000 in
theorem lay_any (w : World) (b : Nat) (now many : Int) (S : Nat → Value) (R : Nat → List Rq) (r : Rq) (h : Wm w b now many S R) (hn : 1 ≤ now) (hn2 : now ≤ 157785119) (ht : 1 ≤ r.1) (ht2 : r.1 ≤ 157785119) (hl : ∀ k, k < 320 → (R k).length ≤ 1000000) :
    Calls Tryd.prog 22 #[.pointer (some ⟨b, 0, none⟩), agQ r] w fun e w' => e = .returned (.tuple #[]) ∧ LyA b now many S R r w w' := by
  obtain ⟨W0, hW0⟩ : ∃ W0, W0 = w.alloc (.cells #[.int .i64 r.1, .string r.2.1, .int .i64 r.2.2.1, .int .i64 r.2.2.2.1, .int .i64 r.2.2.2.2] 34) := ⟨_, rfl⟩
  have b0 : Below w.heap.size w W0 := by rw [hW0]; exact (Below.refl _ _).alloc (Nat.le_refl _) _
  have x0 : QBx W0 w.heap.size r := by rw [hW0]; exact QBx.new w r _
  have h0 := h.onB b0
  have KS : Hid (Calls Tryd.prog 20 #[.pointer (some ⟨b, 0, none⟩), .int .i64 r.1] W0 (SpA now r.1 W0)) := Lib.hid (spot_any W0 b now many S r.1 h0.box hn hn2 ht ht2)
  have HX : Hid (∀ X, Below W0.heap.size W0 X → ∀ l s : Nat, Sp now.toNat r.1.toNat l s → l < 5 → s < 64 → QBx X w.heap.size r ∧ b < X.heap.size ∧ X.cell? ⟨b, 2 + l * 64 + s, none⟩ = some (S (l * 64 + s)) ∧ ∃ av n c w3, Hid (∀ ty, (Builtin.append_ #[23, 23] ty #[S (l * 64 + s), .slice (some ⟨X.heap.size, 0, none⟩) 1 1]).run Tryd.prog (X.drew.alloc (.cells #[.int .i64 r.1, .string r.2.1, .int .i64 r.2.2.1, .int .i64 r.2.2.2.1, .int .i64 r.2.2.2.2] 34)) = .ok (.slice av n c) w3) ∧ w3.cell? ⟨b, 2 + l * 64 + s, none⟩ = some (S (l * 64 + s)) ∧ w3.frozen? ⟨b, 2 + l * 64 + s, none⟩ = false ∧ Hid (LyA b now many S R r w (w3.setCell ⟨b, 2 + l * 64 + s, none⟩ (.slice av n c)))) := Lib.hid (fun X q l s hs hl5 hs6 => by
    have hk : l * 64 + s < 320 := by omega
    have hX := h0.onB q
    obtain ⟨Y, hY⟩ : ∃ Y, Y = X.drew.alloc (.cells #[.int .i64 r.1, .string r.2.1, .int .i64 r.2.2.1, .int .i64 r.2.2.2.1, .int .i64 r.2.2.2.2] 34) := ⟨_, rfl⟩
    have qY : Below X.heap.size X Y := by rw [hY]; exact Below.alloc (Below.drew (Below.refl _ _)) (Nat.le_refl _) _
    have hm := hX.onB qY
    have rr : Rd Y (.slice (some ⟨X.heap.size, 0, none⟩) 1 1) [r] := by rw [hY]; exact rd_new X.drew r
    obtain ⟨v', w3, ap, o3, g3, p3⟩ := app5_at (hm.own _ hk) rr (by have := hm.box.lt; omega) (by have := hl _ hk; simp; omega)
    obtain ⟨a, c, e3, _⟩ := o3.rd
    have hb2 : some b ≠ (S (l * 64 + s)).ownBlock := fun e => by have := ((hm.own _ hk).lt b e.symm).1; omega
    have box3 : Wb w3 b now many S := hm.box.on (g3.block b hm.box.lt hb2)
    have cs := hX.box.cslot hk
    have cs3 := box3.cslot hk
    obtain ⟨m1, m2⟩ := wm_store hm hk g3 o3 (fun g hg => by
      rcases p3 with p | p
      · exact Or.inl (p.symm.trans hg)
      · rw [p] at hg; injection hg with hg; exact Or.inr (by omega))
    subst e3
    rw [← hY]
    rw [← Nat.add_assoc] at cs cs3 m1 m2
    exact ⟨x0.on q, hX.box.lt, cs, _, _, _, w3, Lib.hid ap, cs3, box3.frozen _, Lib.hid ⟨l, s, _, hs, hl5, hs6, m1, ((Kf.of_below (b0.trans (q.mono b0.size))).trans (Kf.of_below qY)).trans m2⟩⟩)
  have HW := Lib.hid hW0
  obtain ⟨r1, r2, r3, r4, r5⟩ := x0
  have bl : w.heap.size < W0.heap.size := cell_in r1
  clear h h0 hW0 b0 hl hn hn2 ht ht2
  go_enter Tryd.func22, Tryd.ntmps22
  go_upto_region 1 with fail
  rw [← HW.out]
  go_upto_region 2 with (go_at_call 20; refine KS.out.mono ?_; rintro e w2 ⟨l, s, hs, hl5, hs6, rfl, hb⟩)
  obtain ⟨qx, blb, cs, av, nn, cc, w3, AP, cs3, fs3, FI⟩ := HX.out w2 hb l s hs.out hl5 hs6
  obtain ⟨y1, y2, y3, y4, y5⟩ := qx
  have bl2 : w.heap.size < w2.heap.size := cell_in y1
  clear HX KS r1 r2 r3 r4 r5 bl hb HW hs
  generalize S (l * 64 + s) = sv at *
  have hl5i : (l : Int) < 5 := by omega
  have hs6i : (s : Int) < 64 := by omega
  go_region_law (refine step_app2 rfl (.tmp 23) (.tmp 25) 23 23 rfl _ _ (by simp [Act.eval]) (by simp [Act.eval]) (AP.out _) ?_)
  all_goals (clear AP cs cs3 fs3 y1 y2 y3 y4 y5 bl2 blb; go_wp2; go_end0; exact ⟨rfl, FI.out⟩)
end Go.Proofs.YtpnbnnndpbjgmaaDoor.Qu
