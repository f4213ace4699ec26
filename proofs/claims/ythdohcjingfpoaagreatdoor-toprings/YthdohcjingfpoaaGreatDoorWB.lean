/-
  What is proved here: what package wheel's lay answers, and what it keeps (a contract over the translation).
  What is proved here: what package wheel's take and takeUpTo answer, and what they keep (contracts over the translation).
  What is proved here: plain facts on the rings of a wheel: each in its slot, once; what is added, dropped and gone over; no function of the program is walked.
  What is proved here: what slices.SortFunc answers at rings, by alarm.Order (a contract over the translation).
  What is proved here: plain facts on what is due by a time and what is not.
-/
import Derived.Test.YthdohcjingfpoaaGreatDoorWA
import Derived.Test.YthdohcjingfpoaaGreatDoorBQ
import Derived.Test.YthdohcjingfpoaaGreatDoorShelfR
import Derived.Shelf.SlSortCmp.WholeK
import Derived.Shelf.SlSortCmp.NoneTotal
namespace Go.Proofs.YthdohcjingfpoaaGreatDoor.Qu
open Go.RowKit

/-- A row is laid into its slot. -/
theorem wm_store {w w2 : World} {b k : Nat} {now many : Int} {S : Nat → Value} {R : Nat → List Rq} {v' : Value} {l' : List Rq} (h : Wm w b now many S R) (hk : k < 320) (hg : w.grownBy w2 (S k).ownBlock) (ho : Ow w2 (b + 1) v' l')
    (hv : ∀ g, v'.ownBlock = some g → (S k).ownBlock = some g ∨ w.heap.size ≤ g) :
    Wm (w2.setCell ⟨b, 2 + k, none⟩ v') b now many (upd S k v') (upd R k l') ∧ Kf (Ft b S) (Ft b (upd S k v')) w (w2.setCell ⟨b, 2 + k, none⟩ v') := by
  have hb2 : some b ≠ (S k).ownBlock := fun e => by have := ((h.own k hk).lt b e.symm).1; omega
  have box2 : Wb w2 b now many S := h.box.on (hg.block b h.box.lt hb2)
  refine ⟨⟨?_, fun j hj => ?_, fun i j hi hj hij g hgi hgj => ?_⟩, ⟨hg.os, hg.tape, hg.output, by simpa [World.setCell] using hg.size, fun i hi hF => ?_, fun g hF => ?_⟩⟩
  · have := box2.set (2 + k) v'
    rw [hf_slot] at this
    exact this
  · by_cases e : j = k
    · subst e
      rw [upd_at, upd_at]
      exact ownsRow_setCell_below ho (by show b < b + 1; omega) v'
    · rw [upd_ne S v' e, upd_ne R l' e]
      refine own_on (h.own j hj) (fun g hgj => ?_)
      have q := (h.own j hj).lt g hgj
      rw [Below.heap_setCell w2 _ _ g (by show g ≠ b; omega)]
      exact hg.block g q.2 (fun e2 => h.apart j k hj hk e g hgj e2.symm)
  · have no : ∀ j, j < 320 → j ≠ k → (S j).ownBlock = some g → v'.ownBlock = some g → False := fun j hj e h1 h2 => by
      rcases hv g h2 with q | q
      · exact h.apart j k hj hk e g h1 q
      · have := ((h.own j hj).lt g h1).2; omega
    by_cases ei : i = k
    · subst ei
      rw [upd_at] at hgi
      rw [upd_ne S v' (Ne.symm hij)] at hgj
      exact no j hj (Ne.symm hij) hgj hgi
    · rw [upd_ne S v' ei] at hgi
      by_cases ej : j = k
      · subst ej
        rw [upd_at] at hgj
        exact no i hi ei hgi hgj
      · rw [upd_ne S v' ej] at hgj
        exact h.apart i j hi hj hij g hgi hgj
  · rw [Below.heap_setCell w2 _ _ i (fun e => hF (Or.inl e))]
    exact hg.block i hi (fun e => hF (Or.inr ⟨k, hk, e.symm⟩))
  · rcases hF with e | ⟨j, hj, e⟩
    · exact Or.inl (Or.inl e)
    · by_cases ej : j = k
      · subst ej
        rw [upd_at] at e
        rcases hv g e with q | q
        · exact Or.inl (Or.inr ⟨j, hj, q⟩)
        · exact Or.inr q
      · rw [upd_ne S v' ej] at e
        exact Or.inl (Or.inr ⟨j, hj, e⟩)
/-- What a ring that is laid leaves. -/
def LyA (b : Nat) (now many : Int) (S : Nat → Value) (R : Nat → List Rq) (r : Rq) (w w' : World) : Prop := ∃ (l s : Nat) (v' : Value), Sp now.toNat r.1.toNat l s ∧ l < 5 ∧ s < 64 ∧ Wm w' b now many (upd S (l * 64 + s) v') (upd R (l * 64 + s) (R (l * 64 + s) ++ [r])) ∧ Kf (Ft b S) (Ft b (upd S (l * 64 + s) v')) w w'
set_option maxRecDepth 100000 in
set_option maxHeartbeats 4000000 in
theorem lay_any (w : World) (b : Nat) (now many : Int) (S : Nat → Value) (R : Nat → List Rq) (r : Rq) (h : Wm w b now many S R) (hn : 1 ≤ now) (hn2 : now ≤ 157785119) (ht : 1 ≤ r.1) (ht2 : r.1 ≤ 157785119) (hl : ∀ k, k < 320 → (R k).length ≤ 1000000) :
    Calls Tryz.prog 57 #[.pointer (some ⟨b, 0, none⟩), agQ r] w fun e w' => e = .returned (.tuple #[]) ∧ LyA b now many S R r w w' := by
  obtain ⟨W0, hW0⟩ : ∃ W0, W0 = w.alloc (.cells #[.int .i64 r.1, .string r.2.1, .int .i64 r.2.2.1, .int .i64 r.2.2.2.1, .int .i64 r.2.2.2.2] 45) := ⟨_, rfl⟩
  have b0 : Below w.heap.size w W0 := by rw [hW0]; exact (Below.refl _ _).alloc (Nat.le_refl _) _
  have x0 : QBx W0 w.heap.size r := by rw [hW0]; exact QBx.new w r _
  have h0 := h.onB b0
  have KS : Hid (Calls Tryz.prog 55 #[.pointer (some ⟨b, 0, none⟩), .int .i64 r.1] W0 (SpA now r.1 W0)) := Lib.hid (spot_any W0 b now many S r.1 h0.box hn hn2 ht ht2)
  have HX : Hid (∀ X, Below W0.heap.size W0 X → ∀ l s : Nat, Sp now.toNat r.1.toNat l s → l < 5 → s < 64 → QBx X w.heap.size r ∧ b < X.heap.size ∧ X.cell? ⟨b, 2 + l * 64 + s, none⟩ = some (S (l * 64 + s)) ∧ ∃ av n c w3, Hid (∀ ty, (Builtin.append_ #[41, 41] ty #[S (l * 64 + s), .slice (some ⟨X.heap.size, 0, none⟩) 1 1]).run Tryz.prog (X.drew.alloc (.cells #[.int .i64 r.1, .string r.2.1, .int .i64 r.2.2.1, .int .i64 r.2.2.2.1, .int .i64 r.2.2.2.2] 45)) = .ok (.slice av n c) w3) ∧ w3.cell? ⟨b, 2 + l * 64 + s, none⟩ = some (S (l * 64 + s)) ∧ w3.frozen? ⟨b, 2 + l * 64 + s, none⟩ = false ∧ Hid (LyA b now many S R r w (w3.setCell ⟨b, 2 + l * 64 + s, none⟩ (.slice av n c)))) := Lib.hid (fun X q l s hs hl5 hs6 => by
    have hk : l * 64 + s < 320 := by omega
    have hX := h0.onB q
    obtain ⟨Y, hY⟩ : ∃ Y, Y = X.drew.alloc (.cells #[.int .i64 r.1, .string r.2.1, .int .i64 r.2.2.1, .int .i64 r.2.2.2.1, .int .i64 r.2.2.2.2] 45) := ⟨_, rfl⟩
    have qY : Below X.heap.size X Y := by rw [hY]; exact Below.alloc (Below.drew (Below.refl _ _)) (Nat.le_refl _) _
    have hm := hX.onB qY
    have rr : Rd Y (.slice (some ⟨X.heap.size, 0, none⟩) 1 1) [r] := by rw [hY]; exact rd_new X.drew r
    obtain ⟨v', w3, ap, o3, g3, p3⟩ := app5_at (hm.own _ hk) rr (by have := hm.box.lt; omega) (by have := hl _ hk; simp; omega)
    obtain ⟨a, c, e3, _⟩ := o3.rd
    have hb2 : some b ≠ (S (l * 64 + s)).ownBlock := fun e => by have := ((hm.own _ hk).lt b e.symm).1; omega
    have box3 : Wb w3 b now many S := hm.box.on (g3.block b hm.box.lt hb2)
    have cs := hX.box.cslot hk
    have cs3 := box3.cslot hk
    obtain ⟨m1, m2⟩ := wm_store hm hk g3 o3 (fun g hg => by
      rcases p3 with p | p
      · exact Or.inl (p.symm.trans hg)
      · rw [p] at hg; injection hg with hg; exact Or.inr (by omega))
    subst e3
    rw [← hY]
    rw [← Nat.add_assoc] at cs cs3 m1 m2
    exact ⟨x0.on q, hX.box.lt, cs, _, _, _, w3, Lib.hid ap, cs3, box3.frozen _, Lib.hid ⟨l, s, _, hs, hl5, hs6, m1, ((Kf.of_below (b0.trans (q.mono b0.size))).trans (Kf.of_below qY)).trans m2⟩⟩)
  have HW := Lib.hid hW0
  obtain ⟨r1, r2, r3, r4, r5⟩ := x0
  have bl : w.heap.size < W0.heap.size := cell_in r1
  clear h h0 hW0 b0 hl hn hn2 ht ht2
  go_enter Tryz.func57, Tryz.ntmps57
  go_upto_region 1 with fail
  rw [← HW.out]
  go_upto_region 2 with (go_at_call 55; refine KS.out.mono ?_; rintro e w2 ⟨l, s, hs, hl5, hs6, rfl, hb⟩)
  obtain ⟨qx, blb, cs, av, nn, cc, w3, AP, cs3, fs3, FI⟩ := HX.out w2 hb l s hs.out hl5 hs6
  obtain ⟨y1, y2, y3, y4, y5⟩ := qx
  have bl2 : w.heap.size < w2.heap.size := cell_in y1
  clear HX KS r1 r2 r3 r4 r5 bl hb HW hs
  generalize S (l * 64 + s) = sv at *
  have hl5i : (l : Int) < 5 := by omega
  have hs6i : (s : Int) < 64 := by omega
  go_region_law (refine step_app2 rfl (.tmp 23) (.tmp 25) 41 41 rfl _ _ (by simp [Act.eval]) (by simp [Act.eval]) (AP.out _) ?_)
  all_goals (clear AP cs cs3 fs3 y1 y2 y3 y4 y5 bl2 blb; go_wp2; go_end0; exact ⟨rfl, FI.out⟩)
end Go.Proofs.YthdohcjingfpoaaGreatDoor.Qu
namespace Go.Proofs.YthdohcjingfpoaaGreatDoor.Qu
open Go.RowKit

/-- The rings of so many slots from one on. -/
def tkL (R : Nat → List Rq) (a n : Nat) : List Rq := (List.range n).flatMap (fun s => R (a + s))
/-- What is left where they are taken out. -/
def tkS (S : Nat → Value) (a n k : Nat) : Value := if a ≤ k ∧ k < a + n then .slice none 0 0 else S k
def tkR (R : Nat → List Rq) (a n k : Nat) : List Rq := if a ≤ k ∧ k < a + n then [] else R k
theorem tkL_zero (R : Nat → List Rq) (a : Nat) : tkL R a 0 = [] := rfl
theorem tkL_succ (R : Nat → List Rq) (a n : Nat) : tkL R a (n + 1) = tkL R a n ++ R (a + n) := by
  unfold tkL
  rw [List.range_succ, List.flatMap_append]
  simp
theorem tkL_add (R : Nat → List Rq) (a m : Nat) : ∀ n, tkL R a (m + n) = tkL R a m ++ tkL R (a + m) n
  | 0 => by simp [tkL_zero]
  | n + 1 => by rw [← Nat.add_assoc, tkL_succ, tkL_add R a m n, tkL_succ, List.append_assoc, Nat.add_assoc]
theorem tkL_ext {R R' : Nat → List Rq} {a n : Nat} (h : ∀ s, s < n → R (a + s) = R' (a + s)) : tkL R a n = tkL R' a n := by
  induction n with
  | zero => rfl
  | succ n ih => rw [tkL_succ, tkL_succ, ih (fun s hs => h s (by omega)), h n (by omega)]
theorem tkL_mem {R : Nat → List Rq} {a n : Nat} {z : Rq} : z ∈ tkL R a n ↔ ∃ k, a ≤ k ∧ k < a + n ∧ z ∈ R k := by
  unfold tkL
  rw [List.mem_flatMap]
  constructor
  · rintro ⟨s, hs, hz⟩
    rw [List.mem_range] at hs
    exact ⟨a + s, by omega, by omega, hz⟩
  · rintro ⟨k, h1, h2, hz⟩
    exact ⟨k - a, by rw [List.mem_range]; omega, by rw [show a + (k - a) = k by omega]; exact hz⟩
theorem tkL_le (R : Nat → List Rq) (a m n : Nat) (h : m ≤ n) : (tkL R a m).length ≤ (tkL R a n).length := by
  obtain ⟨d, rfl⟩ := Nat.le.dest h
  rw [tkL_add, List.length_append]
  omega
theorem tkS_zero (S : Nat → Value) (a : Nat) : tkS S a 0 = S := by funext k; unfold tkS; rw [if_neg (by omega)]
theorem tkR_zero (R : Nat → List Rq) (a : Nat) : tkR R a 0 = R := by funext k; unfold tkR; rw [if_neg (by omega)]
theorem tkS_succ (S : Nat → Value) (a n : Nat) : upd (tkS S a n) (a + n) (.slice none 0 0) = tkS S a (n + 1) := by
  funext k
  unfold upd tkS
  by_cases h : k = a + n
  · rw [if_pos h, if_pos (by omega)]
  · rw [if_neg h]
    by_cases h2 : a ≤ k ∧ k < a + n
    · rw [if_pos h2, if_pos (by omega)]
    · rw [if_neg h2, if_neg (by omega)]
theorem tkR_succ (R : Nat → List Rq) (a n : Nat) : upd (tkR R a n) (a + n) [] = tkR R a (n + 1) := by
  funext k
  unfold upd tkR
  by_cases h : k = a + n
  · rw [if_pos h, if_pos (by omega)]
  · rw [if_neg h]
    by_cases h2 : a ≤ k ∧ k < a + n
    · rw [if_pos h2, if_pos (by omega)]
    · rw [if_neg h2, if_neg (by omega)]
theorem tkS_add (S : Nat → Value) (a m n : Nat) : tkS (tkS S a m) (a + m) n = tkS S a (m + n) := by
  funext k
  unfold tkS
  by_cases h : a + m ≤ k ∧ k < a + m + n
  · rw [if_pos h, if_pos (by omega)]
  · rw [if_neg h]
    by_cases h2 : a ≤ k ∧ k < a + m
    · rw [if_pos h2, if_pos (by omega)]
    · rw [if_neg h2, if_neg (by omega)]
theorem tkR_add (R : Nat → List Rq) (a m n : Nat) : tkR (tkR R a m) (a + m) n = tkR R a (m + n) := by
  funext k
  unfold tkR
  by_cases h : a + m ≤ k ∧ k < a + m + n
  · rw [if_pos h, if_pos (by omega)]
  · rw [if_neg h]
    by_cases h2 : a ≤ k ∧ k < a + m
    · rw [if_pos h2, if_pos (by omega)]
    · rw [if_neg h2, if_neg (by omega)]
theorem tkL_rest (R : Nat → List Rq) (a m n : Nat) : tkL (tkR R a m) (a + m) n = tkL R (a + m) n := tkL_ext (fun s _ => by unfold tkR; rw [if_neg (by omega)])
theorem tkS_ft {b a n g : Nat} {S : Nat → Value} (h : Ft b (tkS S a n) g) : Ft b S g := by
  rcases h with h | ⟨k, hk, e⟩
  · exact Or.inl h
  · unfold tkS at e
    split at e
    · cases e
    · exact Or.inr ⟨k, hk, e⟩
/-- What is changed later, in blocks that were not there, is no matter. -/
theorem Kf.later {F G : Nat → Prop} {w a c : World} (h : Kf F G w a) (q : Below w.heap.size a c) : Kf F G w c :=
  ⟨q.os.trans h.os, q.tape.trans h.tape, q.output.trans h.output, Nat.le_trans h.size q.size, fun k hk hF => (q.block k hk).trans (h.block k hk hF), h.own⟩
theorem grown_low {w w' : World} {n0 : Nat} {v : Value} {l : List Rq} (h : Ow w n0 v l) (hn : n0 ≤ w.heap.size) (g : w.grownBy w' v.ownBlock) : Below n0 w w' := (Below.refl n0 w).grown g hn (fun j hj => (h.lt j hj).1)
/-- What take answers. -/
def TkA (b : Nat) (now many : Int) (S : Nat → Value) (R : Nat → List Rq) (a n : Nat) (w : World) (u : Value) (w' : World) : Prop := Ow w' w.heap.size u (tkL R a n) ∧ Wm w' b now many (tkS S a n) (tkR R a n) ∧ Kf (Ft b S) (Ft b (tkS S a n)) w w'
/-- One slot more. -/
theorem tk_step {w wr : World} {b a k : Nat} {now many : Int} {S : Nat → Value} {R : Nat → List Rq} {u : Value} (hw : Wm w b now many S R) (hT : TkA b now many S R a k w u wr) (hk : a + k < 320) (hl : (tkL R a (k + 1)).length ≤ 1000000) :
    wr.cell? ⟨b, 2 + (a + k), none⟩ = some (S (a + k)) ∧ b < wr.heap.size ∧ ∃ v' w3, (∀ ty, (Builtin.append_ #[41, 41] ty #[u, S (a + k)]).run Tryz.prog wr = .ok v' w3) ∧ b < w3.heap.size ∧ w3.cell? ⟨b, 2 + (a + k), none⟩ = some (S (a + k)) ∧ w3.frozen? ⟨b, 2 + (a + k), none⟩ = false ∧ TkA b now many S R a (k + 1) w v' (w3.setCell ⟨b, 2 + (a + k), none⟩ (.slice none 0 0)) := by
  obtain ⟨o, m, f⟩ := hT
  have hs : tkS S a k (a + k) = S (a + k) := by unfold tkS; rw [if_neg (by omega)]
  have hr : tkR R a k (a + k) = R (a + k) := by unfold tkR; rw [if_neg (by omega)]
  have rd := (m.own (a + k) hk).rd
  rw [hs, hr] at rd
  have hn : w.heap.size ≤ wr.heap.size := f.size
  obtain ⟨v', w3, ap, o3, g3, _⟩ := app5_at o rd hn (by rw [tkL_succ, List.length_append] at hl; omega)
  have b3 := grown_low o hn g3
  have m3 : Wm w3 b now many (tkS S a k) (tkR R a k) := m.on (fun g hg => b3.block g (hw.inw (tkS_ft hg)).2)
  have c0 := m.box.cslot hk
  have c3 := m3.box.cslot hk
  rw [hs] at c0 c3
  obtain ⟨m4, f4⟩ := wm_store (v' := .slice none 0 0) (l' := []) m3 hk (grown_refl w3 _) (World.ownsRow_nil w3 (b + 1) 45 5 : Ow w3 (b + 1) (.slice none 0 0) []) (fun g hg => by cases hg)
  rw [tkS_succ, tkR_succ] at m4
  rw [tkS_succ] at f4
  refine ⟨c0, m.box.lt, v', w3, ap, m3.box.lt, c3, m3.box.frozen _, ?_, m4, (f.later b3).trans f4⟩
  rw [tkL_succ]
  exact ownsRow_setCell_below o3 (by show b < w.heap.size; exact hw.box.lt) _
set_option maxRecDepth 100000 in
set_option maxHeartbeats 4000000 in
theorem take_any (w : World) (b : Nat) (now many : Int) (S : Nat → Value) (R : Nat → List Rq) (lev last : Nat) (h : Wm w b now many S R) (h1 : lev < 5) (h2 : last < 64) (hl : (tkL R (lev * 64) (last + 1)).length ≤ 1000000) :
    Calls Tryz.prog 96 #[.pointer (some ⟨b, 0, none⟩), .int .i64 lev, .int .i64 last] w fun e w' => ∃ u, e = .returned u ∧ TkA b now many S R (lev * 64) (last + 1) w u w' := by
  have ST : Hid (∀ k wr u, k < last + 1 → TkA b now many S R (lev * 64) k w u wr → wr.cell? ⟨b, 2 + lev * 64 + k, none⟩ = some (S (lev * 64 + k)) ∧ b < wr.heap.size ∧ ∃ v' w3, Hid (∀ ty, (Builtin.append_ #[41, 41] ty #[u, S (lev * 64 + k)]).run Tryz.prog wr = .ok v' w3) ∧ b < w3.heap.size ∧ w3.cell? ⟨b, 2 + lev * 64 + k, none⟩ = some (S (lev * 64 + k)) ∧ w3.frozen? ⟨b, 2 + lev * 64 + k, none⟩ = false ∧ Hid (TkA b now many S R (lev * 64) (k + 1) w v' (w3.setCell ⟨b, 2 + lev * 64 + k, none⟩ (.slice none 0 0)))) := Lib.hid (fun k wr u hk hT => by
    obtain ⟨c0, bl, v', w3, ap, bl3, c3, f3, t3⟩ := tk_step h hT (by omega) (Nat.le_trans (tkL_le R _ _ _ (by omega)) hl)
    rw [← Nat.add_assoc] at c0 c3 f3 t3
    exact ⟨c0, bl, v', w3, Lib.hid ap, bl3, c3, f3, Lib.hid t3⟩)
  have T0 : Hid (TkA b now many S R (lev * 64) 0 w (.slice none 0 0) w) := Lib.hid ⟨World.ownsRow_nil _ _ _ _, by rw [tkS_zero, tkR_zero]; exact h, by rw [tkS_zero]; exact Kf.refl _ _⟩
  have l5 : (lev : Int) < 5 := by omega
  clear h hl
  generalize TkA b now many S R (lev * 64) = TT at *
  go_enter Tryz.func96, Tryz.ntmps96
  go_wp2_with fail
  go_loopw [7, 8, 11] (fun u _ i wr => ∃ k : Nat, k ≤ last + 1 ∧ i = .int .i64 k ∧ Hid (TT k w u wr)) (fun _ _ i _ => last + 1 - (intOf i).toNat)
  case atStart => exact ⟨0, Nat.zero_le _, rfl, T0⟩
  case round =>
    obtain ⟨k, hk, rfl, HT⟩ := hrel
    by_cases hlt : k < last + 1
    · obtain ⟨c0, bl, v', w3, AP, bl3, c3, f3, T3⟩ := ST.out k wr _ hlt HT.out
      have k6 : (k : Int) < 64 := by omega
      have d1 : decide ((k : Int) < (last : Int) + 1) = true := decide_eq_true (by omega)
      generalize S (lev * 64 + k) = sv at *
      go_wp2_with (at_builtin; refine wpl_app _ rfl _ _ _ _ rfl _ _ rfl rfl (AP.out _) ?_)
      go_roundw
      case rel => exact ⟨k + 1, by omega, by go_num, T3⟩
      case measure => simp [intOf]; omega
    · obtain rfl : k = last + 1 := by omega
      have d1 : decide (((last + 1 : Nat) : Int) < (last : Int) + 1) = false := decide_eq_false (by omega)
      go_wp2
      go_ret
      exact ⟨_, rfl, HT.out⟩
/-- One call of take more. -/
theorem tu_step {w wr w2 : World} {b m n : Nat} {now many : Int} {S : Nat → Value} {R : Nat → List Rq} {u u2 : Value} (hw : Wm w b now many S R) (hT : TkA b now many S R 0 m w u wr) (hT2 : TkA b now many (tkS S 0 m) (tkR R 0 m) m n wr u2 w2) (hl : (tkL R 0 (m + n)).length ≤ 1000000) :
    ∃ v' w3, (∀ ty, (Builtin.append_ #[41, 41] ty #[u, u2]).run Tryz.prog w2 = .ok v' w3) ∧ TkA b now many S R 0 (m + n) w v' w3 := by
  obtain ⟨o, m1, f⟩ := hT
  obtain ⟨o2, m2, f2⟩ := hT2
  have zS := tkS_add S 0 m n
  have zR := tkR_add R 0 m n
  have zL := tkL_rest R 0 m n
  have zA := tkL_add R 0 m n
  rw [Nat.zero_add] at zS zR zL zA
  rw [zS, zR] at m2
  rw [zS] at f2
  rw [zL] at o2
  have ou : Ow w2 w.heap.size u (tkL R 0 m) := own_on o (fun g hg => by
    have q := o.lt g hg
    exact f2.block g q.2 (fun e => by have := (hw.inw (tkS_ft e)).2; omega))
  have hn : w.heap.size ≤ w2.heap.size := Nat.le_trans f.size f2.size
  obtain ⟨v', w3, ap, o3, g3, _⟩ := app5_at ou o2.rd hn (by rw [zA, List.length_append] at hl; omega)
  have b3 := grown_low ou hn g3
  rw [← zA] at o3
  exact ⟨v', w3, ap, o3, m2.on (fun g hg => b3.block g (hw.inw (tkS_ft hg)).2), (f.trans f2).later b3⟩
/-- What takeUpTo answers. -/
def TuA (b : Nat) (now many : Int) (S : Nat → Value) (R : Nat → List Rq) (t : Int) (w : World) (e : Ending) (w' : World) : Prop := ∃ (l s : Nat) (u : Value), Sp now.toNat t.toNat l s ∧ l < 5 ∧ s < 64 ∧ e = .returned u ∧ TkA b now many S R 0 (l * 64 + (s + 1)) w u w'
set_option maxRecDepth 100000 in
set_option maxHeartbeats 4000000 in
theorem takeUp_any (w : World) (b : Nat) (now many : Int) (S : Nat → Value) (R : Nat → List Rq) (t : Int) (h : Wm w b now many S R) (hn : 1 ≤ now) (hn2 : now ≤ 157785119) (ht : 1 ≤ t) (ht2 : t ≤ 157785119) (hl : (tkL R 0 320).length ≤ 1000000) :
    Calls Tryz.prog 58 #[.pointer (some ⟨b, 0, none⟩), .int .i64 t] w (TuA b now many S R t w) := by
  have KS : Hid (Calls Tryz.prog 55 #[.pointer (some ⟨b, 0, none⟩), .int .i64 t] w (SpA now t w)) := Lib.hid (spot_any w b now many S t h.box hn hn2 ht ht2)
  have ST : Hid (∀ (m i n : Nat) wr u, i < 5 → n < 64 → m = i * 64 → TkA b now many S R 0 m w u wr → Calls Tryz.prog 96 #[.pointer (some ⟨b, 0, none⟩), .int .i64 i, .int .i64 n] wr fun e w2 => ∃ u2, e = .returned u2 ∧ ∃ v' w3, Hid (∀ ty, (Builtin.append_ #[41, 41] ty #[u, u2]).run Tryz.prog w2 = .ok v' w3) ∧ Hid (TkA b now many S R 0 (m + (n + 1)) w v' w3)) := Lib.hid (fun m i n wr u hi hn6 hm hT => by
    have hlen : (tkL (tkR R 0 m) (i * 64) (n + 1)).length ≤ 1000000 := by
      have e1 := tkL_rest R 0 m (n + 1)
      have e2 := tkL_add R 0 m (n + 1)
      rw [Nat.zero_add] at e1 e2
      rw [← hm, e1]
      have := tkL_le R 0 (m + (n + 1)) 320 (by omega)
      rw [e2, List.length_append] at this
      omega
    refine (take_any wr b now many (tkS S 0 m) (tkR R 0 m) i n hT.2.1 hi hn6 hlen).mono (fun e w2 ⟨u2, he, h2⟩ => ?_)
    rw [← hm] at h2
    obtain ⟨v', w3, ap, h3⟩ := tu_step h hT h2 (Nat.le_trans (tkL_le R 0 _ 320 (by omega)) hl)
    exact ⟨u2, he, v', w3, Lib.hid ap, Lib.hid h3⟩)
  have T0 : Hid (∀ X, Below w.heap.size w X → TkA b now many S R 0 0 w (.slice none 0 0) X) := Lib.hid (fun X q => ⟨World.ownsRow_nil _ _ _ _, by rw [tkS_zero, tkR_zero]; exact h.onB q, by rw [tkS_zero]; exact Kf.of_below q⟩)
  have FI : Hid (∀ (l s : Nat) u w', Sp now.toNat t.toNat l s → l < 5 → s < 64 → TkA b now many S R 0 (l * 64 + (s + 1)) w u w' → TuA b now many S R t w (.returned u) w') := Lib.hid (fun l s u w' h1 h2 h3 h4 => ⟨l, s, u, h1, h2, h3, rfl, h4⟩)
  generalize TuA b now many S R t w = PP at FI ⊢
  generalize TkA b now many S R 0 = TT at *
  clear h hl hn hn2 ht ht2
  go_enter Tryz.func58, Tryz.ntmps58
  go_wp2_with (go_at_call 55; refine KS.out.mono ?_; rintro e w1 ⟨l, s, hs, hl5, hs6, rfl, hb⟩)
  have T1 := Lib.hid (T0.out w1 hb)
  clear KS T0 hb
  go_loopw [7, 8, 16] (fun u _ i wr => ∃ k : Nat, k ≤ l ∧ i = .int .i64 k ∧ Hid (TT (k * 64) w u wr)) (fun _ _ i _ => l - (intOf i).toNat)
  case atStart => exact ⟨0, Nat.zero_le _, rfl, Lib.hid (by simpa using T1.out)⟩
  case round =>
    obtain ⟨k, hk, rfl, HT⟩ := hrel
    by_cases hlt : k < l
    · have K1 := Lib.hid (ST.out (k * 64) k 63 wr _ (by omega) (by omega) rfl HT.out)
      have d1 : decide ((k : Int) < (l : Int)) = true := decide_eq_true (by omega)
      go_wp2_with (first
        | (go_at_call 96; refine K1.out.mono ?_; rintro e w2 ⟨u2, rfl, v3, w3, AP, T3⟩)
        | (at_builtin; refine wpl_app _ rfl _ _ _ _ rfl _ _ rfl rfl (AP.out _) ?_))
      go_roundw
      case rel => exact ⟨k + 1, by omega, by go_num, Lib.hid (by have := T3.out; rwa [show k * 64 + (63 + 1) = (k + 1) * 64 by omega] at this)⟩
      case measure => simp [intOf]; omega
    · obtain rfl : k = l := by omega
      have K1 := Lib.hid (ST.out (k * 64) k s wr _ hl5 hs6 rfl HT.out)
      have d1 : decide ((k : Int) < (k : Int)) = false := decide_eq_false (by omega)
      go_wp2_with (first
        | (go_at_call 96; refine K1.out.mono ?_; rintro e w2 ⟨u2, rfl, v3, w3, AP, T3⟩)
        | (at_builtin; refine wpl_app _ rfl _ _ _ _ rfl _ _ rfl rfl (AP.out _) ?_))
      exact FI.out k s _ _ hs.out hl5 hs6 T3.out
end Go.Proofs.YthdohcjingfpoaaGreatDoor.Qu
namespace Go.Proofs.YthdohcjingfpoaaGreatDoor.Qu
open Go.RowKit

theorem nd_len : ∀ {P M : List Rq}, P.Nodup → (∀ z, z ∈ P → z ∈ M) → P.length ≤ M.length
  | [], _, _, _ => Nat.zero_le _
  | x :: P, M, hP, h => by
    have hc := List.nodup_cons.1 hP
    have hx : x ∈ M := h x List.mem_cons_self
    have e : (drp M x).length < M.length := List.length_filter_lt_length_iff_exists.2 ⟨x, hx, by simp [oc_self]⟩
    have := nd_len (P := P) (M := drp M x) hc.2 (fun z hz => drp_mem.2 ⟨h z (List.mem_cons_of_mem _ hz), fun q => hc.1 (by rw [← q]; exact hz)⟩)
    simp only [List.length_cons]
    omega
theorem rs_nd {M : List Rq} (h : Rs M) : M.Nodup := List.Pairwise.imp (fun {a c} q e => by rw [e, oc_self] at q; omega) h
/-- What there is on a wheel that is at a time. -/
structure Iv (now : Int) (R : Nat → List Rq) (M : List Rq) : Prop where
  n1 : 1 ≤ now
  n2 : now ≤ 157785119
  rs : Rs M
  len : M.length ≤ 400
  mem : ∀ z, z ∈ M ↔ ∃ k, k < 320 ∧ z ∈ R k
  at_ : ∀ k z, k < 320 → z ∈ R k → now < z.1 ∧ z.1 ≤ 157785119 ∧ ∃ l s, Sp now.toNat z.1.toNat l s ∧ k = l * 64 + s
  nd : ∀ k, k < 320 → (R k).Nodup
theorem Iv.new {now : Int} (h1 : 1 ≤ now) (h2 : now ≤ 157785119) : Iv now (fun _ => []) [] :=
  ⟨h1, h2, Rs.nil, by simp, fun z => ⟨fun h => (by cases h), fun ⟨_, _, h⟩ => (by cases h)⟩, fun k z _ h => (by cases h), fun k _ => List.nodup_nil⟩
/-- A ring is where its time says. -/
theorem Iv.spot {now : Int} {R : Nat → List Rq} {M : List Rq} (h : Iv now R M) {k l s : Nat} {z : Rq} (hk : k < 320) (hz : z ∈ R k) (hs : Sp now.toNat z.1.toNat l s) : k = l * 64 + s := by
  obtain ⟨_, _, l', s', h1, h2⟩ := h.at_ k z hk hz
  obtain ⟨rfl, rfl⟩ := hs.uniq h1
  exact h2
theorem Iv.slot {now : Int} {R : Nat → List Rq} {M : List Rq} (h : Iv now R M) {k : Nat} {z : Rq} (hk : k < 320) (hz : z ∈ R k) : Sp now.toNat z.1.toNat (k / 64) (k % 64) := by
  obtain ⟨a, b, l, s, h1, h2⟩ := h.at_ k z hk hz
  have := (h1.lt (by have := h.n2; omega) (by omega)).2
  rw [h2, show (l * 64 + s) / 64 = l by omega, show (l * 64 + s) % 64 = s by omega]
  exact h1
theorem Iv.one {now : Int} {R : Nat → List Rq} {M : List Rq} (h : Iv now R M) {k j : Nat} {z : Rq} (hk : k < 320) (hj : j < 320) (h1 : z ∈ R k) (h2 : z ∈ R j) : k = j := by
  have a := h.slot hk h1
  have b := h.slot hj h2
  have := a.uniq b
  omega
theorem Iv.in_ {now : Int} {R : Nat → List Rq} {M : List Rq} (h : Iv now R M) {z : Rq} (hz : z ∈ M) : now < z.1 ∧ z.1 ≤ 157785119 := by
  obtain ⟨k, hk, h2⟩ := (h.mem z).1 hz
  have := h.at_ k z hk h2
  exact ⟨this.1, this.2.1⟩
theorem Iv.row {now : Int} {R : Nat → List Rq} {M : List Rq} (h : Iv now R M) {k : Nat} (hk : k < 320) : (R k).length ≤ 1000000 := by
  have := nd_len (h.nd k hk) (fun z hz => (h.mem z).2 ⟨k, hk, hz⟩)
  have := h.len
  omega
theorem Iv.has {now : Int} {R : Nat → List Rq} {M : List Rq} (h : Iv now R M) {l s : Nat} {r : Rq} (hk : l * 64 + s < 320) (hs : Sp now.toNat r.1.toNat l s) : hasQ (R (l * 64 + s)) r = hasQ M r := by
  rw [Bool.eq_iff_iff, hasQ_iff, hasQ_iff, h.mem]
  constructor
  · intro q; exact ⟨_, hk, q⟩
  · rintro ⟨k, hk2, q⟩
    rw [h.spot hk2 q hs] at q
    exact q
theorem Iv.add {now : Int} {R : Nat → List Rq} {M : List Rq} (h : Iv now R M) {l s : Nat} {r : Rq} (hk : l * 64 + s < 320) (hs : Sp now.toNat r.1.toNat l s) (h1 : now < r.1) (h2 : r.1 ≤ 157785119) (hr : r ∉ M) (hl : M.length < 400) : Iv now (upd R (l * 64 + s) (R (l * 64 + s) ++ [r])) (put M r) := by
  refine ⟨h.n1, h.n2, put_rs h.rs, ?_, fun z => ?_, fun k z hk2 hz => ?_, fun k hk2 => ?_⟩
  · have := nd_len (P := put M r) (M := r :: M) (rs_nd (put_rs h.rs)) (fun z hz => by
      rcases (put_mem hr).1 hz with q | q
      · exact List.mem_cons_of_mem _ q
      · rw [q]; exact List.mem_cons_self)
    simp only [List.length_cons] at this
    omega
  · rw [put_mem hr, h.mem]
    constructor
    · rintro (⟨k, hk2, q⟩ | rfl)
      · refine ⟨k, hk2, ?_⟩
        by_cases e : k = l * 64 + s
        · subst e; rw [upd_at]; exact List.mem_append_left _ q
        · rw [upd_ne _ _ e]; exact q
      · exact ⟨_, hk, by rw [upd_at]; exact List.mem_append_right _ (List.mem_singleton.2 rfl)⟩
    · rintro ⟨k, hk2, q⟩
      by_cases e : k = l * 64 + s
      · subst e
        rw [upd_at] at q
        rcases List.mem_append.1 q with q | q
        · exact Or.inl ⟨_, hk2, q⟩
        · exact Or.inr (List.mem_singleton.1 q)
      · rw [upd_ne _ _ e] at q
        exact Or.inl ⟨k, hk2, q⟩
  · by_cases e : k = l * 64 + s
    · subst e
      rw [upd_at] at hz
      rcases List.mem_append.1 hz with q | q
      · exact h.at_ _ z hk q
      · rw [List.mem_singleton.1 q]; exact ⟨h1, h2, l, s, hs, rfl⟩
    · rw [upd_ne _ _ e] at hz
      exact h.at_ k z hk2 hz
  · by_cases e : k = l * 64 + s
    · subst e
      rw [upd_at, List.nodup_append]
      refine ⟨h.nd _ hk, by simp, fun a ha c hc q => hr ?_⟩
      rw [← List.mem_singleton.1 hc, ← q]
      exact (h.mem _).2 ⟨_, hk, ha⟩
    · rw [upd_ne _ _ e]
      exact h.nd k hk2
theorem nd_del {L : List Rq} {p : Nat} (h : L.Nodup) (hp : p < L.length) : (del L p).Nodup ∧ ∀ z, z ∈ del L p ↔ z ∈ L ∧ z ≠ L.getD p zq := by
  have e0 : L = L.take p ++ L.getD p zq :: L.drop (p + 1) := by
    rw [List.getD_eq_getElem?_getD, List.getElem?_eq_getElem hp]
    simp
  have h' := h
  rw [e0, List.nodup_append, List.nodup_cons] at h'
  obtain ⟨n1, ⟨n2, n3⟩, n4⟩ := h'
  unfold del
  refine ⟨List.nodup_append.2 ⟨n1, n3, fun a ha c hc => n4 a ha c (List.mem_cons_of_mem _ hc)⟩, fun z => ?_⟩
  have e1 : z ∈ L ↔ z ∈ L.take p ∨ z = L.getD p zq ∨ z ∈ L.drop (p + 1) := by
    conv => lhs; rw [e0]
    rw [List.mem_append, List.mem_cons]
  rw [e1, List.mem_append]
  constructor
  · rintro (q | q)
    · exact ⟨Or.inl q, fun e => n4 z q _ List.mem_cons_self e⟩
    · exact ⟨Or.inr (Or.inr q), fun e => n2 (by rw [← e]; exact q)⟩
  · rintro ⟨q | q | q, n⟩
    · exact Or.inl q
    · exact absurd q n
    · exact Or.inr q
theorem Iv.drop {now : Int} {R : Nat → List Rq} {M : List Rq} (h : Iv now R M) {k p : Nat} {r : Rq} (hk : k < 320) (hp : p < (R k).length) (he : (R k).getD p zq = r) : Iv now (upd R k (del (R k) p)) (drp M r) := by
  obtain ⟨d1, d2⟩ := nd_del (h.nd k hk) hp
  rw [he] at d2
  have hr : r ∈ R k := by rw [← he]; exact getD_mem hp
  refine ⟨h.n1, h.n2, drp_rs h.rs, ?_, fun z => ?_, fun j z hj hz => ?_, fun j hj => ?_⟩
  · have : (drp M r).length ≤ M.length := List.length_filter_le _ _
    have := h.len
    omega
  · rw [drp_mem, h.mem]
    constructor
    · rintro ⟨⟨j, hj, q⟩, n⟩
      refine ⟨j, hj, ?_⟩
      by_cases e : j = k
      · subst e; rw [upd_at, d2]; exact ⟨q, n⟩
      · rw [upd_ne _ _ e]; exact q
    · rintro ⟨j, hj, q⟩
      by_cases e : j = k
      · subst e
        rw [upd_at, d2] at q
        exact ⟨⟨j, hj, q.1⟩, q.2⟩
      · rw [upd_ne _ _ e] at q
        refine ⟨⟨j, hj, q⟩, fun n => e ?_⟩
        rw [n] at q
        exact h.one hj hk q hr
  · by_cases e : j = k
    · subst e
      rw [upd_at, d2] at hz
      exact h.at_ j z hj hz.1
    · rw [upd_ne _ _ e] at hz
      exact h.at_ j z hj hz
  · by_cases e : j = k
    · subst e; rw [upd_at]; exact d1
    · rw [upd_ne _ _ e]; exact h.nd j hj
theorem Iv.drop_len {now : Int} {R : Nat → List Rq} {M : List Rq} (h : Iv now R M) {r : Rq} (hr : r ∈ M) : (drp M r).length = M.length - 1 := by
  have h1 := nd_len (P := r :: drp M r) (M := M) (List.nodup_cons.2 ⟨fun q => (drp_mem.1 q).2 rfl, rs_nd (drp_rs h.rs)⟩) (fun z hz => by
    rcases List.mem_cons.1 hz with rfl | q
    · exact hr
    · exact (drp_mem.1 q).1)
  have h2 := nd_len (P := M) (M := r :: drp M r) (rs_nd h.rs) (fun z hz => by
    by_cases e : z = r
    · rw [e]; exact List.mem_cons_self
    · exact List.mem_cons_of_mem _ (drp_mem.2 ⟨hz, e⟩))
  simp only [List.length_cons] at h1 h2
  omega
/-- What is gone over. -/
theorem Iv.tk_nd {now : Int} {R : Nat → List Rq} {M : List Rq} (h : Iv now R M) : ∀ n, n ≤ 320 → (tkL R 0 n).Nodup
  | 0, _ => List.nodup_nil
  | n + 1, hn => by
    rw [tkL_succ, List.nodup_append, Nat.zero_add]
    refine ⟨Iv.tk_nd h n (by omega), h.nd n (by omega), fun a ha c hc e => ?_⟩
    obtain ⟨k, _, h2, h3⟩ := tkL_mem.1 ha
    rw [← e] at hc
    have := h.one (by omega) (by omega) h3 hc
    omega
theorem Iv.tk_len {now : Int} {R : Nat → List Rq} {M : List Rq} (h : Iv now R M) {n : Nat} (hn : n ≤ 320) : (tkL R 0 n).length ≤ M.length :=
  nd_len (h.tk_nd n hn) (fun z hz => by
    obtain ⟨k, _, h2, h3⟩ := tkL_mem.1 hz
    exact (h.mem z).2 ⟨k, by omega, h3⟩)
/-- What is due is gone over. -/
theorem Iv.due {now t : Int} {R : Nat → List Rq} {M : List Rq} (h : Iv now R M) {top last : Nat} (hs : Sp now.toNat t.toNat top last) (h2 : last < 64) (ht : 1 ≤ t) {z : Rq} (hz : z ∈ M) (hd : z.1 ≤ t) : z ∈ tkL R 0 (top * 64 + (last + 1)) := by
  obtain ⟨k, hk, hr⟩ := (h.mem z).1 hz
  obtain ⟨a, b, l, s, h1, e⟩ := h.at_ k z hk hr
  have n1 := h.n1
  have hs6 := (h1.lt (by have := h.n2; omega) (by omega)).2
  refine tkL_mem.2 ⟨k, Nat.zero_le _, ?_, hr⟩
  rcases sp_due hs h1 (by omega) (by omega) with q | ⟨q, q2⟩ <;> omega
/-- What is there at the later time, ahead of laying what was taken out too far. -/
theorem Iv.later {now t : Int} {R : Nat → List Rq} {M : List Rq} (h : Iv now R M) {top last : Nat} (hs : Sp now.toNat t.toNat top last) (h2 : last < 64) (ht : 1 ≤ t) (ht2 : t ≤ 157785119) :
    ∃ N, Iv t (tkR R 0 (top * 64 + (last + 1))) N ∧ ∀ z, z ∈ N ↔ z ∈ M ∧ t < z.1 ∧ (z ∉ tkL R 0 (top * 64 + (last + 1)) ∨ z ∈ ([] : List Rq)) := by
  have n1 := h.n1
  have n2 := h.n2
  have far : ∀ z, z ∈ M → z ∉ tkL R 0 (top * 64 + (last + 1)) → t < z.1 := fun z hz hn => by
    rcases Int.lt_or_le t z.1 with q | q
    · exact q
    · exact absurd (h.due hs h2 ht hz q) hn
  refine ⟨M.filter (fun z => !hasQ (tkL R 0 (top * 64 + (last + 1))) z), ⟨ht, ht2, List.Pairwise.sublist List.filter_sublist h.rs, ?_, fun z => ?_, fun k z hk hz => ?_, fun k hk => ?_⟩, fun z => ?_⟩
  · have := List.length_filter_le (fun z => !hasQ (tkL R 0 (top * 64 + (last + 1))) z) M
    have := h.len
    omega
  · rw [List.mem_filter, Bool.not_eq_true', hasQ_not, h.mem]
    constructor
    · rintro ⟨⟨k, hk, q⟩, n⟩
      refine ⟨k, hk, ?_⟩
      unfold tkR
      rw [if_neg (fun e => n (tkL_mem.2 ⟨k, e.1, e.2, q⟩))]
      exact q
    · rintro ⟨k, hk, q⟩
      unfold tkR at q
      split at q
      · cases q
      · rename_i e
        refine ⟨⟨k, hk, q⟩, fun q2 => ?_⟩
        obtain ⟨j, j1, j2, j3⟩ := tkL_mem.1 q2
        have hj : j < 320 := by
          have := (hs.lt (by omega) (by omega)).1
          omega
        have := h.one hk hj q j3
        omega
  · unfold tkR at hz
    split at hz
    · cases hz
    · rename_i e
      obtain ⟨a, b, l, s, h1, e2⟩ := h.at_ k z hk hz
      have hs6 := (h1.lt (by omega) (by omega)).2
      have hn : ¬ (l < top ∨ (l = top ∧ s ≤ last)) := by omega
      refine ⟨?_, b, l, s, sp_kept hs h1 hn, e2⟩
      rcases Int.lt_or_le t z.1 with q | q
      · exact q
      · exact absurd (sp_due hs h1 (by omega) (by omega)) hn
  · unfold tkR
    split
    · exact List.nodup_nil
    · exact h.nd k hk
  · rw [List.mem_filter, Bool.not_eq_true', hasQ_not]
    constructor
    · rintro ⟨q1, q2⟩
      exact ⟨q1, far z q1 q2, Or.inl q2⟩
    · rintro ⟨q1, _, q3 | q3⟩
      · exact ⟨q1, q3⟩
      · cases q3
/-- One that was taken out too far is laid again. -/
theorem Iv.again {now t : Int} {R Ri : Nat → List Rq} {M N P Q : List Rq} {r : Rq} {l s : Nat} (h : Iv now R M) (hN : Iv t Ri N) (hm : ∀ z, z ∈ N ↔ z ∈ M ∧ t < z.1 ∧ (z ∉ P ∨ z ∈ Q)) (hrM : r ∈ M) (hrP : r ∈ P) (hrQ : r ∉ Q) (ht : t < r.1) (hk : l * 64 + s < 320) (hs : Sp t.toNat r.1.toNat l s) :
    ∃ N', Iv t (upd Ri (l * 64 + s) (Ri (l * 64 + s) ++ [r])) N' ∧ ∀ z, z ∈ N' ↔ z ∈ M ∧ t < z.1 ∧ (z ∉ P ∨ z ∈ Q ++ [r]) := by
  have hrN : r ∉ N := fun q => by
    rcases ((hm r).1 q).2.2 with e | e
    · exact e hrP
    · exact hrQ e
  have hlen : N.length < 400 := by
    have := nd_len (P := r :: N) (M := M) (List.nodup_cons.2 ⟨hrN, rs_nd hN.rs⟩) (fun z hz => by
      rcases List.mem_cons.1 hz with rfl | q
      · exact hrM
      · exact ((hm z).1 q).1)
    have := h.len
    simp only [List.length_cons] at *
    omega
  refine ⟨put N r, hN.add hk hs ht (h.in_ hrM).2 hrN hlen, fun z => ?_⟩
  rw [put_mem hrN, hm, List.mem_append, List.mem_singleton]
  constructor
  · rintro (⟨q1, q2, q3⟩ | rfl)
    · exact ⟨q1, q2, q3.imp id Or.inl⟩
    · exact ⟨hrM, ht, Or.inr (Or.inr rfl)⟩
  · rintro ⟨q1, q2, q3 | q3 | q3⟩
    · exact Or.inl ⟨q1, q2, Or.inl q3⟩
    · exact Or.inl ⟨q1, q2, Or.inr q3⟩
    · exact Or.inr q3
/-- What is due by a time, and what is not. -/
def dueQ (M : List Rq) (t : Int) : List Rq := M.filter (fun z => decide (z.1 ≤ t))
def laterQ (M : List Rq) (t : Int) : List Rq := M.filter (fun z => decide (t < z.1))
theorem dueQ_mem {M : List Rq} {t : Int} {z : Rq} : z ∈ dueQ M t ↔ z ∈ M ∧ z.1 ≤ t := by unfold dueQ; rw [List.mem_filter, decide_eq_true_iff]
theorem laterQ_mem {M : List Rq} {t : Int} {z : Rq} : z ∈ laterQ M t ↔ z ∈ M ∧ t < z.1 := by unfold laterQ; rw [List.mem_filter, decide_eq_true_iff]
theorem dueQ_rs {M : List Rq} {t : Int} (h : Rs M) : Rs (dueQ M t) := List.Pairwise.sublist List.filter_sublist h
theorem laterQ_rs {M : List Rq} {t : Int} (h : Rs M) : Rs (laterQ M t) := List.Pairwise.sublist List.filter_sublist h
theorem due_later : ∀ (M : List Rq) (t : Int), (dueQ M t).length + (laterQ M t).length = M.length
  | [], _ => rfl
  | x :: M, t => by
    have ih := due_later M t
    unfold dueQ laterQ at *
    by_cases h : x.1 ≤ t
    · rw [List.filter_cons_of_pos (by simpa using h), List.filter_cons_of_neg (by simp; omega)]
      simp only [List.length_cons]
      omega
    · rw [List.filter_cons_of_neg (by simpa using h), List.filter_cons_of_pos (by simp; omega)]
      simp only [List.length_cons]
      omega
/-- What is sorted of what is due. -/
theorem sorted_rs {B : List Rq} (h : B.Pairwise (fun x y => ¬ oc y x < 0)) (hn : B.Nodup) : Rs B := by
  have h2 := List.Pairwise.and h hn
  exact List.Pairwise.imp (fun {a c} q => by
    have h1 : ¬ oc a c = 0 := fun e => q.2 ((oc_cm.eq a c).1 e)
    have h3 : ¬ 0 < oc a c := fun e => q.1 ((oc_cm.anti c a).2 e)
    omega) h2
theorem sorted_due {now t : Int} {R : Nat → List Rq} {M P D B : List Rq} (h : Iv now R M) (hP : P.Nodup) (hPM : ∀ z, z ∈ P → z ∈ M) (hdue : ∀ z, z ∈ M → z.1 ≤ t → z ∈ P) (hD : D = P.filter (fun z => decide (z.1 ≤ t))) (hB : D.Perm B) (hs : B.Pairwise (fun x y => ¬ oc y x < 0)) : B = dueQ M t := by
  have nD : D.Nodup := by rw [hD]; exact List.Pairwise.sublist List.filter_sublist hP
  refine rs_ext (sorted_rs hs (hB.nodup_iff.1 nD)) (dueQ_rs h.rs) (fun z => ?_)
  rw [← hB.mem_iff, hD, List.mem_filter, decide_eq_true_iff, dueQ_mem]
  exact ⟨fun q => ⟨hPM z q.1, q.2⟩, fun q => ⟨hdue z q.1 q.2, q.2⟩⟩
/-- The end of going on. -/
theorem Iv.fin {t : Int} {Ri : Nat → List Rq} {M N P : List Rq} (hN : Iv t Ri N) (hM : Rs M) (hm : ∀ z, z ∈ N ↔ z ∈ M ∧ t < z.1 ∧ (z ∉ P ∨ z ∈ P)) : Iv t Ri (laterQ M t) := by
  have e : N = laterQ M t := rs_ext hN.rs (laterQ_rs hM) (fun z => by
    rw [hm, laterQ_mem]
    exact ⟨fun q => ⟨q.1, q.2.1⟩, fun q => ⟨q.1, q.2, (Classical.em _).symm⟩⟩)
  rw [← e]
  exact hN
/-- A wheel with its rings. -/
def Wl (w : World) (b : Nat) (S : Nat → Value) (now : Int) (M : List Rq) : Prop := ∃ R, Wm w b now M.length S R ∧ Iv now R M
theorem Wl.inw {w : World} {b : Nat} {S : Nat → Value} {now : Int} {M : List Rq} (h : Wl w b S now M) {g : Nat} (hg : Ft b S g) : b ≤ g ∧ g < w.heap.size := by
  obtain ⟨R, h1, _⟩ := h
  exact h1.inw hg
theorem Wl.onB {w w' : World} {b : Nat} {S : Nat → Value} {now : Int} {M : List Rq} (h : Wl w b S now M) (q : Below w.heap.size w w') : Wl w' b S now M := by
  obtain ⟨R, h1, h2⟩ := h
  exact ⟨R, h1.onB q, h2⟩
theorem Wl.on {w w' : World} {b : Nat} {S : Nat → Value} {now : Int} {M : List Rq} (h : Wl w b S now M) (q : ∀ g, Ft b S g → w'.heap[g]? = w.heap[g]?) : Wl w' b S now M := by
  obtain ⟨R, h1, h2⟩ := h
  exact ⟨R, h1.on q, h2⟩
theorem Wl.rs {w : World} {b : Nat} {S : Nat → Value} {now : Int} {M : List Rq} (h : Wl w b S now M) : Rs M := by
  obtain ⟨R, _, h2⟩ := h
  exact h2.rs
theorem Wl.len {w : World} {b : Nat} {S : Nat → Value} {now : Int} {M : List Rq} (h : Wl w b S now M) : M.length ≤ 400 := by
  obtain ⟨R, _, h2⟩ := h
  exact h2.len
end Go.Proofs.YthdohcjingfpoaaGreatDoor.Qu
namespace Go.Proofs.YthdohcjingfpoaaGreatDoor.Qu
open Go.RowKit

theorem oc_lt (x y : Rq) : ltOf oc x y = decide (oc x y < 0) := rfl
theorem oc_swo : Sort.SWO (ltOf oc) where
  irrefl x := by rw [oc_lt, oc_self]; rfl
  trans x y z h1 h2 := by rw [oc_lt] at *; exact decide_eq_true (oc_cm.tr _ _ _ (of_decide_eq_true h1) (of_decide_eq_true h2))
  ntrans x y z h1 h2 := by
    rw [oc_lt] at *
    have h1' := of_decide_eq_false h1
    have h2' := of_decide_eq_false h2
    apply decide_eq_false
    intro h3
    have a1 : oc y x ≤ 0 := by
      rcases Int.lt_or_le 0 (oc y x) with q | q
      · exact absurd ((oc_cm.anti x y).2 q) h1'
      · exact q
    have a2 : oc z y ≤ 0 := by
      rcases Int.lt_or_le 0 (oc z y) with q | q
      · exact absurd ((oc_cm.anti y z).2 q) h2'
      · exact q
    rcases (by omega : oc y x = 0 ∨ oc y x < 0) with q | q
    · rw [(oc_cm.eq _ _).1 q] at h2'
      exact h2' h3
    · rcases (by omega : oc z y = 0 ∨ oc z y < 0) with q2 | q2
      · rw [(oc_cm.eq _ _).1 q2] at h3
        exact h1' h3
      · have := oc_cm.tr _ _ _ q2 q
        have := (oc_cm.anti _ _).1 this
        omega
/-- What is sorted. -/
def SrqA (n0 : Nat) (w : World) (v : Value) (l : List Rq) (e : Ending) (w' : World) : Prop := e = .returned (.tuple #[]) ∧ ∃ B, l.Perm B ∧ B.Pairwise (fun x y => ¬ oc y x < 0) ∧ w.grownBy w' v.ownBlock ∧ Ow w' n0 v B
theorem sortQ_any (l : List Rq) (n0 : Nat) (v : Value) (w : World) (h : Ow w n0 v l) (hl : l.length ≤ 1000000) :
    Calls Tryz.prog 59 #[v, .func (.func 13) #[] #[]] w (SrqA n0 w v l) := by
  rcases (own_openK encQ 5 (fun _ => rfl) (by decide) h).2 with ⟨rfl, rfl⟩ | ⟨g, cap, rfl, hg, hgl, _, hh⟩
  · refine (AnyF.slices_SortFunc_none Tryz.sortRg none 0 (.func (.func 13) #[] #[]) w).mono ?_
    rintro e w' ⟨rfl, rfl⟩
    exact ⟨rfl, [], List.Perm.refl _, by simp, grown_refl _ _, World.ownsRow_nil _ _ _ _⟩
  · have eg : ∀ args w, (callFunc 13 args).run Tryz.prog w = .ok (.enter 13 args) w := enters_of Tryz.func13 (by kernel_rfl) rfl
    have hcon := AnyQ.slices_SortFunc Tryz.sortRg 5 Tryz.isAgg45 Tryz.sizeOf45 encQ (fun _ => rfl) encQ_one oc oc_swo 13 #[] g 0 cap l.toArray w eg (fun _ _ _ _ x y => order_run x y _) hh hgl (by simp; omega)
    refine hcon.mono ?_
    rintro e w' ⟨rfl, d', n, os, hp, hs, rfl⟩
    have hsz : d'.size = l.toArray.size := hp.1
    have hperm : l.Perm d'.toList := by
      have := hp.2.2
      rw [← hsz, Array.extract_size, hsz, Array.extract_size] at this
      simpa using this.symm
    refine ⟨rfl, d'.toList, hperm, ?_, ?_, ?_⟩
    · rw [List.pairwise_iff_getElem]
      intro i j hi hj hij
      have := hs i j (Nat.zero_le _) hij (by rw [← hsz]; simpa using hj)
      rw [oc_lt, getElem!_pos _ i (by simpa using hi), getElem!_pos _ j (by simpa using hj)] at this
      simpa using this
    · have q1 : (Sort.ahead w n).grownBy (Sort.putRowK encQ 5 (Sort.ahead w n) g 0 d') (some g) := ⟨rfl, rfl, rfl, by simp [Sort.putRowK, Sort.putRow, Sort.mapBlock], fun j _ hne => by
        simp only [Sort.putRowK, Sort.putRow, Sort.mapBlock, Array.getElem?_modify]
        rw [if_neg (fun e => hne (by rw [e]))]⟩
      have q2 : (Sort.putRowK encQ 5 (Sort.ahead w n) g 0 d').grownBy (Sort.grow (Sort.putRowK encQ 5 (Sort.ahead w n) g 0 d') os) (some g) := grown_below (belowG os (Nat.le_refl _)) _
      have q3 := grown_tr q1 q2
      exact ⟨q3.os, q3.tape, q3.output, q3.size, q3.block⟩
    · have := ow_below (own_putK encQ 5 (fun _ => rfl) (by decide) (q := n) h d' (by simpa using hsz)) (belowG os (Nat.le_refl _))
      rw [hperm.length_eq] at this ⊢
      exact this
end Go.Proofs.YthdohcjingfpoaaGreatDoor.Qu
namespace Go.Proofs.YthdohcjingfpoaaGreatDoor.Qu
open Go.RowKit

/-- By its time alone. -/
theorem oc_at {x y : Rq} (h : x.1 < y.1) : oc x y < 0 := by
  unfold oc
  have e : cmi x.1 y.1 = -1 := if_pos h
  simp only [orL, e]
  rw [if_neg (by decide)]
  decide
theorem due_split {M : List Rq} (h : Rs M) (t : Int) : dueQ M t ++ laterQ M t = M := by
  refine rs_ext ?_ h (fun z => ?_)
  · unfold Rs
    rw [List.pairwise_append]
    refine ⟨dueQ_rs h, laterQ_rs h, fun x hx y hy => oc_at ?_⟩
    have := (dueQ_mem.1 hx).2
    have := (laterQ_mem.1 hy).2
    omega
  · rw [List.mem_append, dueQ_mem, laterQ_mem]
    constructor
    · rintro (q | q)
      · exact q.1
      · exact q.1
    · intro q
      rcases Int.lt_or_le t z.1 with r | r
      · exact Or.inr ⟨q, r⟩
      · exact Or.inl ⟨q, r⟩
theorem later_later {M : List Rq} {t t' : Int} (h : t ≤ t') : laterQ (laterQ M t) t' = laterQ M t' := by
  unfold laterQ
  rw [List.filter_filter]
  apply List.filter_congr
  intro z _
  rw [Bool.eq_iff_iff, Bool.and_eq_true, decide_eq_true_iff, decide_eq_true_iff]
  omega
theorem due_due {M : List Rq} (hM : Rs M) {t t' : Int} (h : t ≤ t') : dueQ M t ++ dueQ (laterQ M t) t' = dueQ M t' := by
  refine rs_ext ?_ (dueQ_rs hM) (fun z => ?_)
  · unfold Rs
    rw [List.pairwise_append]
    refine ⟨dueQ_rs hM, dueQ_rs (laterQ_rs hM), fun x hx y hy => oc_at ?_⟩
    have := (dueQ_mem.1 hx).2
    have := (laterQ_mem.1 (dueQ_mem.1 hy).1).2
    omega
  · rw [List.mem_append, dueQ_mem, dueQ_mem, dueQ_mem, laterQ_mem]
    constructor
    · rintro (q | q)
      · exact ⟨q.1, by omega⟩
      · exact ⟨q.1.1, q.2⟩
    · intro q
      rcases Int.lt_or_le t z.1 with r | r
      · exact Or.inr ⟨⟨q.1, r⟩, q.2⟩
      · exact Or.inl ⟨q.1, r⟩
theorem due_none {M : List Rq} {t : Int} (h : ∀ z, z ∈ M → t < z.1) : dueQ M t = [] ∧ laterQ M t = M := by
  constructor
  · unfold dueQ
    rw [List.filter_eq_nil_iff]
    intro z hz
    have := h z hz
    simp
    omega
  · unfold laterQ
    rw [List.filter_eq_self]
    intro z hz
    exact decide_eq_true (h z hz)
theorem Wl.above {w : World} {b : Nat} {S : Nat → Value} {now : Int} {M : List Rq} (h : Wl w b S now M) : ∀ z, z ∈ M → now < z.1 := fun z hz => by
  obtain ⟨R, _, h2⟩ := h
  exact (h2.in_ hz).1
end Go.Proofs.YthdohcjingfpoaaGreatDoor.Qu
