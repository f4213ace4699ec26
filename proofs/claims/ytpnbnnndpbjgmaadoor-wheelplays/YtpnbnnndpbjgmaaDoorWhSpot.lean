/-
  What is proved here: a wheel as it lies in memory, what is kept by a call that changes one; what package wheel's spot answers (a contract over the translation).
-/
import Derived.Test.YtpnbnnndpbjgmaaDoorWhPure
namespace Go.Proofs.YtpnbnnndpbjgmaaDoor.Qu
open Go.RowKit

/-- The cells of a wheel. -/
def hf (now many : Int) (S : Nat → Value) (j : Nat) : Value := if j = 0 then .int .i64 now else if j = 1 then .int .i64 many else S (j - 2)
def wcs (f : Nat → Value) : List Value := (List.range 322).map f
theorem wcs_len (f : Nat → Value) : (wcs f).length = 322 := by simp [wcs]
theorem wcs_at {f : Nat → Value} {j : Nat} (h : j < 322) : (wcs f)[j]? = some (f j) := by simp [wcs, h]
def upd {α : Type} (f : Nat → α) (k : Nat) (v : α) : Nat → α := fun j => if j = k then v else f j
theorem upd_at {α : Type} (f : Nat → α) (k : Nat) (v : α) : upd f k v k = v := if_pos rfl
theorem upd_ne {α : Type} (f : Nat → α) {k j : Nat} (v : α) (h : j ≠ k) : upd f k v j = f j := if_neg h
theorem wcs_set (f : Nat → Value) (j : Nat) (v : Value) : (wcs f).set j v = wcs (upd f j v) := by
  apply List.ext_getElem?
  intro i
  rw [List.getElem?_set]
  by_cases h : j = i
  · subst h
    by_cases h2 : j < 322
    · simp [wcs, upd, h2]
    · simp [wcs, h2]
  · rw [if_neg h]
    by_cases h2 : i < 322
    · rw [wcs_at h2, wcs_at h2, upd_ne f v (Ne.symm h)]
    · rw [List.getElem?_eq_none (by rw [wcs_len]; omega), List.getElem?_eq_none (by rw [wcs_len]; omega)]
theorem hf_now (now many now' : Int) (S : Nat → Value) : upd (hf now many S) 0 (.int .i64 now') = hf now' many S := by
  funext j
  unfold upd hf
  split <;> rfl
theorem hf_many (now many many' : Int) (S : Nat → Value) : upd (hf now many S) 1 (.int .i64 many') = hf now many' S := by
  funext j
  unfold upd hf
  by_cases h : j = 1
  · subst h; simp
  · rw [if_neg h]; simp [h]
theorem hf_slot (now many : Int) (S : Nat → Value) (k : Nat) (v : Value) : upd (hf now many S) (2 + k) v = hf now many (upd S k v) := by
  funext j
  unfold upd hf
  by_cases h : j = 2 + k
  · subst h
    rw [if_pos rfl, if_neg (by omega), if_neg (by omega)]
    exact (if_pos (by omega)).symm
  · rw [if_neg h]
    by_cases h0 : j = 0
    · rw [if_pos h0, if_pos h0]
    · by_cases h1 : j = 1
      · rw [if_neg h0, if_pos h1, if_neg h0, if_pos h1]
      · rw [if_neg h0, if_neg h1, if_neg h0, if_neg h1]
        exact (if_neg (by omega)).symm
/-- A wheel's block. -/
def Wb (w : World) (b : Nat) (now many : Int) (S : Nat → Value) : Prop := w.heap[b]? = some (.cells (wcs (hf now many S)).toArray 51 (0, 0))
theorem Wb.lt {w : World} {b : Nat} {now many : Int} {S : Nat → Value} (h : Wb w b now many S) : b < w.heap.size := by
  rcases Nat.lt_or_ge b w.heap.size with q | q
  · exact q
  · unfold Wb at h
    rw [Array.getElem?_eq_none q] at h
    cases h
theorem Wb.cell {w : World} {b : Nat} {now many : Int} {S : Nat → Value} (h : Wb w b now many S) {j : Nat} (hj : j < 322) : w.cell? ⟨b, j, none⟩ = some (hf now many S j) := by
  unfold Wb at h
  simp [World.cell?, h, wcs_at hj]
theorem Wb.frozen {w : World} {b : Nat} {now many : Int} {S : Nat → Value} (h : Wb w b now many S) (j : Nat) : w.frozen? ⟨b, j, none⟩ = false := by
  unfold Wb at h
  simp [World.frozen?, h]
theorem Wb.cnow {w : World} {b : Nat} {now many : Int} {S : Nat → Value} (h : Wb w b now many S) : w.cell? ⟨b, 0, none⟩ = some (.int .i64 now) := h.cell (by omega)
theorem Wb.cmany {w : World} {b : Nat} {now many : Int} {S : Nat → Value} (h : Wb w b now many S) : w.cell? ⟨b, 1, none⟩ = some (.int .i64 many) := h.cell (by omega)
theorem Wb.cslot {w : World} {b : Nat} {now many : Int} {S : Nat → Value} (h : Wb w b now many S) {k : Nat} (hk : k < 320) : w.cell? ⟨b, 2 + k, none⟩ = some (S k) := by
  rw [h.cell (j := 2 + k) (by omega)]
  unfold hf
  rw [if_neg (by omega), if_neg (by omega), show 2 + k - 2 = k by omega]
theorem Wb.on {w w' : World} {b : Nat} {now many : Int} {S : Nat → Value} (h : Wb w b now many S) (q : w'.heap[b]? = w.heap[b]?) : Wb w' b now many S := q.trans h
theorem Wb.set {w : World} {b : Nat} {now many : Int} {S : Nat → Value} (h : Wb w b now many S) (j : Nat) (v : Value) : (w.setCell ⟨b, j, none⟩ v).heap[b]? = some (.cells (wcs (upd (hf now many S) j v)).toArray 51 (0, 0)) := by
  unfold Wb at h
  rw [setCell_eq_setRow w b j _ 51 (0, 0) v h, setRow_heap w b _ _ _ _ h]
  rw [← wcs_set]
  simp
/-- What a wheel has of its own. -/
def Ft (b : Nat) (S : Nat → Value) (g : Nat) : Prop := g = b ∨ ∃ k, k < 320 ∧ (S k).ownBlock = some g
/-- What a call keeps: all but what is handed to it to be changed. -/
structure Kf (F F' : Nat → Prop) (w w' : World) : Prop where
  os : w'.os = w.os
  tape : w'.tape = w.tape
  output : w'.output = w.output
  size : w.heap.size ≤ w'.heap.size
  block : ∀ k, k < w.heap.size → ¬ F k → w'.heap[k]? = w.heap[k]?
  own : ∀ k, F' k → F k ∨ w.heap.size ≤ k
theorem Kf.refl (F : Nat → Prop) (w : World) : Kf F F w w := ⟨rfl, rfl, rfl, Nat.le_refl _, fun _ _ _ => rfl, fun _ h => Or.inl h⟩
theorem Kf.trans {F G H : Nat → Prop} {a c d : World} (h : Kf F G a c) (k : Kf G H c d) : Kf F H a d :=
  ⟨k.os.trans h.os, k.tape.trans h.tape, k.output.trans h.output, Nat.le_trans h.size k.size, fun i hi hf => (k.block i (Nat.lt_of_lt_of_le hi h.size) (fun e => by
    rcases h.own i e with q | q
    · exact hf q
    · omega)).trans (h.block i hi hf), fun i hi => by
    rcases k.own i hi with q | q
    · exact h.own i q
    · exact Or.inr (Nat.le_trans h.size q)⟩
theorem Kf.of_below {F : Nat → Prop} {w w' : World} (h : Below w.heap.size w w') : Kf F F w w' := ⟨h.os, h.tape, h.output, h.size, fun k hk _ => h.block k hk, fun _ h => Or.inl h⟩
theorem Kf.below {F G : Nat → Prop} {B : Nat} {w w' : World} (h : Kf F G w w') (hB : B ≤ w.heap.size) (hF : ∀ k, F k → B ≤ k) : Below B w w' :=
  ⟨h.os, h.tape, h.output, h.size, fun k hk => h.block k (by omega) (fun e => by have := hF k e; omega)⟩
/-- What lies apart stays apart. -/
theorem Kf.apart {F F' : Nat → Prop} {w w' : World} (h : Kf F F' w w') {g : Nat} (hg : g < w.heap.size) (hF : ¬ F g) : ¬ F' g := fun e => by
  rcases h.own g e with q | q
  · exact hF q
  · omega
/-- A wheel: its block, its rows. -/
structure Wm (w : World) (b : Nat) (now many : Int) (S : Nat → Value) (R : Nat → List Rq) : Prop where
  box : Wb w b now many S
  own : ∀ k, k < 320 → Ow w (b + 1) (S k) (R k)
  apart : ∀ k j, k < 320 → j < 320 → k ≠ j → ∀ g, (S k).ownBlock = some g → (S j).ownBlock ≠ some g
theorem Wm.inw {w : World} {b : Nat} {now many : Int} {S : Nat → Value} {R : Nat → List Rq} (h : Wm w b now many S R) {g : Nat} (hg : Ft b S g) : b ≤ g ∧ g < w.heap.size := by
  rcases hg with rfl | ⟨k, hk, e⟩
  · exact ⟨Nat.le_refl _, h.box.lt⟩
  · have := (h.own k hk).lt g e
    omega
theorem Wm.on {w w' : World} {b : Nat} {now many : Int} {S : Nat → Value} {R : Nat → List Rq} (h : Wm w b now many S R) (q : ∀ g, Ft b S g → w'.heap[g]? = w.heap[g]?) : Wm w' b now many S R :=
  ⟨h.box.on (q b (Or.inl rfl)), fun k hk => own_on (h.own k hk) (fun g hg => q g (Or.inr ⟨k, hk, hg⟩)), h.apart⟩
theorem Wm.onB {w w' : World} {b : Nat} {now many : Int} {S : Nat → Value} {R : Nat → List Rq} (h : Wm w b now many S R) (q : Below w.heap.size w w') : Wm w' b now many S R := h.on (fun g hg => q.block g (h.inw hg).2)
/-- Where a thing that lies apart is changed. -/
theorem Wm.onK {w w' : World} {b : Nat} {now many : Int} {S : Nat → Value} {R : Nat → List Rq} {F F' : Nat → Prop} (h : Wm w b now many S R) (q : Kf F F' w w') (hd : ∀ g, Ft b S g → ¬ F g) : Wm w' b now many S R := h.on (fun g hg => q.block g (h.inw hg).2 (hd g hg))
/-- What spot answers. -/
def SpA (now t : Int) (w : World) (e : Ending) (w' : World) : Prop := ∃ l s : Nat, Hid (Sp now.toNat t.toNat l s) ∧ l < 5 ∧ s < 64 ∧ e = .returned (.tuple #[.int .i64 l, .int .i64 s]) ∧ Below w.heap.size w w'
set_option maxRecDepth 100000 in
set_option maxHeartbeats 2000000 in
theorem spot_any (w : World) (b : Nat) (now many : Int) (S : Nat → Value) (t : Int) (h : Wb w b now many S) (hn : 1 ≤ now) (hn2 : now ≤ 157785119) (ht : 1 ≤ t) (ht2 : t ≤ 157785119) :
    Calls Tryd.prog 20 #[.pointer (some ⟨b, 0, none⟩), .int .i64 t] w (SpA now t w) := by
  have c := h.cnow
  have bl := h.lt
  obtain ⟨N, hN⟩ : ∃ N, N = now.toNat := ⟨_, rfl⟩
  obtain ⟨T, hT⟩ : ∃ T, T = t.toNat := ⟨_, rfl⟩
  obtain rfl : now = (N : Int) := by omega
  obtain rfl : t = (T : Int) := by omega
  have hN2 : N < 1073741824 := by omega
  have hT2 : T < 1073741824 := by omega
  have EN : Hid (∀ k, T / 64 ^ (k + 1) ≠ N / 64 ^ (k + 1) → k < 4) := Lib.hid (fun k hk => by
    rcases Nat.lt_or_ge k 4 with q | q
    · exact q
    · exfalso
      apply hk
      refine div_up (i := 5) ?_ (by omega)
      have e : (64 : Nat) ^ 5 = 1073741824 := by decide
      rw [e, Nat.div_eq_of_lt hT2, Nat.div_eq_of_lt hN2])
  have FI : Hid (∀ k X : Nat, k < 5 → Sp N T k (X % 64) → ∀ W, Below w.heap.size w W → SpA (N : Int) (T : Int) w (.returned (.tuple #[.int .i64 (k : Int), .int .i64 ((X : Int) % 64)])) W) := Lib.hid (fun k X hk hs W hW => ⟨k, X % 64, Lib.hid (by simpa using hs), hk, by omega, by simp, hW⟩)
  generalize SpA (N : Int) (T : Int) w = PP at FI ⊢
  clear h hN hT hn hn2 ht ht2
  go_enter Tryd.func20, Tryd.ntmps20
  go_upto_region 1 with fail
  go_quiet (fail)
  have B1 : Hid (Below w.heap.size w (w.drewN nq)) := Lib.hid (below_drewN (Below.refl _ _) _)
  generalize w.drewN nq = W1 at B1 ⊢
  clear c bl
  go_wp2_with fail
  go_loop [1, 6, 7] (fun x l y => ∃ k X Y : Nat, k < 5 ∧ x = .int .i64 X ∧ l = .int .i64 k ∧ y = .int .i64 Y ∧ X < 1073741824 ∧ Y < 1073741824 ∧ Hid (X = T / 64 ^ k ∧ Y = N / 64 ^ k) ∧ Hid (∀ i, i < k → T / 64 ^ (i + 1) ≠ N / 64 ^ (i + 1))) (fun _ l _ => 5 - (intOf l).toNat)
  case atStart => exact ⟨0, T, N, by omega, rfl, rfl, rfl, by omega, by omega, Lib.hid ⟨by simp, by simp⟩, Lib.hid (fun i hi => by omega)⟩
  case round =>
    obtain ⟨k, X, Y, hk, rfl, rfl, rfl, hX, hY, HXY, HI⟩ := hrel
    have HD : Hid (X / 64 = T / 64 ^ (k + 1) ∧ Y / 64 = N / 64 ^ (k + 1)) := Lib.hid (by rw [HXY.out.1, HXY.out.2, div_one, div_one]; exact ⟨rfl, rfl⟩)
    have HS : Hid (X % 64 = T / 64 ^ k % 64) := Lib.hid (by rw [HXY.out.1])
    by_cases hq : X / 64 = Y / 64
    · have HF := Lib.hid (FI.out k X hk ⟨by rw [← HD.out.1, ← HD.out.2, hq], HI.out, HS.out⟩ W1 B1.out)
      go_wp2
      exact HF.out
    · have H4 : k < 4 := EN.out k (by rw [← HD.out.1, ← HD.out.2]; exact hq)
      have HJ : Hid (∀ i, i < k + 1 → T / 64 ^ (i + 1) ≠ N / 64 ^ (i + 1)) := Lib.hid (fun i hi => by
        rcases (by omega : i < k ∨ i = k) with q | q
        · exact HI.out i q
        · rw [q, ← HD.out.1, ← HD.out.2]; exact hq)
      go_wp2
      go_round
      case rel => exact ⟨k + 1, X / 64, Y / 64, by omega, by go_num, by go_num, by go_num, by omega, by omega, HD, HJ⟩
      case measure => simp [intOf]; omega
end Go.Proofs.YtpnbnnndpbjgmaaDoor.Qu
