/-
  What is proved here: what package wheel's take and takeUpTo answer, and what they keep (contracts over the translation).
-/
import Derived.Test.YtpnbnnndpbjgmaaDoorWhLay
namespace Go.Proofs.YtpnbnnndpbjgmaaDoor.Qu
open Go.RowKit

/-- The rings of so many slots from one on. -/
def tkL (R : Nat → List Rq) (a n : Nat) : List Rq := (List.range n).flatMap (fun s => R (a + s))
/-- What is left where they are taken out. -/
def tkS (S : Nat → Value) (a n k : Nat) : Value := if a ≤ k ∧ k < a + n then .slice none 0 0 else S k
def tkR (R : Nat → List Rq) (a n k : Nat) : List Rq := if a ≤ k ∧ k < a + n then [] else R k
theorem tkL_zero (R : Nat → List Rq) (a : Nat) : tkL R a 0 = [] := rfl
theorem tkL_succ (R : Nat → List Rq) (a n : Nat) : tkL R a (n + 1) = tkL R a n ++ R (a + n) := by
  unfold tkL
  rw [List.range_succ, List.flatMap_append]
  simp
theorem tkL_add (R : Nat → List Rq) (a m : Nat) : ∀ n, tkL R a (m + n) = tkL R a m ++ tkL R (a + m) n
  | 0 => by simp [tkL_zero]
  | n + 1 => by rw [← Nat.add_assoc, tkL_succ, tkL_add R a m n, tkL_succ, List.append_assoc, Nat.add_assoc]
theorem tkL_ext {R R' : Nat → List Rq} {a n : Nat} (h : ∀ s, s < n → R (a + s) = R' (a + s)) : tkL R a n = tkL R' a n := by
  induction n with
  | zero => rfl
  | succ n ih => rw [tkL_succ, tkL_succ, ih (fun s hs => h s (by omega)), h n (by omega)]
theorem tkL_mem {R : Nat → List Rq} {a n : Nat} {z : Rq} : z ∈ tkL R a n ↔ ∃ k, a ≤ k ∧ k < a + n ∧ z ∈ R k := by
  unfold tkL
  rw [List.mem_flatMap]
  constructor
  · rintro ⟨s, hs, hz⟩
    rw [List.mem_range] at hs
    exact ⟨a + s, by omega, by omega, hz⟩
  · rintro ⟨k, h1, h2, hz⟩
    exact ⟨k - a, by rw [List.mem_range]; omega, by rw [show a + (k - a) = k by omega]; exact hz⟩
theorem tkL_le (R : Nat → List Rq) (a m n : Nat) (h : m ≤ n) : (tkL R a m).length ≤ (tkL R a n).length := by
  obtain ⟨d, rfl⟩ := Nat.le.dest h
  rw [tkL_add, List.length_append]
  omega
theorem tkS_zero (S : Nat → Value) (a : Nat) : tkS S a 0 = S := by funext k; unfold tkS; rw [if_neg (by omega)]
theorem tkR_zero (R : Nat → List Rq) (a : Nat) : tkR R a 0 = R := by funext k; unfold tkR; rw [if_neg (by omega)]
theorem tkS_succ (S : Nat → Value) (a n : Nat) : upd (tkS S a n) (a + n) (.slice none 0 0) = tkS S a (n + 1) := by
  funext k
  unfold upd tkS
  by_cases h : k = a + n
  · rw [if_pos h, if_pos (by omega)]
  · rw [if_neg h]
    by_cases h2 : a ≤ k ∧ k < a + n
    · rw [if_pos h2, if_pos (by omega)]
    · rw [if_neg h2, if_neg (by omega)]
theorem tkR_succ (R : Nat → List Rq) (a n : Nat) : upd (tkR R a n) (a + n) [] = tkR R a (n + 1) := by
  funext k
  unfold upd tkR
  by_cases h : k = a + n
  · rw [if_pos h, if_pos (by omega)]
  · rw [if_neg h]
    by_cases h2 : a ≤ k ∧ k < a + n
    · rw [if_pos h2, if_pos (by omega)]
    · rw [if_neg h2, if_neg (by omega)]
theorem tkS_add (S : Nat → Value) (a m n : Nat) : tkS (tkS S a m) (a + m) n = tkS S a (m + n) := by
  funext k
  unfold tkS
  by_cases h : a + m ≤ k ∧ k < a + m + n
  · rw [if_pos h, if_pos (by omega)]
  · rw [if_neg h]
    by_cases h2 : a ≤ k ∧ k < a + m
    · rw [if_pos h2, if_pos (by omega)]
    · rw [if_neg h2, if_neg (by omega)]
theorem tkR_add (R : Nat → List Rq) (a m n : Nat) : tkR (tkR R a m) (a + m) n = tkR R a (m + n) := by
  funext k
  unfold tkR
  by_cases h : a + m ≤ k ∧ k < a + m + n
  · rw [if_pos h, if_pos (by omega)]
  · rw [if_neg h]
    by_cases h2 : a ≤ k ∧ k < a + m
    · rw [if_pos h2, if_pos (by omega)]
    · rw [if_neg h2, if_neg (by omega)]
theorem tkL_rest (R : Nat → List Rq) (a m n : Nat) : tkL (tkR R a m) (a + m) n = tkL R (a + m) n := tkL_ext (fun s _ => by unfold tkR; rw [if_neg (by omega)])
theorem tkS_ft {b a n g : Nat} {S : Nat → Value} (h : Ft b (tkS S a n) g) : Ft b S g := by
  rcases h with h | ⟨k, hk, e⟩
  · exact Or.inl h
  · unfold tkS at e
    split at e
    · cases e
    · exact Or.inr ⟨k, hk, e⟩
/-- What is changed later, in blocks that were not there, is no matter. -/
theorem Kf.later {F G : Nat → Prop} {w a c : World} (h : Kf F G w a) (q : Below w.heap.size a c) : Kf F G w c :=
  ⟨q.os.trans h.os, q.tape.trans h.tape, q.output.trans h.output, Nat.le_trans h.size q.size, fun k hk hF => (q.block k hk).trans (h.block k hk hF), h.own⟩
theorem grown_low {w w' : World} {n0 : Nat} {v : Value} {l : List Rq} (h : Ow w n0 v l) (hn : n0 ≤ w.heap.size) (g : w.grownBy w' v.ownBlock) : Below n0 w w' := (Below.refl n0 w).grown g hn (fun j hj => (h.lt j hj).1)
/-- What take answers. -/
def TkA (b : Nat) (now many : Int) (S : Nat → Value) (R : Nat → List Rq) (a n : Nat) (w : World) (u : Value) (w' : World) : Prop := Ow w' w.heap.size u (tkL R a n) ∧ Wm w' b now many (tkS S a n) (tkR R a n) ∧ Kf (Ft b S) (Ft b (tkS S a n)) w w'
/-- One slot more. -/
theorem tk_step {w wr : World} {b a k : Nat} {now many : Int} {S : Nat → Value} {R : Nat → List Rq} {u : Value} (hw : Wm w b now many S R) (hT : TkA b now many S R a k w u wr) (hk : a + k < 320) (hl : (tkL R a (k + 1)).length ≤ 1000000) :
    wr.cell? ⟨b, 2 + (a + k), none⟩ = some (S (a + k)) ∧ b < wr.heap.size ∧ ∃ v' w3, (∀ ty, (Builtin.append_ #[23, 23] ty #[u, S (a + k)]).run Tryd.prog wr = .ok v' w3) ∧ b < w3.heap.size ∧ w3.cell? ⟨b, 2 + (a + k), none⟩ = some (S (a + k)) ∧ w3.frozen? ⟨b, 2 + (a + k), none⟩ = false ∧ TkA b now many S R a (k + 1) w v' (w3.setCell ⟨b, 2 + (a + k), none⟩ (.slice none 0 0)) := by
  obtain ⟨o, m, f⟩ := hT
  have hs : tkS S a k (a + k) = S (a + k) := by unfold tkS; rw [if_neg (by omega)]
  have hr : tkR R a k (a + k) = R (a + k) := by unfold tkR; rw [if_neg (by omega)]
  have rd := (m.own (a + k) hk).rd
  rw [hs, hr] at rd
  have hn : w.heap.size ≤ wr.heap.size := f.size
  obtain ⟨v', w3, ap, o3, g3, _⟩ := app5_at o rd hn (by rw [tkL_succ, List.length_append] at hl; omega)
  have b3 := grown_low o hn g3
  have m3 : Wm w3 b now many (tkS S a k) (tkR R a k) := m.on (fun g hg => b3.block g (hw.inw (tkS_ft hg)).2)
  have c0 := m.box.cslot hk
  have c3 := m3.box.cslot hk
  rw [hs] at c0 c3
  obtain ⟨m4, f4⟩ := wm_store (v' := .slice none 0 0) (l' := []) m3 hk (grown_refl w3 _) (World.ownsRow_nil w3 (b + 1) 34 5 : Ow w3 (b + 1) (.slice none 0 0) []) (fun g hg => by cases hg)
  rw [tkS_succ, tkR_succ] at m4
  rw [tkS_succ] at f4
  refine ⟨c0, m.box.lt, v', w3, ap, m3.box.lt, c3, m3.box.frozen _, ?_, m4, (f.later b3).trans f4⟩
  rw [tkL_succ]
  exact ownsRow_setCell_below o3 (by show b < w.heap.size; exact hw.box.lt) _
set_option maxRecDepth 100000 in
set_option maxHeartbeats 4000000 in
theorem take_any (w : World) (b : Nat) (now many : Int) (S : Nat → Value) (R : Nat → List Rq) (lev last : Nat) (h : Wm w b now many S R) (h1 : lev < 5) (h2 : last < 64) (hl : (tkL R (lev * 64) (last + 1)).length ≤ 1000000) :
    Calls Tryd.prog 31 #[.pointer (some ⟨b, 0, none⟩), .int .i64 lev, .int .i64 last] w fun e w' => ∃ u, e = .returned u ∧ TkA b now many S R (lev * 64) (last + 1) w u w' := by
  have ST : Hid (∀ k wr u, k < last + 1 → TkA b now many S R (lev * 64) k w u wr → wr.cell? ⟨b, 2 + lev * 64 + k, none⟩ = some (S (lev * 64 + k)) ∧ b < wr.heap.size ∧ ∃ v' w3, Hid (∀ ty, (Builtin.append_ #[23, 23] ty #[u, S (lev * 64 + k)]).run Tryd.prog wr = .ok v' w3) ∧ b < w3.heap.size ∧ w3.cell? ⟨b, 2 + lev * 64 + k, none⟩ = some (S (lev * 64 + k)) ∧ w3.frozen? ⟨b, 2 + lev * 64 + k, none⟩ = false ∧ Hid (TkA b now many S R (lev * 64) (k + 1) w v' (w3.setCell ⟨b, 2 + lev * 64 + k, none⟩ (.slice none 0 0)))) := Lib.hid (fun k wr u hk hT => by
    obtain ⟨c0, bl, v', w3, ap, bl3, c3, f3, t3⟩ := tk_step h hT (by omega) (Nat.le_trans (tkL_le R _ _ _ (by omega)) hl)
    rw [← Nat.add_assoc] at c0 c3 f3 t3
    exact ⟨c0, bl, v', w3, Lib.hid ap, bl3, c3, f3, Lib.hid t3⟩)
  have T0 : Hid (TkA b now many S R (lev * 64) 0 w (.slice none 0 0) w) := Lib.hid ⟨World.ownsRow_nil _ _ _ _, by rw [tkS_zero, tkR_zero]; exact h, by rw [tkS_zero]; exact Kf.refl _ _⟩
  have l5 : (lev : Int) < 5 := by omega
  clear h hl
  generalize TkA b now many S R (lev * 64) = TT at *
  go_enter Tryd.func31, Tryd.ntmps31
  go_wp2_with fail
  go_loopw [7, 8, 11] (fun u _ i wr => ∃ k : Nat, k ≤ last + 1 ∧ i = .int .i64 k ∧ Hid (TT k w u wr)) (fun _ _ i _ => last + 1 - (intOf i).toNat)
  case atStart => exact ⟨0, Nat.zero_le _, rfl, T0⟩
  case round =>
    obtain ⟨k, hk, rfl, HT⟩ := hrel
    by_cases hlt : k < last + 1
    · obtain ⟨c0, bl, v', w3, AP, bl3, c3, f3, T3⟩ := ST.out k wr _ hlt HT.out
      have k6 : (k : Int) < 64 := by omega
      have d1 : decide ((k : Int) < (last : Int) + 1) = true := decide_eq_true (by omega)
      generalize S (lev * 64 + k) = sv at *
      go_wp2_with (at_builtin; refine wpl_app _ rfl _ _ _ _ rfl _ _ rfl rfl (AP.out _) ?_)
      go_roundw
      case rel => exact ⟨k + 1, by omega, by go_num, T3⟩
      case measure => simp [intOf]; omega
    · obtain rfl : k = last + 1 := by omega
      have d1 : decide (((last + 1 : Nat) : Int) < (last : Int) + 1) = false := decide_eq_false (by omega)
      go_wp2
      go_ret
      exact ⟨_, rfl, HT.out⟩
/-- One call of take more. -/
theorem tu_step {w wr w2 : World} {b m n : Nat} {now many : Int} {S : Nat → Value} {R : Nat → List Rq} {u u2 : Value} (hw : Wm w b now many S R) (hT : TkA b now many S R 0 m w u wr) (hT2 : TkA b now many (tkS S 0 m) (tkR R 0 m) m n wr u2 w2) (hl : (tkL R 0 (m + n)).length ≤ 1000000) :
    ∃ v' w3, (∀ ty, (Builtin.append_ #[23, 23] ty #[u, u2]).run Tryd.prog w2 = .ok v' w3) ∧ TkA b now many S R 0 (m + n) w v' w3 := by
  obtain ⟨o, m1, f⟩ := hT
  obtain ⟨o2, m2, f2⟩ := hT2
  have zS := tkS_add S 0 m n
  have zR := tkR_add R 0 m n
  have zL := tkL_rest R 0 m n
  have zA := tkL_add R 0 m n
  rw [Nat.zero_add] at zS zR zL zA
  rw [zS, zR] at m2
  rw [zS] at f2
  rw [zL] at o2
  have ou : Ow w2 w.heap.size u (tkL R 0 m) := own_on o (fun g hg => by
    have q := o.lt g hg
    exact f2.block g q.2 (fun e => by have := (hw.inw (tkS_ft e)).2; omega))
  have hn : w.heap.size ≤ w2.heap.size := Nat.le_trans f.size f2.size
  obtain ⟨v', w3, ap, o3, g3, _⟩ := app5_at ou o2.rd hn (by rw [zA, List.length_append] at hl; omega)
  have b3 := grown_low ou hn g3
  rw [← zA] at o3
  exact ⟨v', w3, ap, o3, m2.on (fun g hg => b3.block g (hw.inw (tkS_ft hg)).2), (f.trans f2).later b3⟩
/-- What takeUpTo answers. -/
def TuA (b : Nat) (now many : Int) (S : Nat → Value) (R : Nat → List Rq) (t : Int) (w : World) (e : Ending) (w' : World) : Prop := ∃ (l s : Nat) (u : Value), Sp now.toNat t.toNat l s ∧ l < 5 ∧ s < 64 ∧ e = .returned u ∧ TkA b now many S R 0 (l * 64 + (s + 1)) w u w'
set_option maxRecDepth 100000 in
set_option maxHeartbeats 4000000 in
theorem takeUp_any (w : World) (b : Nat) (now many : Int) (S : Nat → Value) (R : Nat → List Rq) (t : Int) (h : Wm w b now many S R) (hn : 1 ≤ now) (hn2 : now ≤ 157785119) (ht : 1 ≤ t) (ht2 : t ≤ 157785119) (hl : (tkL R 0 320).length ≤ 1000000) :
    Calls Tryd.prog 25 #[.pointer (some ⟨b, 0, none⟩), .int .i64 t] w (TuA b now many S R t w) := by
  have KS : Hid (Calls Tryd.prog 20 #[.pointer (some ⟨b, 0, none⟩), .int .i64 t] w (SpA now t w)) := Lib.hid (spot_any w b now many S t h.box hn hn2 ht ht2)
  have ST : Hid (∀ (m i n : Nat) wr u, i < 5 → n < 64 → m = i * 64 → TkA b now many S R 0 m w u wr → Calls Tryd.prog 31 #[.pointer (some ⟨b, 0, none⟩), .int .i64 i, .int .i64 n] wr fun e w2 => ∃ u2, e = .returned u2 ∧ ∃ v' w3, Hid (∀ ty, (Builtin.append_ #[23, 23] ty #[u, u2]).run Tryd.prog w2 = .ok v' w3) ∧ Hid (TkA b now many S R 0 (m + (n + 1)) w v' w3)) := Lib.hid (fun m i n wr u hi hn6 hm hT => by
    have hlen : (tkL (tkR R 0 m) (i * 64) (n + 1)).length ≤ 1000000 := by
      have e1 := tkL_rest R 0 m (n + 1)
      have e2 := tkL_add R 0 m (n + 1)
      rw [Nat.zero_add] at e1 e2
      rw [← hm, e1]
      have := tkL_le R 0 (m + (n + 1)) 320 (by omega)
      rw [e2, List.length_append] at this
      omega
    refine (take_any wr b now many (tkS S 0 m) (tkR R 0 m) i n hT.2.1 hi hn6 hlen).mono (fun e w2 ⟨u2, he, h2⟩ => ?_)
    rw [← hm] at h2
    obtain ⟨v', w3, ap, h3⟩ := tu_step h hT h2 (Nat.le_trans (tkL_le R 0 _ 320 (by omega)) hl)
    exact ⟨u2, he, v', w3, Lib.hid ap, Lib.hid h3⟩)
  have T0 : Hid (∀ X, Below w.heap.size w X → TkA b now many S R 0 0 w (.slice none 0 0) X) := Lib.hid (fun X q => ⟨World.ownsRow_nil _ _ _ _, by rw [tkS_zero, tkR_zero]; exact h.onB q, by rw [tkS_zero]; exact Kf.of_below q⟩)
  have FI : Hid (∀ (l s : Nat) u w', Sp now.toNat t.toNat l s → l < 5 → s < 64 → TkA b now many S R 0 (l * 64 + (s + 1)) w u w' → TuA b now many S R t w (.returned u) w') := Lib.hid (fun l s u w' h1 h2 h3 h4 => ⟨l, s, u, h1, h2, h3, rfl, h4⟩)
  generalize TuA b now many S R t w = PP at FI ⊢
  generalize TkA b now many S R 0 = TT at *
  clear h hl hn hn2 ht ht2
  go_enter Tryd.func25, Tryd.ntmps25
  go_wp2_with (go_at_call 20; refine KS.out.mono ?_; rintro e w1 ⟨l, s, hs, hl5, hs6, rfl, hb⟩)
  have T1 := Lib.hid (T0.out w1 hb)
  clear KS T0 hb
  go_loopw [7, 8, 16] (fun u _ i wr => ∃ k : Nat, k ≤ l ∧ i = .int .i64 k ∧ Hid (TT (k * 64) w u wr)) (fun _ _ i _ => l - (intOf i).toNat)
  case atStart => exact ⟨0, Nat.zero_le _, rfl, Lib.hid (by simpa using T1.out)⟩
  case round =>
    obtain ⟨k, hk, rfl, HT⟩ := hrel
    by_cases hlt : k < l
    · have K1 := Lib.hid (ST.out (k * 64) k 63 wr _ (by omega) (by omega) rfl HT.out)
      have d1 : decide ((k : Int) < (l : Int)) = true := decide_eq_true (by omega)
      go_wp2_with (first
        | (go_at_call 31; refine K1.out.mono ?_; rintro e w2 ⟨u2, rfl, v3, w3, AP, T3⟩)
        | (at_builtin; refine wpl_app _ rfl _ _ _ _ rfl _ _ rfl rfl (AP.out _) ?_))
      go_roundw
      case rel => exact ⟨k + 1, by omega, by go_num, Lib.hid (by have := T3.out; rwa [show k * 64 + (63 + 1) = (k + 1) * 64 by omega] at this)⟩
      case measure => simp [intOf]; omega
    · obtain rfl : k = l := by omega
      have K1 := Lib.hid (ST.out (k * 64) k s wr _ hl5 hs6 rfl HT.out)
      have d1 : decide ((k : Int) < (k : Int)) = false := decide_eq_false (by omega)
      go_wp2_with (first
        | (go_at_call 31; refine K1.out.mono ?_; rintro e w2 ⟨u2, rfl, v3, w3, AP, T3⟩)
        | (at_builtin; refine wpl_app _ rfl _ _ _ _ rfl _ _ rfl rfl (AP.out _) ?_))
      exact FI.out k s _ _ hs.out hl5 hs6 T3.out
end Go.Proofs.YtpnbnnndpbjgmaaDoor.Qu
