/-
  What is proved here: what package seq's between answers (a contract over the translation).
-/
import Derived.Test.YtcillnphabddaacDoorSqBet
namespace Go.Proofs.YtcillnphabddaacDoor
open Go.RowKit Cal Txt

/-- What is wrong with a rule, or a start. -/
def sf (r : Rl) (s : Int) : Int := if rf r = 0 then (if 1 ≤ s ∧ s ≤ 109573 then 0 else 1) else rf r
/-- Up to where: Until, too. -/
def tl (r : Rl) (t : Int) : Int := if r.till = 0 then t else min t r.till
/-- The days of a rule from fr to t, as they are handed out. -/
def btL (r : Rl) (s fr t : Int) : List Int := btw fr (tl r t) r.count 0 (s :: beh s (flat r s (tl r t) (psd r s fr)))
/-- What between answers. -/
def BetN (w : World) (n0 : Nat) (r : Rl) (s fr t : Int) (e : Ending) (w' : World) : Prop :=
  Below w.heap.size w w' ∧ ((sf r s ≠ 0 ∧ e = .returned (.tuple #[.nilFunc, fault (sf r s)])) ∨
    (sf r s = 0 ∧ w.heap.size + 4 ≤ w'.heap.size ∧ ∃ lb, e = .returned (.tuple #[.func (.func 61) #[] lb, .nilIface]) ∧ Itr Tryd.prog 61 lb (btL r s fr t) n0 w' (fun b => w.heap.size ≤ b ∧ b < w.heap.size + 4)))
def BetA (w : World) (r : Rl) (s fr t : Int) (e : Ending) (w' : World) : Prop := BetN w w.heap.size r s fr t e w'
theorem fault_ne {k : Int} (h : k ≠ 0) : fault k = .iface 54 (.int .i64 k) := if_neg h
set_option maxRecDepth 100000 in
set_option maxHeartbeats 4000000 in
theorem between_env (n0 : Nat) (r : Rl) (v : Value) (s fr t : Int) (w : World) (hE : Env n0 w v r) (hfr : fr ≤ s ∨ fr ≤ 9223372036854775807) :
    Calls Tryd.prog 30 #[v, .int .i64 s, .int .i64 fr, .int .i64 t] w (BetN w n0 r s fr t) := by
  have n0w := hE.1
  have hv := (hE.2 w (Below.refl _ _)).1
  obtain ⟨am, ad, aw, ap, cm, cd, cw, cp, rfl⟩ := hv.form
  obtain ⟨W, hW, hB, hz, h0, h1, h2, h3⟩ := four_new w r am ad aw ap cm cd cw cp s fr t
  have EV := Lib.hid hE
  have KC := Lib.hid (check_any r _ W (hv.on hB))
  have G1 : Hid (∀ X, Below W.heap.size W X → RlB X w.heap.size r am ad aw ap cm cd cw cp ∧ Boxed X (w.heap.size + 1) 3 (.int .i64 s) ∧ Boxed X (w.heap.size + 2) 3 (.int .i64 fr) ∧ Boxed X (w.heap.size + 3) 3 (.int .i64 t) ∧ Below w.heap.size w X) := Lib.hid (fun X q => ⟨(q.block _ (by omega)).trans h0, bxd_same h1 (q.block _ h1.lt), bxd_same h2 (q.block _ h2.lt), bxd_same h3 (q.block _ h3.lt), hB.trans (q.mono hB.size)⟩)
  have HW := Lib.hid hW
  clear h0 h1 h2 h3 hv hE hW hB
  go_enter Tryd.func30, Tryd.ntmps30
  go_wp2_with fail
  rw [← HW.out]
  refine KC.out.mono ?_
  rintro e w1 ⟨rfl, hb⟩
  obtain ⟨b1, b2, b3, b4, hB1⟩ := G1.out w1 hb
  have z1 : w.heap.size + 4 ≤ w1.heap.size := by have := hb.size; omega
  clear KC G1 HW hb
  by_cases hrf : rf r = 0
  · have c2 := b2.cell
    rw [hrf, show fault 0 = Value.nilIface from rfl]
    by_cases s1 : 1 ≤ s
    · by_cases s2 : s ≤ 109573
      · have SF : Hid (sf r s = 0) := Lib.hid ((if_pos hrf).trans (if_pos ⟨s1, s2⟩))
        have he := (rf_nums hrf).2
        have t1 : decide (s < 1) = false := decide_eq_false (by omega)
        have t2 : decide (s > 109573) = false := decide_eq_false (by omega)
        clear hrf
        go_wp2_with fail
        go_big_quiet ((go_at_call 12; exact Calls.quiet_of_same (last_any _)))
        obtain ⟨X, hX⟩ : ∃ X, X = w1.drewN nq := ⟨_, rfl⟩
        have hBX : Below w1.heap.size w1 X := by rw [hX]; exact below_drewN (Below.refl _ _) _
        rw [← hX]
        clear hX c2
        replace b1 : RlB X w.heap.size r am ad aw ap cm cd cw cp := (hBX.block _ (by omega)).trans b1
        replace b2 := bxd_same b2 (hBX.block _ b2.lt)
        replace b3 := bxd_same b3 (hBX.block _ b3.lt)
        replace b4 := bxd_same b4 (hBX.block _ b4.lt)
        replace hB1 := hB1.trans (hBX.mono hB1.size)
        have zX : w.heap.size + 4 ≤ X.heap.size := Nat.le_trans z1 hBX.size
        clear hBX
        obtain ⟨_, _, _, q3, _⟩ := b1.box
        by_cases hti : r.till = 0
        · have ht0 : (r.till == 0) = true := by simpa using hti
          have TL : Hid (tl r t = t) := Lib.hid (if_pos hti)
          have IT := Lib.hid ((bet_itr r am ad aw ap cm cd cw cp s fr t n0 X w.heap.size (w.heap.size + 1) (w.heap.size + 2) (w.heap.size + 3) (EV.out.on (hB1.mono n0w)) b1 b2 b3 b4 he s1 hfr).more (T' := fun b => w.heap.size ≤ b ∧ b < w.heap.size + 4) (fun b hb => by omega))
          have HB := Lib.hid hB1
          clear hti b1 b2 b3 b4 hB1
          go_wp2
          exact bodyPost_ret (v := .tuple #[.func (.func 61) #[] #[.pointer (some ⟨w.heap.size, 0, none⟩), .pointer (some ⟨w.heap.size + 1, 0, none⟩), .pointer (some ⟨w.heap.size + 2, 0, none⟩), .pointer (some ⟨w.heap.size + 3, 0, none⟩)], .nilIface]) (by simp [results, Tryd.results30, go_sem]) rfl ⟨HB.out, Or.inr ⟨SF.out, zX, _, rfl, by unfold btL; rw [TL.out]; exact IT.out⟩⟩
        · have ht0 : (r.till == 0) = false := by simpa using hti
          have TL : Hid (tl r t = min t r.till) := Lib.hid (if_neg hti)
          have c4 := b4.cell
          have f4 := b4.frozen
          have W5 : Hid (∀ u : Int, u = min t r.till → (∀ b, Below w.heap.size w (X.setCell ⟨w.heap.size + 3, 0, none⟩ (.int .i64 u)) ∧ w.heap.size + 4 ≤ (X.setCell ⟨w.heap.size + 3, 0, none⟩ (.int .i64 u)).heap.size ∧ (b = 0 → Itr Tryd.prog 61 #[.pointer (some ⟨w.heap.size, 0, none⟩), .pointer (some ⟨w.heap.size + 1, 0, none⟩), .pointer (some ⟨w.heap.size + 2, 0, none⟩), .pointer (some ⟨w.heap.size + 3, 0, none⟩)] (btL r s fr t) n0 (X.setCell ⟨w.heap.size + 3, 0, none⟩ (.int .i64 u)) (fun b => w.heap.size ≤ b ∧ b < w.heap.size + 4)))) := Lib.hid (fun u hu b => by
            have hB2 : Below w.heap.size w (X.setCell ⟨w.heap.size + 3, 0, none⟩ (.int .i64 u)) := hB1.setCell (by show w.heap.size ≤ w.heap.size + 3; omega) _
            have ne : ∀ {b : Nat}, b ≠ w.heap.size + 3 → (X.setCell ⟨w.heap.size + 3, 0, none⟩ (.int .i64 u)).heap[b]? = X.heap[b]? := fun h => Below.heap_setCell _ _ _ _ h
            refine ⟨hB2, by simpa [World.setCell] using zX, fun _ => ?_⟩
            have IT := (bet_itr r am ad aw ap cm cd cw cp s fr u n0 (X.setCell ⟨w.heap.size + 3, 0, none⟩ (.int .i64 u)) w.heap.size (w.heap.size + 1) (w.heap.size + 2) (w.heap.size + 3) (EV.out.on (hB2.mono n0w)) ((ne (by omega)).trans b1) (bxd_same b2 (ne (by omega))) (bxd_same b3 (ne (by omega))) (b4.set _) he s1 hfr).more (T' := fun b => w.heap.size ≤ b ∧ b < w.heap.size + 4) (fun b hb => by omega)
            unfold btL
            rw [TL.out, ← hu]
            exact IT)
          clear hti b1 b2 b3 b4 hB1
          by_cases hmn : t ≤ r.till
          · have M1 : min t r.till = t := Int.min_eq_left hmn
            obtain ⟨g1, g2, g3⟩ := W5.out t M1.symm 0
            have H1 := Lib.hid g1
            have H2 := Lib.hid g2
            have H3 := Lib.hid (g3 rfl)
            clear g1 g2 g3 W5 M1
            go_wp2
            exact bodyPost_ret (v := .tuple #[.func (.func 61) #[] #[.pointer (some ⟨w.heap.size, 0, none⟩), .pointer (some ⟨w.heap.size + 1, 0, none⟩), .pointer (some ⟨w.heap.size + 2, 0, none⟩), .pointer (some ⟨w.heap.size + 3, 0, none⟩)], .nilIface]) (by simp [results, Tryd.results30, go_sem]) rfl ⟨H1.out, Or.inr ⟨SF.out, H2.out, _, rfl, H3.out⟩⟩
          · have M1 : min t r.till = r.till := Int.min_eq_right (by omega)
            obtain ⟨g1, g2, g3⟩ := W5.out r.till M1.symm 0
            have H1 := Lib.hid g1
            have H2 := Lib.hid g2
            have H3 := Lib.hid (g3 rfl)
            clear g1 g2 g3 W5 M1
            go_wp2
            exact bodyPost_ret (v := .tuple #[.func (.func 61) #[] #[.pointer (some ⟨w.heap.size, 0, none⟩), .pointer (some ⟨w.heap.size + 1, 0, none⟩), .pointer (some ⟨w.heap.size + 2, 0, none⟩), .pointer (some ⟨w.heap.size + 3, 0, none⟩)], .nilIface]) (by simp [results, Tryd.results30, go_sem]) rfl ⟨H1.out, Or.inr ⟨SF.out, H2.out, _, rfl, H3.out⟩⟩
      · have SF : Hid (sf r s = 1) := Lib.hid ((if_pos hrf).trans (if_neg (by omega)))
        have t1 : decide (s < 1) = false := decide_eq_false (by omega)
        have t2 : decide (s > 109573) = true := decide_eq_true (by omega)
        have HB := Lib.hid hB1
        clear hrf hB1 b1 b2 b3 b4
        go_wp2_with fail
        go_big_quiet ((go_at_call 12; exact Calls.quiet_of_same (last_any _)))
        go_wp2
        exact bodyPost_ret (v := .tuple #[.nilFunc, errRange]) (by simp [results, Tryd.results30, go_sem]) rfl ⟨below_drewN HB.out _, Or.inl ⟨by rw [SF.out]; decide, by rw [SF.out]; rfl⟩⟩
    · have SF : Hid (sf r s = 1) := Lib.hid ((if_pos hrf).trans (if_neg (by omega)))
      have t1 : decide (s < 1) = true := decide_eq_true (by omega)
      have HB := Lib.hid hB1
      clear hrf hB1 b1 b2 b3 b4
      go_wp2_with fail
      go_big_quiet (fail)
      go_wp2
      exact bodyPost_ret (v := .tuple #[.nilFunc, errRange]) (by simp [results, Tryd.results30, go_sem]) rfl ⟨below_drewN HB.out _, Or.inl ⟨by rw [SF.out]; decide, by rw [SF.out]; rfl⟩⟩
  · have SF : Hid (sf r s = rf r) := Lib.hid (if_neg hrf)
    rw [fault_ne hrf]
    have HF := Lib.hid hrf
    have HB := Lib.hid hB1
    clear hrf hB1 b1 b2 b3 b4
    go_wp2
    exact bodyPost_ret (v := .tuple #[.nilFunc, .iface 54 (.int .i64 (rf r))]) (by simp [results, Tryd.results30, go_sem]) rfl ⟨HB.out, Or.inl ⟨by rw [SF.out]; exact HF.out, by rw [SF.out, fault_ne HF.out]⟩⟩
theorem between_any (r : Rl) (v : Value) (s fr t : Int) (w : World) (hv : RuleIn w v r) (hT : Tab w) (hfr : fr ≤ s ∨ fr ≤ 9223372036854775807) :
    Calls Tryd.prog 30 #[v, .int .i64 s, .int .i64 fr, .int .i64 t] w (BetA w r s fr t) := between_env w.heap.size r v s fr t w (Env.of hv hT) hfr
end Go.Proofs.YtcillnphabddaacDoor
