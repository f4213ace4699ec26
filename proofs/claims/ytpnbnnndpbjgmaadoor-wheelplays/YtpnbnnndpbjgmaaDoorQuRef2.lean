/-
  What is proved here: what chimeref2's Off, chimesame's Rings and package queue's All answer (contracts over the translation).
-/
import Derived.Test.YtpnbnnndpbjgmaaDoorQuRefA
import Derived.Test.YtpnbnnndpbjgmaaDoorQuPut
import Derived.Test.YtpnbnnndpbjgmaaDoorClk
import Derived.Test.YtpnbnnndpbjgmaaDoorQuSame
namespace Go.Proofs.YtpnbnnndpbjgmaaDoor.Qu
open Go.RowKit

theorem Ow.rowK {w : World} {n0 : Nat} {v : Value} {M : List Rq} (h : Ow w n0 v M) : RowK encQ w v M := own_rowK (enc := encQ) (k := 5) (fun _ => rfl) (by decide) h
theorem RowK.rd {w : World} {v : Value} {M : List Rq} (h : RowK encQ w v M) : Rd w v M := by
  obtain ⟨a, cap, e, hc⟩ := h
  refine ⟨a, cap, e, ?_⟩
  rcases hc with hc | ⟨b, off, ea, hc⟩
  · exact Or.inl hc
  · refine Or.inr ⟨b, off, ea, fun i hi c h5 => ?_⟩
    have hs : (encQ (M.getD i zq))[c]? = some (encQ (M.getD i zq))[c] := List.getElem?_eq_getElem (by rw [encQ_len]; exact h5)
    rw [hs]
    have := hc (i * 5 + c) _ ((flatQ_at M i c hi h5).trans hs)
    rwa [← Nat.add_assoc] at this
/-- What Off answers: the list without the ring, and whether it was there. -/
def OffA (M : List Rq) (r : Rq) (w : World) (e : Ending) (w' : World) : Prop := ∃ u, e = .returned (.tuple #[u, .bool (hasQ M r)]) ∧ w'.ownsRow w.heap.size 34 5 u (drp M r).length ((drp M r).flatMap encQ) ∧ Below w.heap.size w w'
theorem drp_less {M : List Rq} {r : Rq} : decide ((drp M r).length < M.length) = hasQ M r := by
  unfold drp hasQ
  induction M with
  | nil => rfl
  | cons x M ih =>
    have h1 : (M.filter (fun x => !decide (oc x r = 0))).length ≤ M.length := List.length_filter_le _ _
    by_cases h : oc x r = 0
    · rw [List.filter_cons_of_neg (by simpa using h)]
      simp only [List.length_cons, List.any_cons, h, decide_true, Bool.true_or, decide_eq_true_eq]
      omega
    · rw [List.filter_cons_of_pos (by simpa using h)]
      simp only [List.length_cons, List.any_cons, h, decide_false, Bool.false_or]
      rw [← ih]
      simp
theorem refTime_any (t : Int) (w : World) :
    Calls Tryd.prog 4 #[.int .i64 t] w fun e w' => e = .returned (.bool (ist t)) ∧ w' = w := by
  by_cases h : 1 ≤ t
  all_goals
    go_enter Tryd.func4, Tryd.ntmps4
    go_wp2
    go_ret
    exact ⟨ret_bool (by unfold ist; rw [Bool.eq_iff_iff]; simp; omega), rfl⟩
theorem drp_step {M : List Rq} {r : Rq} {k : Nat} (hk : k < M.length) : drp (M.take (k + 1)) r = drp (M.take k) r ++ (if eqQ (M.getD k zq) r = true then [] else [M.getD k zq]) := by
  have e : M.take (k + 1) = M.take k ++ [M.getD k zq] := by
    rw [List.take_add_one, List.getD_eq_getElem?_getD, List.getElem?_eq_getElem hk]
    rfl
  generalize M.getD k zq = y at e ⊢
  unfold drp eqQ
  rw [e, List.filter_append]
  congr 1
  by_cases h : oc y r = 0 <;> simp [h]
set_option maxRecDepth 100000 in
set_option maxHeartbeats 4000000 in
theorem off_any (M : List Rq) (r : Rq) (v : Value) (w : World) (h : Rd w v M) (hl : M.length ≤ 1000000) :
    Calls Tryd.prog 10 #[v, agQ r] w (OffA M r w) := by
  obtain ⟨a, cap, rfl, hc⟩ := h
  obtain ⟨W0, hW0⟩ : ∃ W0, W0 = w.alloc (.cells #[.int .i64 r.1, .string r.2.1, .int .i64 r.2.2.1, .int .i64 r.2.2.2.1, .int .i64 r.2.2.2.2] 34) := ⟨_, rfl⟩
  have b0 : Below w.heap.size w W0 := by rw [hW0]; exact (Below.refl _ _).alloc (Nat.le_refl _) _
  have x0 : QBx W0 w.heap.size r := by rw [hW0]; exact QBx.new w r _
  have HX : Hid (∀ X, Below W0.heap.size W0 X → QBx X w.heap.size r ∧ Below w.heap.size w X ∧ (M = [] ∨ ∃ b off, a = some ⟨b, off, none⟩ ∧ ∀ i, i < M.length → At5 X b (off + i * 5) (M.getD i zq))) := Lib.hid (fun X q => by
    have q2 : Below w.heap.size w X := b0.trans (q.mono b0.size)
    refine ⟨x0.on q, q2, ?_⟩
    rcases hc with h | ⟨b, off, ea, h⟩
    · exact Or.inl h
    · subst ea
      exact Or.inr ⟨b, off, rfl, fun i hi => (Rd.at (cap := cap) ⟨_, cap, rfl, Or.inr ⟨b, off, rfl, h⟩⟩ hi).on q2⟩)
  have HW := Lib.hid hW0
  have SZ : Hid (w.heap.size ≤ W0.heap.size) := Lib.hid b0.size
  have STP : Hid (∀ k, k < M.length → drp (M.take (k + 1)) r = drp (M.take k) r ++ (if eqQ (M.getD k zq) r = true then [] else [M.getD k zq])) := Lib.hid (fun k hk => drp_step hk)
  have FI : Hid (∀ u X, X.ownsRow W0.heap.size 34 5 u (drp (M.take M.length) r).length ((drp (M.take M.length) r).flatMap encQ) → Below W0.heap.size W0 X → ∀ bb, bb = decide (((drp (M.take M.length) r).length : Int) < (M.length : Int)) → OffA M r w (.returned (.tuple #[u, .bool bb])) X) := Lib.hid (fun u X ho q bb hb => by
    rw [List.take_length] at ho hb
    refine ⟨u, ?_, ⟨ho.1, ho.2.imp id (fun ⟨g, cp, cur, h1, h2, h3⟩ => ⟨g, cp, cur, h1, Nat.le_trans SZ.out h2, h3⟩)⟩, b0.trans (q.mono b0.size)⟩
    have eb : decide (((drp M r).length : Int) < (M.length : Int)) = decide ((drp M r).length < M.length) := by
      rw [Bool.eq_iff_iff, decide_eq_true_iff, decide_eq_true_iff]
      omega
    rw [hb, eb, drp_less])
  have DL : Hid (∀ k, (drp (M.take k) r).length ≤ k) := Lib.hid (fun k => Nat.le_trans (List.length_filter_le _ _) (by rw [List.length_take]; omega))
  generalize OffA M r w = PP at FI ⊢
  clear hc b0 x0 hW0
  go_enter Tryd.func10, Tryd.ntmps10
  go_upto_region 1 with fail
  rw [← HW.out]
  go_wp2_with fail
  go_loopw [6, 7] (fun o i wr => ∃ k : Nat, k ≤ M.length ∧ i = .int .i64 k ∧ Hid (wr.ownsRow W0.heap.size 34 5 o (drp (M.take k) r).length ((drp (M.take k) r).flatMap encQ)) ∧ Hid (Below W0.heap.size W0 wr)) (fun _ i _ => M.length - (intOf i).toNat)
  case atStart => exact ⟨0, Nat.zero_le _, rfl, Lib.hid (World.ownsRow_nil _ _ _ _), Lib.hid (Below.refl _ _)⟩
  case round =>
    obtain ⟨k, hk, rfl, OO, BB⟩ := hrel
    obtain ⟨qx, qb, qm⟩ := HX.out _ BB.out
    by_cases hlt : k < M.length
    · obtain ⟨b, off, ea, qn⟩ : ∃ b off, a = some ⟨b, off, none⟩ ∧ ∀ i, i < M.length → At5 wr b (off + i * 5) (M.getD i zq) := by
        rcases qm with h | h
        · rw [h] at hlt; simp at hlt
        · exact h
      subst ea
      have c5 := qn k hlt
      have C5 := Lib.hid c5
      have S1 := Lib.hid (STP.out k hlt)
      have D1 := Lib.hid (DL.out k)
      have bl := c5.lt
      have bl2 := qx.lt
      have HE : ∀ W : World, (binOp .neq 34 (agQ (M.getD k zq)) (agQ r)).run Tryd.prog W = .ok (.bool (!eqQ (M.getD k zq) r)) W := fun W => ring_neq_run _ _ W
      generalize M.getD k zq = y at c5 C5 S1 HE
      generalize eqQ y r = C at S1 HE
      obtain ⟨k1, k2, k3, k4, k5⟩ := c5
      obtain ⟨r1, r2, r3, r4, r5⟩ := qx
      clear qm qn qb
      generalize hn : M.length = n at *
      go_upto_region 5 with fail
      go_quiet (fail)
      obtain ⟨W1, hW1⟩ : ∃ W1, W1 = wr.drewN nq := ⟨_, rfl⟩
      have q1 : Below wr.heap.size wr W1 := by rw [hW1]; exact below_drewN (Below.refl _ _) _
      have B1 : Hid (Below W0.heap.size W0 W1) := Lib.hid (BB.out.trans (q1.mono BB.out.size))
      have O1 := Lib.hid (ow_below OO.out q1)
      have X1 := Lib.hid (C5.out.on q1)
      rw [← hW1]
      clear k1 k2 k3 k4 k5 r1 r2 r3 r4 r5 bl bl2 HE hW1 q1
      rcases C with _ | _
      · have E1 : Hid (drp (M.take (k + 1)) r = drp (M.take k) r ++ [y]) := Lib.hid S1.out
        have b4 : Below W1.heap.size W1 (W1.alloc (.cells #[.int .i64 y.1, .string y.2.1, .int .i64 y.2.2.1, .int .i64 y.2.2.2.1, .int .i64 y.2.2.2.2] 34)) := below_alloc _ _
        obtain ⟨v5, w5, ap5, o5, b5⟩ := app5_any (mo := [y]) (ow_below O1.out b4) (rowK_one W1 y 34) (Nat.le_trans B1.out.size b4.size) (by have := D1.out; simp <;> omega)
        rw [← E1.out] at o5
        have O5 := Lib.hid o5
        have AP5 := Lib.hid ap5
        have B5 : Hid (Below W0.heap.size W0 w5) := Lib.hid (B1.out.trans ((b4.mono B1.out.size).trans b5))
        obtain ⟨k1, k2, k3, k4, k5⟩ := X1.out
        have bl := X1.out.lt
        clear ap5 o5 b4 b5
        go_wp2_with (at_builtin; refine wpList_app rfl _ _ 23 rfl _ _ _ _ rfl rfl AP5.out ?_)
        go_roundw
        case rel => exact ⟨k + 1, by omega, by go_num, O5, B5⟩
        case measure => simp [intOf]; omega
      · have E1 : Hid (drp (M.take (k + 1)) r = drp (M.take k) r) := Lib.hid (by rw [S1.out]; simp)
        have O5 := O1
        rw [← E1.out] at O5
        go_wp2
        go_roundw
        case rel => exact ⟨k + 1, by omega, by go_num, O5, B1⟩
        case measure => simp [intOf]; omega
    · obtain rfl : k = M.length := by omega
      clear qx qb qm
      obtain ⟨a5, c5, e5, _⟩ := Ow.rd OO.out
      subst e5
      have F5 := Lib.hid (fun bb hb => FI.out _ wr OO.out BB.out bb hb)
      clear OO
      go_wp2
      exact F5.out _ (by
        rw [List.take_length, Bool.eq_iff_iff, decide_eq_true_iff, decide_eq_true_iff]
        omega)
end Go.Proofs.YtpnbnnndpbjgmaaDoor.Qu
