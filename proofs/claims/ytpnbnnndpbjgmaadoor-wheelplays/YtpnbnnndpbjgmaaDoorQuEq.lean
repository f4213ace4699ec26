/-
  What is proved here: when two rings are the same, as the program asks it; what chimeref2's Has answers (contracts over the translation).
-/
import Derived.Test.YtpnbnnndpbjgmaaDoorQuPut
import Derived.Laws.StructEq
namespace Go.Proofs.YtpnbnnndpbjgmaaDoor.Qu
open Go.RowKit

/-- Are two rings the same? -/
def eqQ (x y : Rq) : Bool := decide (oc x y = 0)
theorem eqQ_iff {x y : Rq} : eqQ x y = true ↔ x = y := by unfold eqQ; rw [decide_eq_true_iff]; exact oc_cm.eq x y
theorem ring_eql_run (x y : Rq) (w : World) : (binOp .eql 34 (agQ x) (agQ y)).run Tryd.prog w = .ok (.bool (eqQ x y)) w := by
  have u3 := Tryd.underlying3
  have a3 := Tryd.isAgg3
  have z3 := Tryd.sizeOf3
  have u9 := Tryd.underlying9
  have a9 := Tryd.isAgg9
  have z9 := Tryd.sizeOf9
  have hS : Tryd.prog.underlying 34 = some (.struct (Tryd.prog.fieldsOf 34)) := by kernel_rfl
  have hp : Tryd.prog.stoodInHeld 34 = false := by kernel_rfl
  rw [run_eql_struct, show (10000 : Nat) = 9999 + 1 from rfl, run_equalIn_struct w 9999 34 _ _ hS hp]
  simp only [Program.fieldsOf, Tryd.underlying34]
  obtain ⟨x1, x2, x3, x4, x5⟩ := x
  obtain ⟨y1, y2, y3, y4, y5⟩ := y
  have e : eqQ (x1, x2, x3, x4, x5) (y1, y2, y3, y4, y5) = (x1 == y1 && (x2.toList == y2.toList && (x3 == y3 && (x4 == y4 && x5 == y5)))) := by
    rw [Bool.eq_iff_iff, eqQ_iff]
    simp only [Prod.mk.injEq, Bool.and_eq_true, beq_iff_eq]
    exact ⟨fun ⟨h1, h2, h3, h4, h5⟩ => ⟨h1, by rw [h2], h3, h4, h5⟩, fun ⟨h1, h2, h3, h4, h5⟩ => ⟨h1, toList_inj h2, h3, h4, h5⟩⟩
  rw [e]
  go_simp
  by_cases h1 : x1 = y1 <;> by_cases h2 : x2.toList = y2.toList <;> by_cases h3 : x3 = y3 <;> by_cases h4 : x4 = y4 <;> by_cases h5 : x5 = y5 <;> simp [h1, h2, h3, h4, h5]
theorem ring_neq_run (x y : Rq) (w : World) : (binOp .neq 34 (agQ x) (agQ y)).run Tryd.prog w = .ok (.bool (!eqQ x y)) w := by
  have u3 := Tryd.underlying3
  have a3 := Tryd.isAgg3
  have z3 := Tryd.sizeOf3
  have u9 := Tryd.underlying9
  have a9 := Tryd.isAgg9
  have z9 := Tryd.sizeOf9
  have hS : Tryd.prog.underlying 34 = some (.struct (Tryd.prog.fieldsOf 34)) := by kernel_rfl
  have hp : Tryd.prog.stoodInHeld 34 = false := by kernel_rfl
  rw [run_neq_struct, show (10000 : Nat) = 9999 + 1 from rfl, run_equalIn_struct w 9999 34 _ _ hS hp]
  simp only [Program.fieldsOf, Tryd.underlying34]
  obtain ⟨x1, x2, x3, x4, x5⟩ := x
  obtain ⟨y1, y2, y3, y4, y5⟩ := y
  have e : eqQ (x1, x2, x3, x4, x5) (y1, y2, y3, y4, y5) = (x1 == y1 && (x2.toList == y2.toList && (x3 == y3 && (x4 == y4 && x5 == y5)))) := by
    rw [Bool.eq_iff_iff, eqQ_iff]
    simp only [Prod.mk.injEq, Bool.and_eq_true, beq_iff_eq]
    exact ⟨fun ⟨h1, h2, h3, h4, h5⟩ => ⟨h1, by rw [h2], h3, h4, h5⟩, fun ⟨h1, h2, h3, h4, h5⟩ => ⟨h1, toList_inj h2, h3, h4, h5⟩⟩
  rw [e]
  go_simp
  by_cases h1 : x1 = y1 <;> by_cases h2 : x2.toList = y2.toList <;> by_cases h3 : x3 = y3 <;> by_cases h4 : x4 = y4 <;> by_cases h5 : x5 = y5 <;> simp [h1, h2, h3, h4, h5]
set_option maxRecDepth 100000 in
set_option maxHeartbeats 2000000 in
theorem has_any (M : List Rq) (r : Rq) (v : Value) (w : World) (h : Rd w v M) (hl : M.length ≤ 9223372036854775807) :
    Calls Tryd.prog 7 #[v, agQ r] w fun e w' => e = .returned (.bool (hasQ M r)) ∧ Below w.heap.size w w' := by
  obtain ⟨a, cap, rfl, hc⟩ := h
  obtain ⟨W0, hW0⟩ : ∃ W0, W0 = w.alloc (.cells #[.int .i64 r.1, .string r.2.1, .int .i64 r.2.2.1, .int .i64 r.2.2.2.1, .int .i64 r.2.2.2.2] 34) := ⟨_, rfl⟩
  have b0 : Below w.heap.size w W0 := by rw [hW0]; exact (Below.refl _ _).alloc (Nat.le_refl _) _
  have x0 : QBx W0 w.heap.size r := by rw [hW0]; exact QBx.new w r _
  have HX : Hid (∀ X, Below W0.heap.size W0 X → QBx X w.heap.size r ∧ Below w.heap.size w X ∧ (M = [] ∨ ∃ b off, a = some ⟨b, off, none⟩ ∧ ∀ i, i < M.length → At5 X b (off + i * 5) (M.getD i zq))) := Lib.hid (fun X q => by
    have q2 : Below w.heap.size w X := b0.trans (q.mono b0.size)
    refine ⟨x0.on q, q2, ?_⟩
    rcases hc with h | ⟨b, off, ea, h⟩
    · exact Or.inl h
    · subst ea
      exact Or.inr ⟨b, off, rfl, fun i hi => (Rd.at (cap := cap) ⟨_, cap, rfl, Or.inr ⟨b, off, rfl, h⟩⟩ hi).on q2⟩)
  have HW := Lib.hid hW0
  have YES : Hid (∀ k, k < M.length → eqQ (M.getD k zq) r = true → hasQ M r = true) := Lib.hid (fun k hk h => hasQ_iff.2 (by rw [← eqQ_iff.1 h]; exact getD_mem hk))
  have NO : Hid ((∀ t, t < M.length → eqQ (M.getD t zq) r = false) → hasQ M r = false) := Lib.hid (fun h => hasQ_not.2 (fun q => by
    obtain ⟨t, ht, e⟩ := mem_getD q
    have := h t ht
    rw [e] at this
    have k : eqQ r r = true := eqQ_iff.2 rfl
    rw [k] at this
    cases this))
  generalize hasQ M r = B at YES NO ⊢
  clear hc b0 x0 hW0
  go_enter Tryd.func7, Tryd.ntmps7
  go_upto_region 1 with fail
  rw [← HW.out]
  go_wp2_with fail
  go_loopw [5] (fun i wr => ∃ k : Nat, k ≤ M.length ∧ i = .int .i64 k ∧ Hid (∀ t, t < k → eqQ (M.getD t zq) r = false) ∧ Hid (Below W0.heap.size W0 wr)) (fun i _ => M.length - (intOf i).toNat)
  case atStart => exact ⟨0, Nat.zero_le _, rfl, Lib.hid (fun t q => by omega), Lib.hid (Below.refl _ _)⟩
  case round =>
    obtain ⟨k, hk, rfl, I1, BB⟩ := hrel
    obtain ⟨qx, qb, qm⟩ := HX.out _ BB.out
    have QB := Lib.hid qb
    clear qb
    by_cases hlt : k < M.length
    · obtain ⟨b, off, ea, qn⟩ : ∃ b off, a = some ⟨b, off, none⟩ ∧ ∀ i, i < M.length → At5 wr b (off + i * 5) (M.getD i zq) := by
        rcases qm with h | h
        · rw [h] at hlt; simp at hlt
        · exact h
      subst ea
      have c5 := qn k hlt
      have Y1 := Lib.hid (YES.out k hlt)
      have I2 : Hid (eqQ (M.getD k zq) r = false → ∀ t, t < k + 1 → eqQ (M.getD t zq) r = false) := Lib.hid (fun h t ht => by
        rcases (by omega : t < k ∨ t = k) with q | q
        · exact I1.out t q
        · rw [q]; exact h)
      have bl := c5.lt
      have bl2 := qx.lt
      have HE : ∀ W : World, (binOp .eql 34 (agQ (M.getD k zq)) (agQ r)).run Tryd.prog W = .ok (.bool (eqQ (M.getD k zq) r)) W := fun W => ring_eql_run _ _ W
      generalize M.getD k zq = y at c5 Y1 I2 HE
      generalize eqQ y r = C at Y1 I2 HE
      obtain ⟨k1, k2, k3, k4, k5⟩ := c5
      obtain ⟨r1, r2, r3, r4, r5⟩ := qx
      clear qm qn
      generalize hn : M.length = n at *
      go_upto_region 4 with fail
      go_quiet (fail)
      have B2 : Hid (Below W0.heap.size W0 (wr.drewN nq)) := Lib.hid ⟨BB.out.os, BB.out.tape, BB.out.output, BB.out.size, BB.out.block⟩
      have B3 : Hid (Below w.heap.size w (wr.drewN nq)) := Lib.hid ⟨QB.out.os, QB.out.tape, QB.out.output, QB.out.size, QB.out.block⟩
      clear k1 k2 k3 k4 k5 r1 r2 r3 r4 r5 bl bl2 HE
      rcases C with _ | _
      · have P1 := Lib.hid (I2.out rfl)
        go_wp2
        go_roundw
        case rel => exact ⟨k + 1, by omega, by go_num, P1, B2⟩
        case measure => simp [intOf]; omega
      · have E := Lib.hid (Y1.out rfl)
        go_wp2
        go_ret
        exact ⟨ret_bool E.out.symm, B3.out⟩
    · have E := Lib.hid (NO.out (fun t ht => I1.out t (by omega)))
      clear qx qm
      go_wp2
      go_ret
      exact ⟨ret_bool E.out.symm, QB.out⟩
end Go.Proofs.YtpnbnnndpbjgmaaDoor.Qu
