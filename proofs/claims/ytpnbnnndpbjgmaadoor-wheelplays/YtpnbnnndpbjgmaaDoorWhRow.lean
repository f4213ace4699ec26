/-
  What is proved here: rows of rings that a call owns: what is appended to one, and where it lies then; what slices.Index and slices.Contains answer at rings (contracts over the translation).
-/
import Derived.Test.YtpnbnnndpbjgmaaDoorQuEq
import Derived.Test.YtpnbnnndpbjgmaaDoorQuPut
import Derived.Maps.AppendAt
namespace Go.Proofs.YtpnbnnndpbjgmaaDoor.Qu
open Go.RowKit

theorem info_r5 : (Tryd.prog.info? 34).map (fun i => (i.zero, i.size, i.bytes)) = some (some (.agg #[.int .i64 0, .string ⟨#[]⟩, .int .i64 0, .int .i64 0, .int .i64 0]), 5, 48) := by kernel_rfl
theorem Rd.flat {w : World} {b off : Nat} {M : List Rq} (h : ∀ i, i < M.length → ∀ c, c < 5 → w.cell? ⟨b, off + i * 5 + c, none⟩ = (encQ (M.getD i zq))[c]?) : ∀ j u, (M.flatMap encQ)[j]? = some u → w.cell? ((⟨b, off, none⟩ : Addr).add j) = some u := fun j u hu => by
  have hj : j < (M.flatMap encQ).length := (List.getElem?_eq_some_iff.1 hu).1
  rw [flatQ_len] at hj
  have e : j = j / 5 * 5 + j % 5 := by omega
  rw [e, flatQ_at M (j / 5) (j % 5) (by omega) (by omega)] at hu
  rw [Addr.add_mid, e, ← Nat.add_assoc, h (j / 5) (by omega) (j % 5) (by omega)]
  exact hu
/-- What is appended to a row of one's own is owned, in the same block or in a new one. -/
theorem app5_at {w : World} {n0 : Nat} {v vo : Value} {l mo : List Rq} (h : Ow w n0 v l) (hm : Rd w vo mo) (hn : n0 ≤ w.heap.size) (hl : l.length + mo.length ≤ 1000000000) :
    ∃ v' w', (∀ ty, (Builtin.append_ #[23, 23] ty #[v, vo]).run Tryd.prog w = .ok v' w') ∧ Ow w' n0 v' (l ++ mo) ∧ w.grownBy w' v.ownBlock ∧ (v'.ownBlock = v.ownBlock ∨ v'.ownBlock = some w.heap.size) := by
  obtain ⟨i0, hi, hz0, hz1, hz2⟩ := info_parts info_r5
  obtain ⟨a, cap, rfl, hc⟩ := hm
  have own : ∀ (v' : Value) (w' : World), w'.ownsRow n0 34 5 v' (l.length + mo.length) (l.flatMap encQ ++ mo.flatMap encQ) → Ow w' n0 v' (l ++ mo) := fun v' w' q => by
    show w'.ownsRow n0 34 5 v' (l ++ mo).length ((l ++ mo).flatMap encQ)
    rw [List.length_append, List.flatMap_append]; exact q
  have some_ : ∀ ad : Addr, (∀ j u, (mo.flatMap encQ)[j]? = some u → w.cell? (ad.add j) = some u) → ∃ (v' : Value) (w' : World), (∀ ty, (Builtin.append_ #[23, 23] ty #[v, .slice (some ad) mo.length cap]).run Tryd.prog w = .ok v' w') ∧ Ow w' n0 v' (l ++ mo) ∧ w.grownBy w' v.ownBlock ∧ (v'.ownBlock = v.ownBlock ∨ v'.ownBlock = some w.heap.size) := fun ad hcell => by
    have run := fun ty => run_append_own_at (P := Tryd.prog) w n0 23 ty 34 i0 (.agg #[.int .i64 0, .string ⟨#[]⟩, .int .i64 0, .int .i64 0, .int .i64 0]) 5 48 Tryd.underlying23 hi hz0 hz1 hz2 rfl (by decide) v l.length (l.flatMap encQ) h ad mo.length cap (mo.flatMap encQ) (flatQ_len mo) hcell (flatQ_one mo) (by unfold maxLen; omega) (by omega) hn
    obtain ⟨v', w', hr, r1, r2, _, r4⟩ := run 23
    exact ⟨v', w', fun ty => hr, own v' w' r1, r2, r4⟩
  rcases hc with rfl | ⟨b, off, rfl, hc⟩
  · rcases a with _ | ad
    · refine ⟨v, w, fun ty => ?_, own v w (by simpa using h), grown_refl _ _, Or.inl rfl⟩
      rcases h.2 with ⟨rfl, h0⟩ | ⟨g, cp, cur, rfl, _, hg, hnc, _, _, _⟩
      · simp [Builtin.append_, run_underlying Tryd.underlying23, sizeOf, typeInfo, hi, Builtin.lenOf, Builtin.firstCells]
      · simp [Builtin.append_, run_underlying Tryd.underlying23, sizeOf, typeInfo, hi, Builtin.lenOf, Builtin.firstCells, hnc, storeCells]
    · exact some_ ad (fun j u hu' => by simp at hu')
  · exact some_ ⟨b, off, none⟩ (Rd.flat hc)
/-- A row of one ring that was just made. -/
theorem rd_new (W : World) (r : Rq) : Rd (W.alloc (.cells #[.int .i64 r.1, .string r.2.1, .int .i64 r.2.2.1, .int .i64 r.2.2.2.1, .int .i64 r.2.2.2.2] 34)) (.slice (some ⟨W.heap.size, 0, none⟩) 1 1) [r] :=
  ⟨_, 1, rfl, Or.inr ⟨W.heap.size, 0, rfl, fun i hi c hc => by
    obtain rfl : i = 0 := by simpa using hi
    have hL : Lies (W.alloc (.cells #[.int .i64 r.1, .string r.2.1, .int .i64 r.2.2.1, .int .i64 r.2.2.2.1, .int .i64 r.2.2.2.2] 34)) W.heap.size (encQ r) := heap_alloc_new W _
    have hs : (encQ r)[c]? = some (encQ r)[c] := List.getElem?_eq_getElem (by rw [encQ_len]; exact hc)
    show (W.alloc (.cells #[.int .i64 r.1, .string r.2.1, .int .i64 r.2.2.1, .int .i64 r.2.2.2.1, .int .i64 r.2.2.2.2] 34)).cell? ⟨W.heap.size, 0 + 0 * 5 + c, none⟩ = (encQ r)[c]?
    rw [hs, show 0 + 0 * 5 + c = c by omega]
    exact hL.cell hs⟩⟩
/-- What Index answers. -/
def IxA (M : List Rq) (r : Rq) (w : World) (e : Ending) (w' : World) : Prop := ∃ p : Int, e = .returned (.int .i64 p) ∧ ((p = -1 ∧ hasQ M r = false) ∨ ∃ k : Nat, p = k ∧ k < M.length ∧ M.getD k zq = r ∧ hasQ M r = true) ∧ Below w.heap.size w w'
set_option maxRecDepth 100000 in
set_option maxHeartbeats 2000000 in
theorem index_any (M : List Rq) (r : Rq) (v : Value) (w : World) (h : Rd w v M) (hl : M.length ≤ 1000000) :
    Calls Tryd.prog 23 #[v, agQ r] w (IxA M r w) := by
  obtain ⟨a, cap, rfl, hc⟩ := h
  obtain ⟨W0, hW0⟩ : ∃ W0, W0 = w.alloc (.cells #[.int .i64 r.1, .string r.2.1, .int .i64 r.2.2.1, .int .i64 r.2.2.2.1, .int .i64 r.2.2.2.2] 34) := ⟨_, rfl⟩
  have b0 : Below w.heap.size w W0 := by rw [hW0]; exact (Below.refl _ _).alloc (Nat.le_refl _) _
  have x0 : QBx W0 w.heap.size r := by rw [hW0]; exact QBx.new w r _
  have HX : Hid (∀ X, Below W0.heap.size W0 X → QBx X w.heap.size r ∧ Below w.heap.size w X ∧ (M = [] ∨ ∃ b off, a = some ⟨b, off, none⟩ ∧ ∀ i, i < M.length → At5 X b (off + i * 5) (M.getD i zq))) := Lib.hid (fun X q => by
    have q2 : Below w.heap.size w X := b0.trans (q.mono b0.size)
    refine ⟨x0.on q, q2, ?_⟩
    rcases hc with h | ⟨b, off, ea, h⟩
    · exact Or.inl h
    · subst ea
      exact Or.inr ⟨b, off, rfl, fun i hi => (Rd.at (cap := cap) ⟨_, cap, rfl, Or.inr ⟨b, off, rfl, h⟩⟩ hi).on q2⟩)
  have HW := Lib.hid hW0
  have YES : Hid (∀ k : Nat, k < M.length → eqQ r (M.getD k zq) = true → ∀ W, Below w.heap.size w W → IxA M r w (.returned (.int .i64 (k : Int))) W) := Lib.hid (fun k hk h W hW => ⟨k, rfl, Or.inr ⟨k, rfl, hk, (eqQ_iff.1 h).symm, hasQ_iff.2 (by rw [eqQ_iff.1 h]; exact getD_mem hk)⟩, hW⟩)
  have NO : Hid ((∀ t, t < M.length → eqQ r (M.getD t zq) = false) → ∀ W, Below w.heap.size w W → IxA M r w (.returned (.int .i64 (-1))) W) := Lib.hid (fun h W hW => ⟨-1, rfl, Or.inl ⟨rfl, hasQ_not.2 (fun q => by
    obtain ⟨t, ht, e⟩ := mem_getD q
    have := h t ht
    rw [e] at this
    have k : eqQ r r = true := eqQ_iff.2 rfl
    rw [k] at this
    cases this)⟩, hW⟩)
  generalize IxA M r w = PP at YES NO ⊢
  clear hc b0 x0 hW0
  go_enter Tryd.func23, Tryd.ntmps23
  go_upto_region 1 with fail
  rw [← HW.out]
  go_wp2_with fail
  go_loopw [5, 8] (fun _ i wr => ∃ k : Nat, k ≤ M.length ∧ i = .int .i64 k ∧ Hid (∀ t, t < k → eqQ r (M.getD t zq) = false) ∧ Hid (Below W0.heap.size W0 wr)) (fun _ i _ => M.length - (intOf i).toNat)
  case atStart => exact ⟨0, Nat.zero_le _, rfl, Lib.hid (fun t q => by omega), Lib.hid (Below.refl _ _)⟩
  case round =>
    obtain ⟨k, hk, rfl, I1, BB⟩ := hrel
    obtain ⟨qx, qb, qm⟩ := HX.out _ BB.out
    have QB := Lib.hid qb
    clear qb
    by_cases hlt : k < M.length
    · obtain ⟨b, off, ea, qn⟩ : ∃ b off, a = some ⟨b, off, none⟩ ∧ ∀ i, i < M.length → At5 wr b (off + i * 5) (M.getD i zq) := by
        rcases qm with h | h
        · rw [h] at hlt; simp at hlt
        · exact h
      subst ea
      have c5 := qn k hlt
      have Y1 := Lib.hid (YES.out k hlt)
      have I2 : Hid (eqQ r (M.getD k zq) = false → ∀ t, t < k + 1 → eqQ r (M.getD t zq) = false) := Lib.hid (fun h t ht => by
        rcases (by omega : t < k ∨ t = k) with q | q
        · exact I1.out t q
        · rw [q]; exact h)
      have bl := c5.lt
      have bl2 := qx.lt
      have HE : ∀ W : World, (binOp .eql 34 (agQ r) (agQ (M.getD k zq))).run Tryd.prog W = .ok (.bool (eqQ r (M.getD k zq))) W := fun W => ring_eql_run _ _ W
      generalize M.getD k zq = y at c5 Y1 I2 HE
      generalize eqQ r y = C at Y1 I2 HE
      obtain ⟨k1, k2, k3, k4, k5⟩ := c5
      obtain ⟨r1, r2, r3, r4, r5⟩ := qx
      clear qm qn
      generalize hn : M.length = n at *
      go_upto_region 4 with fail
      go_quiet (fail)
      have B2 : Hid (Below W0.heap.size W0 (wr.drewN nq)) := Lib.hid ⟨BB.out.os, BB.out.tape, BB.out.output, BB.out.size, BB.out.block⟩
      have B3 : Hid (Below w.heap.size w (wr.drewN nq)) := Lib.hid ⟨QB.out.os, QB.out.tape, QB.out.output, QB.out.size, QB.out.block⟩
      clear k1 k2 k3 k4 k5 r1 r2 r3 r4 r5 bl bl2 HE
      rcases C with _ | _
      · have P1 := Lib.hid (I2.out rfl)
        go_wp2
        go_roundw
        case rel => exact ⟨k + 1, by omega, by go_num, P1, B2⟩
        case measure => simp [intOf]; omega
      · have E := Lib.hid (Y1.out rfl _ B3.out)
        go_wp2
        exact E.out
    · have E := Lib.hid (NO.out (fun t ht => I1.out t (by omega)) _ QB.out)
      clear qx qm
      go_wp2
      exact E.out
theorem contains_any (M : List Rq) (r : Rq) (v : Value) (w : World) (h : Rd w v M) (hl : M.length ≤ 1000000) :
    Calls Tryd.prog 21 #[v, agQ r] w fun e w' => e = .returned (.bool (hasQ M r)) ∧ Below w.heap.size w w' := by
  obtain ⟨W0, hW0⟩ : ∃ W0, W0 = w.alloc (.cells #[.int .i64 r.1, .string r.2.1, .int .i64 r.2.2.1, .int .i64 r.2.2.2.1, .int .i64 r.2.2.2.2] 34) := ⟨_, rfl⟩
  have b0 : Below w.heap.size w W0 := by rw [hW0]; exact (Below.refl _ _).alloc (Nat.le_refl _) _
  have x0 : QBx W0 w.heap.size r := by rw [hW0]; exact QBx.new w r _
  have KI : Hid (Calls Tryd.prog 23 #[v, agQ r] W0 (IxA M r W0)) := Lib.hid (index_any M r v W0 (h.on b0) hl)
  have BT : Hid (∀ X, Below W0.heap.size W0 X → Below w.heap.size w X) := Lib.hid (fun X q => b0.trans (q.mono b0.size))
  have HW := Lib.hid hW0
  obtain ⟨r1, r2, r3, r4, r5⟩ := x0
  have bl : w.heap.size < W0.heap.size := cell_in r1
  clear h hl hW0 b0
  have HB : Hid (∀ p : Int, ((p = -1 ∧ hasQ M r = false) ∨ ∃ k : Nat, p = k ∧ k < M.length ∧ M.getD k zq = r ∧ hasQ M r = true) → decide (0 ≤ p) = hasQ M r) := Lib.hid (fun p hp => by
    rcases hp with ⟨rfl, e⟩ | ⟨k, rfl, _, _, e⟩
    · rw [e]; decide
    · rw [e]; simp)
  go_enter Tryd.func21, Tryd.ntmps21
  go_upto_region 1 with fail
  rw [← HW.out]
  go_wp2_with (go_at_call 23; refine KI.out.mono ?_; rintro e w2 ⟨p, rfl, hp, hb⟩; have HP := Lib.hid hp; clear hp)
  go_ret
  exact ⟨ret_bool (HB.out p HP.out), BT.out _ hb⟩
end Go.Proofs.YtpnbnnndpbjgmaaDoor.Qu
