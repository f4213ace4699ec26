/-
  What is proved here: rows of rings that a call owns: what is appended to one, and where it lies then; what slices.Index and slices.Contains answer at rings (contracts over the translation).
  What is proved here: plain facts on where a ring lies on a wheel: its level and its slot, which slots are gone over on the way to a later time, and which of two rings comes first; no function of the program is walked.
  What is proved here: a wheel as it lies in memory, what is kept by a call that changes one; what package wheel's spot answers (a contract over the translation).
  What is proved here: what package wheel's New, Now and Len answer (contracts over the translation).
-/
import Derived.Test.YthdohcjingfpoaaGreatDoorQB
import Derived.Maps.AppendAt
import Derived.Test.YthdohcjingfpoaaGreatDoorRE
namespace Go.Proofs.YthdohcjingfpoaaGreatDoor.Qu
open Go.RowKit

theorem info_r5 : (Tryz.prog.info? 45).map (fun i => (i.zero, i.size, i.bytes)) = some (some (.agg #[.int .i64 0, .string ⟨#[]⟩, .int .i64 0, .int .i64 0, .int .i64 0]), 5, 48) := by kernel_rfl
theorem Rd.flat {w : World} {b off : Nat} {M : List Rq} (h : ∀ i, i < M.length → ∀ c, c < 5 → w.cell? ⟨b, off + i * 5 + c, none⟩ = (encQ (M.getD i zq))[c]?) : ∀ j u, (M.flatMap encQ)[j]? = some u → w.cell? ((⟨b, off, none⟩ : Addr).add j) = some u := fun j u hu => by
  have hj : j < (M.flatMap encQ).length := (List.getElem?_eq_some_iff.1 hu).1
  rw [flatQ_len] at hj
  have e : j = j / 5 * 5 + j % 5 := by omega
  rw [e, flatQ_at M (j / 5) (j % 5) (by omega) (by omega)] at hu
  rw [Addr.add_mid, e, ← Nat.add_assoc, h (j / 5) (by omega) (j % 5) (by omega)]
  exact hu
/-- What is appended to a row of one's own is owned, in the same block or in a new one. -/
theorem app5_at {w : World} {n0 : Nat} {v vo : Value} {l mo : List Rq} (h : Ow w n0 v l) (hm : Rd w vo mo) (hn : n0 ≤ w.heap.size) (hl : l.length + mo.length ≤ 1000000000) :
    ∃ v' w', (∀ ty, (Builtin.append_ #[41, 41] ty #[v, vo]).run Tryz.prog w = .ok v' w') ∧ Ow w' n0 v' (l ++ mo) ∧ w.grownBy w' v.ownBlock ∧ (v'.ownBlock = v.ownBlock ∨ v'.ownBlock = some w.heap.size) := by
  obtain ⟨i0, hi, hz0, hz1, hz2⟩ := info_parts info_r5
  obtain ⟨a, cap, rfl, hc⟩ := hm
  have own : ∀ (v' : Value) (w' : World), w'.ownsRow n0 45 5 v' (l.length + mo.length) (l.flatMap encQ ++ mo.flatMap encQ) → Ow w' n0 v' (l ++ mo) := fun v' w' q => by
    show w'.ownsRow n0 45 5 v' (l ++ mo).length ((l ++ mo).flatMap encQ)
    rw [List.length_append, List.flatMap_append]; exact q
  have some_ : ∀ ad : Addr, (∀ j u, (mo.flatMap encQ)[j]? = some u → w.cell? (ad.add j) = some u) → ∃ (v' : Value) (w' : World), (∀ ty, (Builtin.append_ #[41, 41] ty #[v, .slice (some ad) mo.length cap]).run Tryz.prog w = .ok v' w') ∧ Ow w' n0 v' (l ++ mo) ∧ w.grownBy w' v.ownBlock ∧ (v'.ownBlock = v.ownBlock ∨ v'.ownBlock = some w.heap.size) := fun ad hcell => by
    have run := fun ty => run_append_own_at (P := Tryz.prog) w n0 41 ty 45 i0 (.agg #[.int .i64 0, .string ⟨#[]⟩, .int .i64 0, .int .i64 0, .int .i64 0]) 5 48 Tryz.underlying41 hi hz0 hz1 hz2 rfl (by decide) v l.length (l.flatMap encQ) h ad mo.length cap (mo.flatMap encQ) (flatQ_len mo) hcell (flatQ_one mo) (by unfold maxLen; omega) (by omega) hn
    obtain ⟨v', w', hr, r1, r2, _, r4⟩ := run 41
    exact ⟨v', w', fun ty => hr, own v' w' r1, r2, r4⟩
  rcases hc with rfl | ⟨b, off, rfl, hc⟩
  · rcases a with _ | ad
    · refine ⟨v, w, fun ty => ?_, own v w (by simpa using h), grown_refl _ _, Or.inl rfl⟩
      rcases h.2 with ⟨rfl, h0⟩ | ⟨g, cp, cur, rfl, _, hg, hnc, _, _, _⟩
      · simp [Builtin.append_, run_underlying Tryz.underlying41, sizeOf, typeInfo, hi, Builtin.lenOf, Builtin.firstCells]
      · simp [Builtin.append_, run_underlying Tryz.underlying41, sizeOf, typeInfo, hi, Builtin.lenOf, Builtin.firstCells, hnc, storeCells]
    · exact some_ ad (fun j u hu' => by simp at hu')
  · exact some_ ⟨b, off, none⟩ (Rd.flat hc)
/-- A row of one ring that was just made. -/
theorem rd_new (W : World) (r : Rq) : Rd (W.alloc (.cells #[.int .i64 r.1, .string r.2.1, .int .i64 r.2.2.1, .int .i64 r.2.2.2.1, .int .i64 r.2.2.2.2] 45)) (.slice (some ⟨W.heap.size, 0, none⟩) 1 1) [r] :=
  ⟨_, 1, rfl, Or.inr ⟨W.heap.size, 0, rfl, fun i hi c hc => by
    obtain rfl : i = 0 := by simpa using hi
    have hL : Lies (W.alloc (.cells #[.int .i64 r.1, .string r.2.1, .int .i64 r.2.2.1, .int .i64 r.2.2.2.1, .int .i64 r.2.2.2.2] 45)) W.heap.size (encQ r) := heap_alloc_new W _
    have hs : (encQ r)[c]? = some (encQ r)[c] := List.getElem?_eq_getElem (by rw [encQ_len]; exact hc)
    show (W.alloc (.cells #[.int .i64 r.1, .string r.2.1, .int .i64 r.2.2.1, .int .i64 r.2.2.2.1, .int .i64 r.2.2.2.2] 45)).cell? ⟨W.heap.size, 0 + 0 * 5 + c, none⟩ = (encQ r)[c]?
    rw [hs, show 0 + 0 * 5 + c = c by omega]
    exact hL.cell hs⟩⟩
/-- What Index answers. -/
def IxA (M : List Rq) (r : Rq) (w : World) (e : Ending) (w' : World) : Prop := ∃ p : Int, e = .returned (.int .i64 p) ∧ ((p = -1 ∧ hasQ M r = false) ∨ ∃ k : Nat, p = k ∧ k < M.length ∧ M.getD k zq = r ∧ hasQ M r = true) ∧ Below w.heap.size w w'
set_option maxRecDepth 100000 in
set_option maxHeartbeats 2000000 in
theorem index_any (M : List Rq) (r : Rq) (v : Value) (w : World) (h : Rd w v M) (hl : M.length ≤ 1000000) :
    Calls Tryz.prog 95 #[v, agQ r] w (IxA M r w) := by
  obtain ⟨a, cap, rfl, hc⟩ := h
  obtain ⟨W0, hW0⟩ : ∃ W0, W0 = w.alloc (.cells #[.int .i64 r.1, .string r.2.1, .int .i64 r.2.2.1, .int .i64 r.2.2.2.1, .int .i64 r.2.2.2.2] 45) := ⟨_, rfl⟩
  have b0 : Below w.heap.size w W0 := by rw [hW0]; exact (Below.refl _ _).alloc (Nat.le_refl _) _
  have x0 : QBx W0 w.heap.size r := by rw [hW0]; exact QBx.new w r _
  have HX : Hid (∀ X, Below W0.heap.size W0 X → QBx X w.heap.size r ∧ Below w.heap.size w X ∧ (M = [] ∨ ∃ b off, a = some ⟨b, off, none⟩ ∧ ∀ i, i < M.length → At5 X b (off + i * 5) (M.getD i zq))) := Lib.hid (fun X q => by
    have q2 : Below w.heap.size w X := b0.trans (q.mono b0.size)
    refine ⟨x0.on q, q2, ?_⟩
    rcases hc with h | ⟨b, off, ea, h⟩
    · exact Or.inl h
    · subst ea
      exact Or.inr ⟨b, off, rfl, fun i hi => (Rd.at (cap := cap) ⟨_, cap, rfl, Or.inr ⟨b, off, rfl, h⟩⟩ hi).on q2⟩)
  have HW := Lib.hid hW0
  have YES : Hid (∀ k : Nat, k < M.length → eqQ r (M.getD k zq) = true → ∀ W, Below w.heap.size w W → IxA M r w (.returned (.int .i64 (k : Int))) W) := Lib.hid (fun k hk h W hW => ⟨k, rfl, Or.inr ⟨k, rfl, hk, (eqQ_iff.1 h).symm, hasQ_iff.2 (by rw [eqQ_iff.1 h]; exact getD_mem hk)⟩, hW⟩)
  have NO : Hid ((∀ t, t < M.length → eqQ r (M.getD t zq) = false) → ∀ W, Below w.heap.size w W → IxA M r w (.returned (.int .i64 (-1))) W) := Lib.hid (fun h W hW => ⟨-1, rfl, Or.inl ⟨rfl, hasQ_not.2 (fun q => by
    obtain ⟨t, ht, e⟩ := mem_getD q
    have := h t ht
    rw [e] at this
    have k : eqQ r r = true := eqQ_iff.2 rfl
    rw [k] at this
    cases this)⟩, hW⟩)
  generalize IxA M r w = PP at YES NO ⊢
  clear hc b0 x0 hW0
  go_enter Tryz.func95, Tryz.ntmps95
  go_upto_region 1 with fail
  rw [← HW.out]
  go_wp2_with fail
  go_loopw [5, 8] (fun _ i wr => ∃ k : Nat, k ≤ M.length ∧ i = .int .i64 k ∧ Hid (∀ t, t < k → eqQ r (M.getD t zq) = false) ∧ Hid (Below W0.heap.size W0 wr)) (fun _ i _ => M.length - (intOf i).toNat)
  case atStart => exact ⟨0, Nat.zero_le _, rfl, Lib.hid (fun t q => by omega), Lib.hid (Below.refl _ _)⟩
  case round =>
    obtain ⟨k, hk, rfl, I1, BB⟩ := hrel
    obtain ⟨qx, qb, qm⟩ := HX.out _ BB.out
    have QB := Lib.hid qb
    clear qb
    by_cases hlt : k < M.length
    · obtain ⟨b, off, ea, qn⟩ : ∃ b off, a = some ⟨b, off, none⟩ ∧ ∀ i, i < M.length → At5 wr b (off + i * 5) (M.getD i zq) := by
        rcases qm with h | h
        · rw [h] at hlt; simp at hlt
        · exact h
      subst ea
      have c5 := qn k hlt
      have Y1 := Lib.hid (YES.out k hlt)
      have I2 : Hid (eqQ r (M.getD k zq) = false → ∀ t, t < k + 1 → eqQ r (M.getD t zq) = false) := Lib.hid (fun h t ht => by
        rcases (by omega : t < k ∨ t = k) with q | q
        · exact I1.out t q
        · rw [q]; exact h)
      have bl := c5.lt
      have bl2 := qx.lt
      have HE : ∀ W : World, (binOp .eql 45 (agQ r) (agQ (M.getD k zq))).run Tryz.prog W = .ok (.bool (eqQ r (M.getD k zq))) W := fun W => ring_eql_run _ _ W
      generalize M.getD k zq = y at c5 Y1 I2 HE
      generalize eqQ r y = C at Y1 I2 HE
      obtain ⟨k1, k2, k3, k4, k5⟩ := c5
      obtain ⟨r1, r2, r3, r4, r5⟩ := qx
      clear qm qn
      generalize hn : M.length = n at *
      go_upto_region 4 with fail
      go_quiet (fail)
      have B2 : Hid (Below W0.heap.size W0 (wr.drewN nq)) := Lib.hid ⟨BB.out.os, BB.out.tape, BB.out.output, BB.out.size, BB.out.block⟩
      have B3 : Hid (Below w.heap.size w (wr.drewN nq)) := Lib.hid ⟨QB.out.os, QB.out.tape, QB.out.output, QB.out.size, QB.out.block⟩
      clear k1 k2 k3 k4 k5 r1 r2 r3 r4 r5 bl bl2 HE
      rcases C with _ | _
      · have P1 := Lib.hid (I2.out rfl)
        go_wp2
        go_roundw
        case rel => exact ⟨k + 1, by omega, by go_num, P1, B2⟩
        case measure => simp [intOf]; omega
      · have E := Lib.hid (Y1.out rfl _ B3.out)
        go_wp2
        exact E.out
    · have E := Lib.hid (NO.out (fun t ht => I1.out t (by omega)) _ QB.out)
      clear qx qm
      go_wp2
      exact E.out
theorem contains_any (M : List Rq) (r : Rq) (v : Value) (w : World) (h : Rd w v M) (hl : M.length ≤ 1000000) :
    Calls Tryz.prog 56 #[v, agQ r] w fun e w' => e = .returned (.bool (hasQ M r)) ∧ Below w.heap.size w w' := by
  obtain ⟨W0, hW0⟩ : ∃ W0, W0 = w.alloc (.cells #[.int .i64 r.1, .string r.2.1, .int .i64 r.2.2.1, .int .i64 r.2.2.2.1, .int .i64 r.2.2.2.2] 45) := ⟨_, rfl⟩
  have b0 : Below w.heap.size w W0 := by rw [hW0]; exact (Below.refl _ _).alloc (Nat.le_refl _) _
  have x0 : QBx W0 w.heap.size r := by rw [hW0]; exact QBx.new w r _
  have KI : Hid (Calls Tryz.prog 95 #[v, agQ r] W0 (IxA M r W0)) := Lib.hid (index_any M r v W0 (h.on b0) hl)
  have BT : Hid (∀ X, Below W0.heap.size W0 X → Below w.heap.size w X) := Lib.hid (fun X q => b0.trans (q.mono b0.size))
  have HW := Lib.hid hW0
  obtain ⟨r1, r2, r3, r4, r5⟩ := x0
  have bl : w.heap.size < W0.heap.size := cell_in r1
  clear h hl hW0 b0
  have HB : Hid (∀ p : Int, ((p = -1 ∧ hasQ M r = false) ∨ ∃ k : Nat, p = k ∧ k < M.length ∧ M.getD k zq = r ∧ hasQ M r = true) → decide (0 ≤ p) = hasQ M r) := Lib.hid (fun p hp => by
    rcases hp with ⟨rfl, e⟩ | ⟨k, rfl, _, _, e⟩
    · rw [e]; decide
    · rw [e]; simp)
  go_enter Tryz.func56, Tryz.ntmps56
  go_upto_region 1 with fail
  rw [← HW.out]
  go_wp2_with (go_at_call 95; refine KI.out.mono ?_; rintro e w2 ⟨p, rfl, hp, hb⟩; have HP := Lib.hid hp; clear hp)
  go_ret
  exact ⟨ret_bool (HB.out p HP.out), BT.out _ hb⟩
end Go.Proofs.YthdohcjingfpoaaGreatDoor.Qu
namespace Go.Proofs.YthdohcjingfpoaaGreatDoor.Qu
open Go.RowKit

/-- A time's level and slot on a wheel that is at another time. -/
structure Sp (now a l s : Nat) : Prop where
  eq : a / 64 ^ (l + 1) = now / 64 ^ (l + 1)
  ne : ∀ i, i < l → a / 64 ^ (i + 1) ≠ now / 64 ^ (i + 1)
  sl : s = a / 64 ^ l % 64
theorem div_up {a b i j : Nat} (h : a / 64 ^ i = b / 64 ^ i) (hij : i ≤ j) : a / 64 ^ j = b / 64 ^ j := by
  obtain ⟨k, rfl⟩ := Nat.le.dest hij
  rw [Nat.pow_add, ← Nat.div_div_eq_div_mul, ← Nat.div_div_eq_div_mul, h]
theorem div_one (a l : Nat) : a / 64 ^ l / 64 = a / 64 ^ (l + 1) := by rw [Nat.pow_succ, Nat.div_div_eq_div_mul]
theorem Sp.uniq {now a l s l' s' : Nat} (h : Sp now a l s) (k : Sp now a l' s') : l = l' ∧ s = s' := by
  rcases Nat.lt_trichotomy l l' with q | q | q
  · exact absurd h.eq (k.ne l q)
  · subst q; exact ⟨rfl, h.sl.trans k.sl.symm⟩
  · exact absurd k.eq (h.ne l' q)
theorem Sp.lt {now a l s : Nat} (h : Sp now a l s) (hn : now < 1073741824) (ha : a < 1073741824) : l < 5 ∧ s < 64 := by
  refine ⟨?_, by rw [h.sl]; exact Nat.mod_lt _ (by decide)⟩
  rcases Nat.lt_or_ge l 5 with q | q
  · exact q
  · refine absurd ?_ (h.ne 4 (by omega))
    have e : (64 : Nat) ^ (4 + 1) = 1073741824 := by decide
    rw [e, Nat.div_eq_of_lt ha, Nat.div_eq_of_lt hn]
/-- Where it is, as one number. -/
theorem sp_ex (now a : Nat) (hn : now < 1073741824) (ha : a < 1073741824) : ∃ l s, Sp now a l s := by
  have e : (64 : Nat) ^ (4 + 1) = 1073741824 := by decide
  have h4 : a / 64 ^ (4 + 1) = now / 64 ^ (4 + 1) := by rw [e, Nat.div_eq_of_lt ha, Nat.div_eq_of_lt hn]
  by_cases h0 : a / 64 ^ (0 + 1) = now / 64 ^ (0 + 1)
  · exact ⟨0, _, h0, fun i hi => by omega, rfl⟩
  by_cases h1 : a / 64 ^ (1 + 1) = now / 64 ^ (1 + 1)
  · exact ⟨1, _, h1, fun i hi => by rcases (by omega : i = 0) with rfl; exact h0, rfl⟩
  by_cases h2 : a / 64 ^ (2 + 1) = now / 64 ^ (2 + 1)
  · exact ⟨2, _, h2, fun i hi => by rcases (by omega : i = 0 ∨ i = 1) with rfl | rfl <;> assumption, rfl⟩
  by_cases h3 : a / 64 ^ (3 + 1) = now / 64 ^ (3 + 1)
  · exact ⟨3, _, h3, fun i hi => by rcases (by omega : i = 0 ∨ i = 1 ∨ i = 2) with rfl | rfl | rfl <;> assumption, rfl⟩
  · exact ⟨4, _, h4, fun i hi => by rcases (by omega : i = 0 ∨ i = 1 ∨ i = 2 ∨ i = 3) with rfl | rfl | rfl | rfl <;> assumption, rfl⟩
/-- What is due is in a slot that is gone over. -/
theorem sp_due {now tt z top last l s : Nat} (ht : Sp now tt top last) (hz : Sp now z l s) (h1 : now < z) (h2 : z ≤ tt) : l < top ∨ (l = top ∧ s ≤ last) := by
  have a1 : now / 64 ^ (top + 1) ≤ z / 64 ^ (top + 1) := Nat.div_le_div_right (by omega)
  have a2 : z / 64 ^ (top + 1) ≤ tt / 64 ^ (top + 1) := Nat.div_le_div_right h2
  have a3 := ht.eq
  have e : z / 64 ^ (top + 1) = now / 64 ^ (top + 1) := by omega
  rcases Nat.lt_trichotomy l top with q | q | q
  · exact Or.inl q
  · subst q
    refine Or.inr ⟨rfl, ?_⟩
    rw [hz.sl, ht.sl]
    have b1 : z / 64 ^ l ≤ tt / 64 ^ l := Nat.div_le_div_right h2
    have b2 : z / 64 ^ l / 64 = tt / 64 ^ l / 64 := by rw [div_one, div_one, e, a3]
    omega
  · exact absurd e (hz.ne top q)
/-- What is in no slot that is gone over stays where it is. -/
theorem sp_kept {now tt z top last l s : Nat} (ht : Sp now tt top last) (hz : Sp now z l s) (h : ¬ (l < top ∨ (l = top ∧ s ≤ last))) : Sp tt z l s := by
  rcases Nat.lt_trichotomy l top with q | q | q
  · exact absurd (Or.inl q) h
  · subst q
    refine ⟨hz.eq.trans ht.eq.symm, fun i hi e => ?_, hz.sl⟩
    have e2 : z / 64 ^ l = tt / 64 ^ l := div_up e (by omega)
    exact h (Or.inr ⟨rfl, by rw [hz.sl, ht.sl, e2]; exact Nat.le_refl _⟩)
  · refine ⟨hz.eq.trans (div_up ht.eq (by omega)).symm, fun i hi e => ?_, hz.sl⟩
    rcases Nat.lt_or_ge i top with r | r
    · exact hz.ne top q ((div_up e (by omega)).trans ht.eq)
    · exact hz.ne i hi (e.trans (div_up ht.eq (by omega)))
/-- Of two rings the one on the lower slot is first. -/
theorem sp_first {now z y lz sz ly sy : Nat} (hz : Sp now z lz sz) (hy : Sp now y ly sy) (h : now < y) (hl : lz < ly ∨ (lz = ly ∧ sz < sy)) : z < y := by
  rcases hl with q | ⟨rfl, q⟩
  · have e1 : z / 64 ^ ly = now / 64 ^ ly := div_up hz.eq (by omega)
    have e2 : y / 64 ^ ly ≠ now / 64 ^ ly := by
      have := hy.ne (ly - 1) (by omega)
      rwa [show ly - 1 + 1 = ly by omega] at this
    have a1 : now / 64 ^ ly ≤ y / 64 ^ ly := Nat.div_le_div_right (by omega)
    rcases Nat.lt_or_ge z y with r | r
    · exact r
    · have a2 : y / 64 ^ ly ≤ z / 64 ^ ly := Nat.div_le_div_right r
      omega
  · have e1 : z / 64 ^ lz / 64 = y / 64 ^ lz / 64 := by rw [div_one, div_one, hz.eq, hy.eq]
    have h1 := hz.sl
    have h2 := hy.sl
    rcases Nat.lt_or_ge z y with r | r
    · exact r
    · have a2 : y / 64 ^ lz ≤ z / 64 ^ lz := Nat.div_le_div_right r
      omega
end Go.Proofs.YthdohcjingfpoaaGreatDoor.Qu
namespace Go.Proofs.YthdohcjingfpoaaGreatDoor.Qu
open Go.RowKit

/-- The cells of a wheel. -/
def hf (now many : Int) (S : Nat → Value) (j : Nat) : Value := if j = 0 then .int .i64 now else if j = 1 then .int .i64 many else S (j - 2)
def wcs (f : Nat → Value) : List Value := (List.range 322).map f
theorem wcs_len (f : Nat → Value) : (wcs f).length = 322 := by simp [wcs]
theorem wcs_at {f : Nat → Value} {j : Nat} (h : j < 322) : (wcs f)[j]? = some (f j) := by simp [wcs, h]
def upd {α : Type} (f : Nat → α) (k : Nat) (v : α) : Nat → α := fun j => if j = k then v else f j
theorem upd_at {α : Type} (f : Nat → α) (k : Nat) (v : α) : upd f k v k = v := if_pos rfl
theorem upd_ne {α : Type} (f : Nat → α) {k j : Nat} (v : α) (h : j ≠ k) : upd f k v j = f j := if_neg h
theorem wcs_set (f : Nat → Value) (j : Nat) (v : Value) : (wcs f).set j v = wcs (upd f j v) := by
  apply List.ext_getElem?
  intro i
  rw [List.getElem?_set]
  by_cases h : j = i
  · subst h
    by_cases h2 : j < 322
    · simp [wcs, upd, h2]
    · simp [wcs, h2]
  · rw [if_neg h]
    by_cases h2 : i < 322
    · rw [wcs_at h2, wcs_at h2, upd_ne f v (Ne.symm h)]
    · rw [List.getElem?_eq_none (by rw [wcs_len]; omega), List.getElem?_eq_none (by rw [wcs_len]; omega)]
theorem hf_now (now many now' : Int) (S : Nat → Value) : upd (hf now many S) 0 (.int .i64 now') = hf now' many S := by
  funext j
  unfold upd hf
  split <;> rfl
theorem hf_many (now many many' : Int) (S : Nat → Value) : upd (hf now many S) 1 (.int .i64 many') = hf now many' S := by
  funext j
  unfold upd hf
  by_cases h : j = 1
  · subst h; simp
  · rw [if_neg h]; simp [h]
theorem hf_slot (now many : Int) (S : Nat → Value) (k : Nat) (v : Value) : upd (hf now many S) (2 + k) v = hf now many (upd S k v) := by
  funext j
  unfold upd hf
  by_cases h : j = 2 + k
  · subst h
    rw [if_pos rfl, if_neg (by omega), if_neg (by omega)]
    exact (if_pos (by omega)).symm
  · rw [if_neg h]
    by_cases h0 : j = 0
    · rw [if_pos h0, if_pos h0]
    · by_cases h1 : j = 1
      · rw [if_neg h0, if_pos h1, if_neg h0, if_pos h1]
      · rw [if_neg h0, if_neg h1, if_neg h0, if_neg h1]
        exact (if_neg (by omega)).symm
/-- A wheel's block. -/
def Wb (w : World) (b : Nat) (now many : Int) (S : Nat → Value) : Prop := w.heap[b]? = some (.cells (wcs (hf now many S)).toArray 109 (0, 0))
theorem Wb.lt {w : World} {b : Nat} {now many : Int} {S : Nat → Value} (h : Wb w b now many S) : b < w.heap.size := by
  rcases Nat.lt_or_ge b w.heap.size with q | q
  · exact q
  · unfold Wb at h
    rw [Array.getElem?_eq_none q] at h
    cases h
theorem Wb.cell {w : World} {b : Nat} {now many : Int} {S : Nat → Value} (h : Wb w b now many S) {j : Nat} (hj : j < 322) : w.cell? ⟨b, j, none⟩ = some (hf now many S j) := by
  unfold Wb at h
  simp [World.cell?, h, wcs_at hj]
theorem Wb.frozen {w : World} {b : Nat} {now many : Int} {S : Nat → Value} (h : Wb w b now many S) (j : Nat) : w.frozen? ⟨b, j, none⟩ = false := by
  unfold Wb at h
  simp [World.frozen?, h]
theorem Wb.cnow {w : World} {b : Nat} {now many : Int} {S : Nat → Value} (h : Wb w b now many S) : w.cell? ⟨b, 0, none⟩ = some (.int .i64 now) := h.cell (by omega)
theorem Wb.cmany {w : World} {b : Nat} {now many : Int} {S : Nat → Value} (h : Wb w b now many S) : w.cell? ⟨b, 1, none⟩ = some (.int .i64 many) := h.cell (by omega)
theorem Wb.cslot {w : World} {b : Nat} {now many : Int} {S : Nat → Value} (h : Wb w b now many S) {k : Nat} (hk : k < 320) : w.cell? ⟨b, 2 + k, none⟩ = some (S k) := by
  rw [h.cell (j := 2 + k) (by omega)]
  unfold hf
  rw [if_neg (by omega), if_neg (by omega), show 2 + k - 2 = k by omega]
theorem Wb.on {w w' : World} {b : Nat} {now many : Int} {S : Nat → Value} (h : Wb w b now many S) (q : w'.heap[b]? = w.heap[b]?) : Wb w' b now many S := q.trans h
theorem Wb.set {w : World} {b : Nat} {now many : Int} {S : Nat → Value} (h : Wb w b now many S) (j : Nat) (v : Value) : (w.setCell ⟨b, j, none⟩ v).heap[b]? = some (.cells (wcs (upd (hf now many S) j v)).toArray 109 (0, 0)) := by
  unfold Wb at h
  rw [setCell_eq_setRow w b j _ 109 (0, 0) v h, setRow_heap w b _ _ _ _ h]
  rw [← wcs_set]
  simp
/-- What a wheel has of its own. -/
def Ft (b : Nat) (S : Nat → Value) (g : Nat) : Prop := g = b ∨ ∃ k, k < 320 ∧ (S k).ownBlock = some g
/-- What a call keeps: all but what is handed to it to be changed. -/
structure Kf (F F' : Nat → Prop) (w w' : World) : Prop where
  os : w'.os = w.os
  tape : w'.tape = w.tape
  output : w'.output = w.output
  size : w.heap.size ≤ w'.heap.size
  block : ∀ k, k < w.heap.size → ¬ F k → w'.heap[k]? = w.heap[k]?
  own : ∀ k, F' k → F k ∨ w.heap.size ≤ k
theorem Kf.refl (F : Nat → Prop) (w : World) : Kf F F w w := ⟨rfl, rfl, rfl, Nat.le_refl _, fun _ _ _ => rfl, fun _ h => Or.inl h⟩
theorem Kf.trans {F G H : Nat → Prop} {a c d : World} (h : Kf F G a c) (k : Kf G H c d) : Kf F H a d :=
  ⟨k.os.trans h.os, k.tape.trans h.tape, k.output.trans h.output, Nat.le_trans h.size k.size, fun i hi hf => (k.block i (Nat.lt_of_lt_of_le hi h.size) (fun e => by
    rcases h.own i e with q | q
    · exact hf q
    · omega)).trans (h.block i hi hf), fun i hi => by
    rcases k.own i hi with q | q
    · exact h.own i q
    · exact Or.inr (Nat.le_trans h.size q)⟩
theorem Kf.of_below {F : Nat → Prop} {w w' : World} (h : Below w.heap.size w w') : Kf F F w w' := ⟨h.os, h.tape, h.output, h.size, fun k hk _ => h.block k hk, fun _ h => Or.inl h⟩
theorem Kf.below {F G : Nat → Prop} {B : Nat} {w w' : World} (h : Kf F G w w') (hB : B ≤ w.heap.size) (hF : ∀ k, F k → B ≤ k) : Below B w w' :=
  ⟨h.os, h.tape, h.output, h.size, fun k hk => h.block k (by omega) (fun e => by have := hF k e; omega)⟩
/-- What lies apart stays apart. -/
theorem Kf.apart {F F' : Nat → Prop} {w w' : World} (h : Kf F F' w w') {g : Nat} (hg : g < w.heap.size) (hF : ¬ F g) : ¬ F' g := fun e => by
  rcases h.own g e with q | q
  · exact hF q
  · omega
/-- A wheel: its block, its rows. -/
structure Wm (w : World) (b : Nat) (now many : Int) (S : Nat → Value) (R : Nat → List Rq) : Prop where
  box : Wb w b now many S
  own : ∀ k, k < 320 → Ow w (b + 1) (S k) (R k)
  apart : ∀ k j, k < 320 → j < 320 → k ≠ j → ∀ g, (S k).ownBlock = some g → (S j).ownBlock ≠ some g
theorem Wm.inw {w : World} {b : Nat} {now many : Int} {S : Nat → Value} {R : Nat → List Rq} (h : Wm w b now many S R) {g : Nat} (hg : Ft b S g) : b ≤ g ∧ g < w.heap.size := by
  rcases hg with rfl | ⟨k, hk, e⟩
  · exact ⟨Nat.le_refl _, h.box.lt⟩
  · have := (h.own k hk).lt g e
    omega
theorem Wm.on {w w' : World} {b : Nat} {now many : Int} {S : Nat → Value} {R : Nat → List Rq} (h : Wm w b now many S R) (q : ∀ g, Ft b S g → w'.heap[g]? = w.heap[g]?) : Wm w' b now many S R :=
  ⟨h.box.on (q b (Or.inl rfl)), fun k hk => own_on (h.own k hk) (fun g hg => q g (Or.inr ⟨k, hk, hg⟩)), h.apart⟩
theorem Wm.onB {w w' : World} {b : Nat} {now many : Int} {S : Nat → Value} {R : Nat → List Rq} (h : Wm w b now many S R) (q : Below w.heap.size w w') : Wm w' b now many S R := h.on (fun g hg => q.block g (h.inw hg).2)
/-- Where a thing that lies apart is changed. -/
theorem Wm.onK {w w' : World} {b : Nat} {now many : Int} {S : Nat → Value} {R : Nat → List Rq} {F F' : Nat → Prop} (h : Wm w b now many S R) (q : Kf F F' w w') (hd : ∀ g, Ft b S g → ¬ F g) : Wm w' b now many S R := h.on (fun g hg => q.block g (h.inw hg).2 (hd g hg))
/-- What spot answers. -/
def SpA (now t : Int) (w : World) (e : Ending) (w' : World) : Prop := ∃ l s : Nat, Hid (Sp now.toNat t.toNat l s) ∧ l < 5 ∧ s < 64 ∧ e = .returned (.tuple #[.int .i64 l, .int .i64 s]) ∧ Below w.heap.size w w'
set_option maxRecDepth 100000 in
set_option maxHeartbeats 2000000 in
theorem spot_any (w : World) (b : Nat) (now many : Int) (S : Nat → Value) (t : Int) (h : Wb w b now many S) (hn : 1 ≤ now) (hn2 : now ≤ 157785119) (ht : 1 ≤ t) (ht2 : t ≤ 157785119) :
    Calls Tryz.prog 55 #[.pointer (some ⟨b, 0, none⟩), .int .i64 t] w (SpA now t w) := by
  have c := h.cnow
  have bl := h.lt
  obtain ⟨N, hN⟩ : ∃ N, N = now.toNat := ⟨_, rfl⟩
  obtain ⟨T, hT⟩ : ∃ T, T = t.toNat := ⟨_, rfl⟩
  obtain rfl : now = (N : Int) := by omega
  obtain rfl : t = (T : Int) := by omega
  have hN2 : N < 1073741824 := by omega
  have hT2 : T < 1073741824 := by omega
  have EN : Hid (∀ k, T / 64 ^ (k + 1) ≠ N / 64 ^ (k + 1) → k < 4) := Lib.hid (fun k hk => by
    rcases Nat.lt_or_ge k 4 with q | q
    · exact q
    · exfalso
      apply hk
      refine div_up (i := 5) ?_ (by omega)
      have e : (64 : Nat) ^ 5 = 1073741824 := by decide
      rw [e, Nat.div_eq_of_lt hT2, Nat.div_eq_of_lt hN2])
  have FI : Hid (∀ k X : Nat, k < 5 → Sp N T k (X % 64) → ∀ W, Below w.heap.size w W → SpA (N : Int) (T : Int) w (.returned (.tuple #[.int .i64 (k : Int), .int .i64 ((X : Int) % 64)])) W) := Lib.hid (fun k X hk hs W hW => ⟨k, X % 64, Lib.hid (by simpa using hs), hk, by omega, by simp, hW⟩)
  generalize SpA (N : Int) (T : Int) w = PP at FI ⊢
  clear h hN hT hn hn2 ht ht2
  go_enter Tryz.func55, Tryz.ntmps55
  go_upto_region 1 with fail
  go_quiet (fail)
  have B1 : Hid (Below w.heap.size w (w.drewN nq)) := Lib.hid (below_drewN (Below.refl _ _) _)
  generalize w.drewN nq = W1 at B1 ⊢
  clear c bl
  go_wp2_with fail
  go_loop [1, 6, 7] (fun x l y => ∃ k X Y : Nat, k < 5 ∧ x = .int .i64 X ∧ l = .int .i64 k ∧ y = .int .i64 Y ∧ X < 1073741824 ∧ Y < 1073741824 ∧ Hid (X = T / 64 ^ k ∧ Y = N / 64 ^ k) ∧ Hid (∀ i, i < k → T / 64 ^ (i + 1) ≠ N / 64 ^ (i + 1))) (fun _ l _ => 5 - (intOf l).toNat)
  case atStart => exact ⟨0, T, N, by omega, rfl, rfl, rfl, by omega, by omega, Lib.hid ⟨by simp, by simp⟩, Lib.hid (fun i hi => by omega)⟩
  case round =>
    obtain ⟨k, X, Y, hk, rfl, rfl, rfl, hX, hY, HXY, HI⟩ := hrel
    have HD : Hid (X / 64 = T / 64 ^ (k + 1) ∧ Y / 64 = N / 64 ^ (k + 1)) := Lib.hid (by rw [HXY.out.1, HXY.out.2, div_one, div_one]; exact ⟨rfl, rfl⟩)
    have HS : Hid (X % 64 = T / 64 ^ k % 64) := Lib.hid (by rw [HXY.out.1])
    by_cases hq : X / 64 = Y / 64
    · have HF := Lib.hid (FI.out k X hk ⟨by rw [← HD.out.1, ← HD.out.2, hq], HI.out, HS.out⟩ W1 B1.out)
      go_wp2
      exact HF.out
    · have H4 : k < 4 := EN.out k (by rw [← HD.out.1, ← HD.out.2]; exact hq)
      have HJ : Hid (∀ i, i < k + 1 → T / 64 ^ (i + 1) ≠ N / 64 ^ (i + 1)) := Lib.hid (fun i hi => by
        rcases (by omega : i < k ∨ i = k) with q | q
        · exact HI.out i q
        · rw [q, ← HD.out.1, ← HD.out.2]; exact hq)
      go_wp2
      go_round
      case rel => exact ⟨k + 1, X / 64, Y / 64, by omega, by go_num, by go_num, by go_num, by omega, by omega, HD, HJ⟩
      case measure => simp [intOf]; omega
end Go.Proofs.YthdohcjingfpoaaGreatDoor.Qu
namespace Go.Proofs.YthdohcjingfpoaaGreatDoor.Qu
open Go.RowKit

/-- A wheel's rows where there are none. -/
def S0 : Nat → Value := fun _ => .slice none 0 0
theorem wheel_build (now : Int) (W : World) : (Instr.build 109 #[(0, .int .i64 now)]).run Tryz.prog W = .ok (.agg (wcs (hf now 0 S0)).toArray) W := by kernel_rfl
theorem wpl_build (w : World) {ops : Array Oper} {rest : List Oper} {o : Oper} {a : Act} {Q : Exit → Act → World → Prop} (hgd : o.guard = none) (t : TypeId) (i : Nat) (x : Operand) (ho : o.op = .build t #[(i, x)]) (v v' : Value) (hx : a.eval x = v)
    (hr : (Instr.build t #[(i, v)]).run Tryz.prog w = .ok v' w) (h : wpList Tryz.prog ops Q rest (a.put o.dst v') w) : wpList Tryz.prog ops Q (o :: rest) a w :=
  wpList_plain hgd fun _ hK => by
    unfold Oper.wp execOp
    simp only [ho, Sem.run_bind, Sem.run_pure, Result.andThen_ok, List.map_toArray, List.map_cons, List.map_nil, hx, hr]
    exact hK _ _ h
theorem wpl_box (w : World) {ops : Array Oper} {rest : List Oper} {o : Oper} {a : Act} {Q : Exit → Act → World → Prop} (hgd : o.guard = none) (t : TypeId) (x : Operand) (ho : o.op = .box t x) (cs : Array Value) (hx : a.eval x = .agg cs)
    (h : wpList Tryz.prog ops Q rest (a.put o.dst (.pointer (some ⟨w.heap.size, 0, none⟩))) (w.alloc (.cells cs t))) : wpList Tryz.prog ops Q (o :: rest) a w :=
  wpList_plain hgd fun _ hK => by
    unfold Oper.wp execOp
    have hb : (Instr.box t (.agg cs)).run Tryz.prog w = .ok (.pointer (some ⟨w.heap.size, 0, none⟩)) (w.alloc (.cells cs t)) := by
      simp [Instr.box, newVar, newRow]
      rfl
    simp only [ho, Sem.run_bind, Sem.run_pure, Result.andThen_ok, hx, hb]
    exact hK _ _ h
/-- No wheel. -/
def WnoA (w : World) (e : Ending) (w' : World) : Prop := e = .returned (.tuple #[.pointer none, .iface 86 (.int .i64 1)]) ∧ w' = w
theorem wnew_no (now : Int) (w : World) (h : ist now = false) : Calls Tryz.prog 21 #[.int .i64 now] w (WnoA w) := by
  have FI : Hid (WnoA w (.returned (.tuple #[.pointer none, .iface 86 (.int .i64 1)])) w) := Lib.hid ⟨rfl, rfl⟩
  generalize WnoA w = PP at FI ⊢
  go_enter Tryz.func21, Tryz.ntmps21
  go_wp2_with (go_at_call 51; refine (isTime_any _ _).mono ?_; rintro e w2 ⟨rfl, hw⟩; replace hw := hw.symm; subst hw; rw [h])
  exact FI.out
/-- A wheel just made. -/
def WnA (now : Int) (w : World) (e : Ending) (w' : World) : Prop := e = .returned (.tuple #[.pointer (some ⟨w.heap.size, 0, none⟩), .nilIface]) ∧ Below w.heap.size w w' ∧ w'.heap.size = w.heap.size + 1 ∧ Wm w' w.heap.size now 0 S0 (fun _ => [])
theorem wnew_yes (now : Int) (w : World) (h : ist now = true) : Calls Tryz.prog 21 #[.int .i64 now] w (WnA now w) := by
  have HB := Lib.hid (wheel_build now)
  obtain ⟨C, hC⟩ : ∃ C, C = (wcs (hf now 0 S0)).toArray := ⟨_, rfl⟩
  rw [← hC] at HB
  have hb : Wb (w.alloc (.cells C 109)) w.heap.size now 0 S0 := by
    unfold Wb
    rw [← hC]
    exact heap_alloc_new w _
  have FI : Hid (WnA now w (.returned (.tuple #[.pointer (some ⟨w.heap.size, 0, none⟩), .nilIface])) (w.alloc (.cells C 109))) := Lib.hid
    ⟨rfl, (Below.refl _ _).alloc (Nat.le_refl _) _, by simp, ⟨hb, fun k _ => World.ownsRow_nil _ _ _ _, fun k j _ _ _ g hg => by cases hg⟩⟩
  generalize WnA now w = PP at FI ⊢
  clear hC hb
  go_enter Tryz.func21, Tryz.ntmps21
  go_upto_region 3 with (go_at_call 51; refine (isTime_any _ _).mono ?_; rintro e w2 ⟨rfl, hw⟩; replace hw := hw.symm; subst hw; rw [h])
  go_wp2_with (first
    | (refine wpl_build _ rfl 109 0 (.tmp 8) rfl (.int .i64 now) (.agg C) rfl (HB.out _) ?_)
    | (refine wpl_box _ rfl 109 (.tmp 9) rfl C rfl ?_))
  exact FI.out
theorem wlen_any (w : World) (b : Nat) (now many : Int) (S : Nat → Value) (h : Wb w b now many S) : Calls Tryz.prog 26 #[.pointer (some ⟨b, 0, none⟩)] w fun e w' => e = .returned (.int .i64 many) ∧ w' = w := by
  have c := h.cmany
  have bl := h.lt
  clear h
  go_enter Tryz.func26, Tryz.ntmps26
  go_wp2
  go_ret
  exact ⟨rfl, rfl⟩
end Go.Proofs.YthdohcjingfpoaaGreatDoor.Qu
