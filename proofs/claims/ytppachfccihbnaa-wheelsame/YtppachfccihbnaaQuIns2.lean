/-
  What is proved here: what slices.Insert answers at a row of rings that has no room, and at any (contracts over the translation).
-/
import Derived.Test.YtppachfccihbnaaQuIns
namespace Go.Proofs.Ytppachfccihbnaa.Qu
open Go.RowKit

theorem zero_at (n : Nat) : Builtin.zeroCells (Value.agg #[.int .i64 0, .string ⟨#[]⟩, .int .i64 0, .int .i64 0, .int .i64 0]).cells n = (zrs n).toArray := by
  have h := zero_cells n
  rw [← h]
  simp [zr5]
set_option maxHeartbeats 4000000 in
set_option maxRecDepth 1000000 in
/-- Between, where there is no room. -/
theorem insert_grow (M : List Rq) (r : Rq) (p n0 vb g cap : Nat) (L : List Value) (w : World) (hn0 : n0 ≤ w.heap.size) (hL : Lies w g L) (ht : L.take (M.length * 5) = M.flatMap encQ)
    (hp : p < M.length) (hnc : M.length ≤ cap) (hroom : cap < M.length + 1) (hbig : M.length ≤ 1000000) (hv : Lies w vb (encQ r)) :
    Calls Try.prog 21 #[.slice (some ⟨g, 0, none⟩) M.length cap, .int .i64 p, .slice (some ⟨vb, 0, none⟩) 1 1] w (InsA M r p n0 (.slice (some ⟨g, 0, none⟩) M.length cap) w) := by
  obtain ⟨i0, hi, hz0, hz1, hz2⟩ := info_ring
  obtain ⟨n, hn⟩ : ∃ n, n = M.length := ⟨_, rfl⟩
  rw [← hn] at ht hp hroom hnc hbig ⊢
  obtain ⟨G, hG⟩ : ∃ G, G = grownCap w (n + 1) cap 31 := ⟨_, rfl⟩
  have hG1 : n + 1 ≤ G := by rw [hG]; exact grownCap_ge w _ _ _
  have hG2 : G ≤ 9223372036854775807 := by
    have := grownCap_le_maxLen w (n + 1) cap 31 (by unfold maxLen; omega)
    rw [← hG] at this
    unfold maxLen at this
    omega
  obtain ⟨L0, hL0⟩ : ∃ L0 : List Value, L0 = (M.take p).flatMap encQ ++ zrs (n + 1 - p) ++ zrs (G - (n + 1)) := ⟨_, rfl⟩
  have l0 : L0.length = G * 5 := by rw [hL0]; simp only [List.length_append, flatQ_len, zrs_len, List.length_take]; omega
  obtain ⟨W1, hW1⟩ : ∃ W1, W1 = w.drew.alloc (.cells L0.toArray 31) := ⟨_, rfl⟩
  obtain ⟨N, hN⟩ : ∃ N, N = w.heap.size := ⟨_, rfl⟩
  have hW1L : Lies W1 N L0 := by rw [hW1, hN]; exact heap_alloc_new w.drew _
  have hold : (Builtin.firstCells i0.size p (.slice (some ⟨g, 0, none⟩) p cap)).run Try.prog w.drew = .ok ((M.take p).flatMap encQ).toArray w.drew := by
    rw [hz1]
    exact run_firstCells_some w.drew 5 p ⟨g, 0, none⟩ p cap _ (by rw [flatQ_len, List.length_take]; omega) (fun j u hj => by
      rw [Addr.add_mid, Nat.zero_add]
      refine Lies.cell (w := w.drew) hL ?_
      rw [← cut_flat ht (by omega), List.getElem?_take] at hj
      split at hj
      · exact hj
      · cases hj)
  have AW : Hid (∀ ty, (Builtin.append_ #[22, 3] ty #[.slice (some ⟨g, 0, none⟩) p cap, .int .i64 ((n : Int) + 1 - (p : Int))]).run Try.prog w = .ok (.slice (some ⟨N, 0, none⟩) (n + 1) G) W1) := Lib.hid (fun ty => by
    have h := Lib.run_append_grow_zeros w 22 3 ty 31 i0 _ .i64 .i64 Try.underlying22 Try.underlying3 hi hz0 (some ⟨g, 0, none⟩) p cap _ hold (n + 1 - p) (by omega) (by omega) (by omega) (by omega) (by rw [hz2]; omega) (by rw [hz2, show p + (n + 1 - p) = n + 1 by omega]; exact growslice_fits hroom (by omega))
    rw [show p + (n + 1 - p) = n + 1 by omega, zero_at, zero_at, ← hG] at h
    have ek : ((n + 1 - p : Nat) : Int) = (n : Int) + 1 - (p : Int) := by omega
    rw [ek] at h
    rw [h, hW1, hN, hL0]
    simp)
  obtain ⟨cs, hcs⟩ : ∃ cs, cs = (M.drop p).flatMap encQ := ⟨_, rfl⟩
  have hcl : cs.length = (n - p) * 5 := by rw [hcs, flatQ_len, List.length_drop, hn]
  have hget : ∀ t u, cs[t]? = some u → L[p * 5 + t]? = some u := fun t u hu => by
    have ht' : t < cs.length := (List.getElem?_eq_some_iff.1 hu).1
    have e : L[p * 5 + t]? = (L.take (n * 5))[p * 5 + t]? := by
      rw [List.getElem?_take, if_pos (by omega)]
    rw [e, ht, ← List.getElem?_drop, flatQ_drop, ← hcs]
    exact hu
  obtain ⟨L1, hL1⟩ : ∃ L1, L1 = spl L0 (p * 5) (encQ r) := ⟨_, rfl⟩
  have l1 : L1.length = G * 5 := by rw [hL1, spl_len (by rw [encQ_len]; omega)]; exact l0
  obtain ⟨W2, hW2⟩ : ∃ W2, W2 = W1.setRow N L1.toArray := ⟨_, rfl⟩
  have hW2L : Lies W2 N L1 := by rw [hW2]; exact hW1L.set L1
  have hgN : g ≠ N := by have := hL.lt; omega
  have hvN : vb ≠ N := by have := hv.lt; omega
  have hv1 : Lies W1 vb (encQ r) := by
    rw [hW1]
    unfold Lies
    rw [Below.heap_alloc w.drew _ vb hv.lt]
    exact hv
  have hg2 : Lies W2 g L := by
    rw [hW2, hW1]
    unfold Lies
    rw [setRow_other _ N g _ hgN, Below.heap_alloc w.drew _ g hL.lt]
    exact hL
  have mn2 : Nat.min 1 (n + 1 - p) = 1 := by simp only [Nat.min_def]; split <;> omega
  have C2 : ∀ ty dc, (Builtin.copy_ #[22, 22] ty #[.slice (some ⟨N, p * 5, none⟩) (n + 1 - p) dc, .slice (some ⟨vb, 0, none⟩) 1 1]).run Try.prog W1 = .ok (goInt 1) W2 := fun ty dc => by
    have q := copy_run hW1L ty (p * 5) (n + 1 - p) dc ⟨vb, 0, none⟩ 1 1 (encQ r) (by rw [mn2]; rfl) (fun j u hj => by rw [Addr.add_mid, Nat.zero_add]; exact hv1.cell hj) (by rw [encQ_len]; omega) (encQ_one r)
    rw [mn2, ← hL1, ← hW2] at q
    exact q
  obtain ⟨L2, hL2⟩ : ∃ L2, L2 = spl L1 ((p + 1) * 5) cs := ⟨_, rfl⟩
  obtain ⟨W3, hW3⟩ : ∃ W3, W3 = W2.drew.setRow N L2.toArray := ⟨_, rfl⟩
  have mn : Nat.min (n - p) (n - p) = n - p := by simp
  have C1 : Hid (∀ ty dc sc, (Builtin.copy_ #[22, 22] ty #[.slice (some ⟨N, (p + 1) * 5, none⟩) (n - p) dc, .slice (some ⟨g, p * 5, none⟩) (n - p) sc]).run Try.prog W2.drew = .ok (goInt ((n - p : Nat) : Int)) W3) := Lib.hid (fun ty dc sc => by
    have q := copy_run (w := W2.drew) hW2L ty ((p + 1) * 5) (n - p) dc ⟨g, p * 5, none⟩ (n - p) sc cs (by rw [mn]; exact hcl) (fun j u hj => by rw [Addr.add_mid]; exact Lies.cell (w := W2.drew) hg2 (hget j u hj)) (by omega) (by rw [hcs]; exact flatQ_one _)
    rw [mn, ← hL2, ← hW3] at q
    exact q)
  have FIN : Hid (Ow W3 n0 (.slice (some ⟨N, 0, none⟩) (n + 1) G) (ins M p r) ∧ (Value.slice (some ⟨N, 0, none⟩) (n + 1) G).ownBlock = some w.heap.size ∧ w.grownBy W3 (some g)) := Lib.hid (by
    have dl : (ins M p r).length = n + 1 := by rw [ins_len (by omega)]; omega
    refine ⟨?_, by rw [hN]; rfl, ?_⟩
    · have q := Ow.make (w := W3) (L := L2) (M := ins M p r) (cap := G) (n0 := n0) (g := N) (by omega) (by rw [hW3]; exact Lies.set (w := W2.drew) hW2L L2) (by omega) hG2 (by rw [hL2, spl_len (by omega)]; exact l1) (by
        have e0 : (n + 1) * 5 = (p + 1) * 5 + cs.length := by omega
        rw [dl, hL2, e0, spl_take (by omega), hL1, show (p + 1) * 5 = p * 5 + (encQ r).length by rw [encQ_len]; omega, spl_take (by rw [encQ_len]; omega)]
        have e1 : L0.take (p * 5) = (M.take p).flatMap encQ := by
          rw [hL0, List.append_assoc, List.take_append_of_le_length (by rw [flatQ_len, List.length_take]; omega), List.take_of_length_le (by rw [flatQ_len, List.length_take]; omega)]
        rw [e1, hcs]
        simp [ins])
      rw [dl] at q
      exact q
    · have g1 : w.grownBy W3 none := by
        refine ⟨by rw [hW3, hW2, hW1]; rfl, by rw [hW3, hW2, hW1]; rfl, by rw [hW3, hW2, hW1]; rfl, ?_, fun k hk _ => ?_⟩
        · rw [hW3, hW2, hW1]
          simp [World.setRow]
        · rw [hW3, setRow_other _ N k _ (by omega)]
          show W2.heap[k]? = _
          rw [hW2, setRow_other _ N k _ (by omega), hW1, Below.heap_alloc w.drew _ k hk]
          rfl
      exact ⟨g1.os, g1.tape, g1.output, g1.size, fun k hk _ => g1.block k hk (by simp)⟩)
  have q0 : ¬ ((p : Int) = (n : Int)) := by omega
  have q1 : IntKind.i64.wrap ((p : Int) + 1) = (p : Int) + 1 := by rw [IntKind.wrap_i64]; omega
  have q2 : (0 : Int) ≤ (p : Int) + 1 := by omega
  have q3 : (p : Int) + 1 ≤ (n : Int) + 1 := by omega
  have q4 : ¬ G = p + 1 := by omega
  have q5 : ¬ G = p := by omega
  have q6 : (p : Int) ≤ (n : Int) + 1 := by omega
  have q7 : p ≤ n := by omega
  have q8 : (cap : Int) < (n : Int) + 1 := by omega
  have q9 : ¬ cap = p := by omega
  have q10 : p ≤ cap := by omega
  clear hL ht hn hcs hL1 hL2 hget hcl l1 hW1L hv1 hg2 hW2L hv mn mn2 hW3 hW2 hW1 hN hL0 l0 hold hG hgN hvN hn0
  go_enter Try.func21, Try.ntmps21
  go_wp2_with (at_builtin; refine wpl_app _ rfl _ _ 22 3 rfl _ _ rfl rfl (AW.out _) ?_)
  go_region_law (refine step_call2 rfl (.tmp 50) (.tmp 53) 22 22 rfl _ _ (by simp [Act.eval, Act.put]) (by simp [Act.eval, Act.put]) (C1.out _ (G - (p + 1)) (cap - p)) ?_)
  go_wp2
  go_ret
  exact ⟨_, rfl, FIN.out.1, Or.inr FIN.out.2.1, FIN.out.2.2⟩
/-- A ring is put in, wherever. -/
theorem insert_any (M : List Rq) (r : Rq) (p n0 vb : Nat) (v : Value) (w : World) (ho : Ow w n0 v M) (hp : p ≤ M.length) (hl : M.length ≤ 1000000) (hn0 : n0 ≤ w.heap.size) (hv : Lies w vb (encQ r)) (hne : v.ownBlock ≠ some vb) :
    Calls Try.prog 21 #[v, .int .i64 p, .slice (some ⟨vb, 0, none⟩) 1 1] w (InsA M r p n0 v w) := by
  rcases (by omega : p = M.length ∨ p < M.length) with q | q
  · subst q
    exact insert_end M r n0 vb v w ho hl hn0 hv
  · rcases ho.open with ⟨_, h0⟩ | ⟨g, cap, L, rfl, hb, hL, hnc, hm, hll, ht⟩
    · rw [h0] at q; simp at q
    · by_cases hroom : M.length + 1 ≤ cap
      · exact insert_room M r p n0 vb g cap L w hb hL hm hll ht q hroom hv (fun e => hne (by rw [e]; rfl))
      · exact insert_grow M r p n0 vb g cap L w hn0 hL ht q hnc (by omega) hl hv
end Go.Proofs.Ytppachfccihbnaa.Qu
