/-
  What is proved here: what slices.Insert answers at a row of rings that a call owns and one ring that lies elsewhere (a contract over the translation).
  What is proved here: what slices.Insert answers at a row of rings that has no room, and at any (contracts over the translation).
  What is proved here: what slices.BinarySearchFunc answers at a rising row of rings, by alarm.Order (a contract over the translation).
  What is proved here: plain facts on what is put into and taken out of a rising list of rings; small words on rings that lie in blocks of their own.
  What is proved here: when two rings are the same, as the program asks it; what chimeref2's Has answers (contracts over the translation).
-/
import Derived.Test.YthdohcjingfpoaaGreatDoorQA
import Derived.Lib.Overlaps
import Derived.Laws.Externs
import Derived.Laws.NewBlocks
import Derived.Shelf.Abstract
import Derived.BigQuiet
import Derived.Lib.QuietBelow
import Derived.Laws.StructEq
namespace Go.Proofs.YthdohcjingfpoaaGreatDoor.Qu
open Go.RowKit

theorem cut_flat {M : List Rq} {L : List Value} {n p : Nat} (ht : L.take (n * 5) = M.flatMap encQ) (hp : p ≤ n) : L.take (p * 5) = (M.take p).flatMap encQ := by
  rw [← flatQ_take, ← ht, List.take_take, Nat.min_eq_left (by omega)]
/-- What is put in, at a place and in any way. -/
def InsA (M : List Rq) (r : Rq) (p n0 : Nat) (v : Value) (w : World) (e : Ending) (w' : World) : Prop :=
  ∃ v', e = .returned v' ∧ Ow w' n0 v' (ins M p r) ∧ (v'.ownBlock = v.ownBlock ∨ v'.ownBlock = some w.heap.size) ∧ w.grownBy w' v.ownBlock
set_option maxHeartbeats 4000000 in
set_option maxRecDepth 1000000 in
/-- At the end. -/
theorem insert_end (M : List Rq) (r : Rq) (n0 vb : Nat) (v : Value) (w : World) (ho : Ow w n0 v M) (hl : M.length ≤ 1000000) (hn0 : n0 ≤ w.heap.size) (hv : Lies w vb (encQ r)) :
    Calls Tryz.prog 73 #[v, .int .i64 M.length, .slice (some ⟨vb, 0, none⟩) 1 1] w (InsA M r M.length n0 v w) := by
  obtain ⟨i0, hi, hz0, hz1, hz2⟩ := info_ring
  obtain ⟨v', w', hr, r1, r2, _, r4⟩ := run_append_own_at (P := Tryz.prog) w n0 41 0 45 i0 _ 5 48 Tryz.underlying41 hi hz0 hz1 hz2 rfl (by omega) v M.length (M.flatMap encQ) ho ⟨vb, 0, none⟩ 1 1 (encQ r) rfl (fun j u hu => by rw [Addr.add_mid, Nat.zero_add]; exact hv.cell hu) (encQ_one r) (by unfold maxLen; omega) (by omega) hn0
  have AW : Hid (∀ ty, (Builtin.append_ #[41, 41] ty #[v, .slice (some ⟨vb, 0, none⟩) 1 1]).run Tryz.prog w = .ok v' w') := Lib.hid (fun _ => hr)
  have FIN : Hid (Ow w' n0 v' (ins M M.length r) ∧ (v'.ownBlock = v.ownBlock ∨ v'.ownBlock = some w.heap.size) ∧ w.grownBy w' v.ownBlock) := Lib.hid (by
    refine ⟨?_, r4, r2⟩
    have e : ins M M.length r = M ++ [r] := by simp [ins]
    rw [e]
    unfold Ow
    rw [List.length_append, List.flatMap_append]
    simpa using r1)
  have hvf : ∃ a cap, v = .slice a M.length cap ∧ M.length ≤ cap ∧ (a = none → M.length = 0) := by
    rcases ho.open with ⟨rfl, h0⟩ | ⟨g, cap, L, rfl, _, _, hnc, _⟩
    · exact ⟨none, 0, by rw [h0]; rfl, by rw [h0]; simp, fun _ => by rw [h0]; rfl⟩
    · exact ⟨_, cap, rfl, hnc, fun h => by cases h⟩
  obtain ⟨a, cap, rfl, hc, ha⟩ := hvf
  have HA := Lib.hid ha
  clear ho hr r1 r2 r4 hv ha
  generalize M.length = n at *
  by_cases hcn : cap = n
  · subst hcn
    go_enter Tryz.func73, Tryz.ntmps73
    go_wp2_with (at_builtin; refine wpl_app _ rfl _ _ 41 41 rfl _ _ rfl rfl (AW.out _) ?_)
    go_ret
    exact ⟨_, rfl, FIN.out⟩
  · go_enter Tryz.func73, Tryz.ntmps73
    go_wp2_with (at_builtin; refine wpl_app _ rfl _ _ 41 41 rfl _ _ rfl rfl (AW.out _) ?_)
    go_ret
    exact ⟨_, rfl, FIN.out⟩
set_option maxHeartbeats 4000000 in
set_option maxRecDepth 1000000 in
/-- Between, where there is room. -/
theorem insert_room (M : List Rq) (r : Rq) (p n0 vb g cap : Nat) (L : List Value) (w : World) (hb : n0 ≤ g) (hL : Lies w g L) (hm : cap ≤ 9223372036854775807) (hl : L.length = cap * 5) (ht : L.take (M.length * 5) = M.flatMap encQ)
    (hp : p < M.length) (hroom : M.length + 1 ≤ cap) (hv : Lies w vb (encQ r)) (hne : vb ≠ g) :
    Calls Tryz.prog 73 #[.slice (some ⟨g, 0, none⟩) M.length cap, .int .i64 p, .slice (some ⟨vb, 0, none⟩) 1 1] w (InsA M r p n0 (.slice (some ⟨g, 0, none⟩) M.length cap) w) := by
  obtain ⟨n, hn⟩ : ∃ n, n = M.length := ⟨_, rfl⟩
  have hov : ∀ lb cb, (callFunc 116 #[.slice (some ⟨vb, 0, none⟩) 1 1, .slice (some ⟨g, (p + 1) * 5, none⟩) lb cb]).run Tryz.prog w = .ok (.value (.bool false)) w := fun lb cb => by
    rw [run_callFunc_extern Tryz.func116 (by kernel_rfl) (by kernel_rfl) (by kernel_rfl) (e := Extern.SlicesOverlaps.overlaps #[41, 41] #[4]) (by kernel_rfl),
      Lib.run_overlaps_apart w 41 4 45 Tryz.underlying41 5 size_ring ⟨vb, 0, none⟩ ⟨g, (p + 1) * 5, none⟩ 1 1 lb cb hne 45 45 5 (cap * 5) (by unfold Lies at hv; simp [World.shape?, hv, encQ]) (by unfold Lies at hL; simp [World.shape?, hL, hl]) (by omega) (hv.frozen 0) (hv.frozen 5)]
    rfl
  rw [← hn] at ht hp hroom ⊢
  obtain ⟨cs, hcs⟩ : ∃ cs, cs = (M.drop p).flatMap encQ := ⟨_, rfl⟩
  have hcl : cs.length = (n - p) * 5 := by rw [hcs, flatQ_len, List.length_drop, hn]
  have hget : ∀ t u, cs[t]? = some u → L[p * 5 + t]? = some u := fun t u hu => by
    have ht' : t < cs.length := (List.getElem?_eq_some_iff.1 hu).1
    have e : L[p * 5 + t]? = (L.take (n * 5))[p * 5 + t]? := by
      rw [List.getElem?_take, if_pos (by omega)]
    rw [e, ht, ← List.getElem?_drop, flatQ_drop, ← hcs]
    exact hu
  obtain ⟨L1, hL1⟩ : ∃ L1, L1 = spl L ((p + 1) * 5) cs := ⟨_, rfl⟩
  obtain ⟨L2, hL2⟩ : ∃ L2, L2 = spl L1 (p * 5) (encQ r) := ⟨_, rfl⟩
  obtain ⟨W1, hW1⟩ : ∃ W1, W1 = w.drew.setRow g L1.toArray := ⟨_, rfl⟩
  have l1 : L1.length = cap * 5 := by rw [hL1, spl_len (by omega)]; exact hl
  have hW1L : Lies W1 g L1 := by rw [hW1]; exact Lies.set (w := w.drew) hL L1
  have mn : Nat.min (n + 1 - p) (n - p) = n - p := by simp only [Nat.min_def]; split <;> omega
  have C1 : Hid (∀ ty dc sc, (Builtin.copy_ #[41, 41] ty #[.slice (some ⟨g, (p + 1) * 5, none⟩) (n - p) dc, .slice (some ⟨g, p * 5, none⟩) (n + 1 - p) sc]).run Tryz.prog w.drew = .ok (goInt ((n - p : Nat) : Int)) W1) := Lib.hid (fun ty dc sc => by
    have q := copy_run (w := w.drew) hL ty ((p + 1) * 5) (n - p) dc ⟨g, p * 5, none⟩ (n + 1 - p) sc cs (by rw [mn]; exact hcl) (fun j u hj => by rw [Addr.add_mid]; exact Lies.cell (w := w.drew) hL (hget j u hj)) (by omega) (by rw [hcs]; exact flatQ_one _)
    rw [mn, ← hL1, ← hW1] at q
    exact q)
  have mn2 : Nat.min 1 (n + 1 - p) = 1 := by simp only [Nat.min_def]; split <;> omega
  have hvW : Lies W1 vb (encQ r) := by
    rw [hW1]
    unfold Lies
    rw [setRow_other w.drew g vb _ hne]
    exact hv
  have C2 : Hid (∀ ty dc, (Builtin.copy_ #[41, 41] ty #[.slice (some ⟨g, p * 5, none⟩) (n + 1 - p) dc, .slice (some ⟨vb, 0, none⟩) 1 1]).run Tryz.prog W1 = .ok (goInt 1) (W1.setRow g L2.toArray)) := Lib.hid (fun ty dc => by
    have q := copy_run hW1L ty (p * 5) (n + 1 - p) dc ⟨vb, 0, none⟩ 1 1 (encQ r) (by rw [mn2]; rfl) (fun j u hj => by rw [Addr.add_mid, Nat.zero_add]; exact hvW.cell hj) (by rw [encQ_len]; omega) (encQ_one r)
    rw [mn2, ← hL2] at q
    exact q)
  have FIN : Hid (Ow (W1.setRow g L2.toArray) n0 (.slice (some ⟨g, 0, none⟩) (n + 1) cap) (ins M p r) ∧ w.grownBy (W1.setRow g L2.toArray) (some g)) := Lib.hid (by
    have dl : (ins M p r).length = n + 1 := by rw [ins_len (by omega)]; omega
    refine ⟨?_, grown_tr (grown_of_drew (by rw [hW1]; exact grown_setRow _ _ _)) (grown_setRow _ _ _)⟩
    have q := Ow.make (M := ins M p r) (cap := cap) hb (hW1L.set L2) (by omega) hm (by rw [hL2, spl_len (by rw [l1, encQ_len]; omega)]; exact l1) (by
      rw [dl, hL2]
      unfold spl
      rw [encQ_len, List.append_assoc, List.take_append, List.take_append, List.length_take, l1, Nat.min_eq_left (by omega), encQ_len, List.take_take, Nat.min_eq_right (by omega), List.take_of_length_le (l := encQ r) (by rw [encQ_len]; omega)]
      have e1 : L1.take (p * 5) = (M.take p).flatMap encQ := by
        rw [hL1, spl_low (by omega) (by omega)]
        exact cut_flat ht (by omega)
      have e2 : (L1.drop (p * 5 + 5)).take ((n + 1) * 5 - p * 5 - 5) = cs := by
        have e3 : p * 5 + 5 = (p + 1) * 5 := by omega
        rw [hL1, e3]
        unfold spl
        rw [List.append_assoc, List.drop_append, List.length_take, hl, Nat.min_eq_left (by omega), List.drop_eq_nil_of_le (by rw [List.length_take]; omega), Nat.sub_self, List.drop_zero, List.nil_append, List.take_append_of_le_length (by omega), List.take_of_length_le (by omega)]
      rw [e1, e2, hcs]
      simp [ins])
    rw [dl] at q
    exact q)
  have q0 : ¬ ((p : Int) = (n : Int)) := by omega
  have q1 : IntKind.i64.wrap ((p : Int) + 1) = (p : Int) + 1 := by rw [IntKind.wrap_i64]; omega
  have q2 : (0 : Int) ≤ (p : Int) + 1 := by omega
  have q3 : (p : Int) + 1 ≤ (n : Int) + 1 := by omega
  have q4 : ¬ cap = p + 1 := by omega
  have q5 : ¬ cap = p := by omega
  have q6 : (p : Int) ≤ (n : Int) + 1 := by omega
  have q7 : p ≤ n := by omega
  clear hL ht hn hcs hL1 hL2 hget hcl l1 hl hW1 hW1L hvW hv mn mn2
  go_enter Tryz.func73, Tryz.ntmps73
  go_wp2_with (simp only [hov])
  go_region_law (refine step_call2 rfl (.tmp 73) (.tmp 76) 41 41 rfl _ _ (by simp [Act.eval, Act.put]) (by simp [Act.eval, Act.put]) (C1.out _ (cap - (p + 1)) (cap - p)) ?_)
  have C3 := C2.out
  go_wp2
  go_ret
  exact ⟨_, rfl, FIN.out.1, Or.inl rfl, FIN.out.2⟩
end Go.Proofs.YthdohcjingfpoaaGreatDoor.Qu
namespace Go.Proofs.YthdohcjingfpoaaGreatDoor.Qu
open Go.RowKit

theorem zero_at (n : Nat) : Builtin.zeroCells (Value.agg #[.int .i64 0, .string ⟨#[]⟩, .int .i64 0, .int .i64 0, .int .i64 0]).cells n = (zrs n).toArray := by
  have h := zero_cells n
  rw [← h]
  simp [zr5]
set_option maxHeartbeats 4000000 in
set_option maxRecDepth 1000000 in
/-- Between, where there is no room. -/
theorem insert_grow (M : List Rq) (r : Rq) (p n0 vb g cap : Nat) (L : List Value) (w : World) (hn0 : n0 ≤ w.heap.size) (hL : Lies w g L) (ht : L.take (M.length * 5) = M.flatMap encQ)
    (hp : p < M.length) (hnc : M.length ≤ cap) (hroom : cap < M.length + 1) (hbig : M.length ≤ 1000000) (hv : Lies w vb (encQ r)) :
    Calls Tryz.prog 73 #[.slice (some ⟨g, 0, none⟩) M.length cap, .int .i64 p, .slice (some ⟨vb, 0, none⟩) 1 1] w (InsA M r p n0 (.slice (some ⟨g, 0, none⟩) M.length cap) w) := by
  obtain ⟨i0, hi, hz0, hz1, hz2⟩ := info_ring
  obtain ⟨n, hn⟩ : ∃ n, n = M.length := ⟨_, rfl⟩
  rw [← hn] at ht hp hroom hnc hbig ⊢
  obtain ⟨G, hG⟩ : ∃ G, G = grownCap w (n + 1) cap 45 := ⟨_, rfl⟩
  have hG1 : n + 1 ≤ G := by rw [hG]; exact grownCap_ge w _ _ _
  have hG2 : G ≤ 9223372036854775807 := by
    have := grownCap_le_maxLen w (n + 1) cap 45 (by unfold maxLen; omega)
    rw [← hG] at this
    unfold maxLen at this
    omega
  obtain ⟨L0, hL0⟩ : ∃ L0 : List Value, L0 = (M.take p).flatMap encQ ++ zrs (n + 1 - p) ++ zrs (G - (n + 1)) := ⟨_, rfl⟩
  have l0 : L0.length = G * 5 := by rw [hL0]; simp only [List.length_append, flatQ_len, zrs_len, List.length_take]; omega
  obtain ⟨W1, hW1⟩ : ∃ W1, W1 = w.drew.alloc (.cells L0.toArray 45) := ⟨_, rfl⟩
  obtain ⟨N, hN⟩ : ∃ N, N = w.heap.size := ⟨_, rfl⟩
  have hW1L : Lies W1 N L0 := by rw [hW1, hN]; exact heap_alloc_new w.drew _
  have hold : (Builtin.firstCells i0.size p (.slice (some ⟨g, 0, none⟩) p cap)).run Tryz.prog w.drew = .ok ((M.take p).flatMap encQ).toArray w.drew := by
    rw [hz1]
    exact run_firstCells_some w.drew 5 p ⟨g, 0, none⟩ p cap _ (by rw [flatQ_len, List.length_take]; omega) (fun j u hj => by
      rw [Addr.add_mid, Nat.zero_add]
      refine Lies.cell (w := w.drew) hL ?_
      rw [← cut_flat ht (by omega), List.getElem?_take] at hj
      split at hj
      · exact hj
      · cases hj)
  have AW : Hid (∀ ty, (Builtin.append_ #[41, 3] ty #[.slice (some ⟨g, 0, none⟩) p cap, .int .i64 ((n : Int) + 1 - (p : Int))]).run Tryz.prog w = .ok (.slice (some ⟨N, 0, none⟩) (n + 1) G) W1) := Lib.hid (fun ty => by
    have h := Lib.run_append_grow_zeros w 41 3 ty 45 i0 _ .i64 .i64 Tryz.underlying41 Tryz.underlying3 hi hz0 (some ⟨g, 0, none⟩) p cap _ hold (n + 1 - p) (by omega) (by omega) (by omega) (by omega) (by rw [hz2]; omega) (by rw [hz2, show p + (n + 1 - p) = n + 1 by omega]; exact growslice_fits hroom (by omega))
    rw [show p + (n + 1 - p) = n + 1 by omega, zero_at, zero_at, ← hG] at h
    have ek : ((n + 1 - p : Nat) : Int) = (n : Int) + 1 - (p : Int) := by omega
    rw [ek] at h
    rw [h, hW1, hN, hL0]
    simp)
  obtain ⟨cs, hcs⟩ : ∃ cs, cs = (M.drop p).flatMap encQ := ⟨_, rfl⟩
  have hcl : cs.length = (n - p) * 5 := by rw [hcs, flatQ_len, List.length_drop, hn]
  have hget : ∀ t u, cs[t]? = some u → L[p * 5 + t]? = some u := fun t u hu => by
    have ht' : t < cs.length := (List.getElem?_eq_some_iff.1 hu).1
    have e : L[p * 5 + t]? = (L.take (n * 5))[p * 5 + t]? := by
      rw [List.getElem?_take, if_pos (by omega)]
    rw [e, ht, ← List.getElem?_drop, flatQ_drop, ← hcs]
    exact hu
  obtain ⟨L1, hL1⟩ : ∃ L1, L1 = spl L0 (p * 5) (encQ r) := ⟨_, rfl⟩
  have l1 : L1.length = G * 5 := by rw [hL1, spl_len (by rw [encQ_len]; omega)]; exact l0
  obtain ⟨W2, hW2⟩ : ∃ W2, W2 = W1.setRow N L1.toArray := ⟨_, rfl⟩
  have hW2L : Lies W2 N L1 := by rw [hW2]; exact hW1L.set L1
  have hgN : g ≠ N := by have := hL.lt; omega
  have hvN : vb ≠ N := by have := hv.lt; omega
  have hv1 : Lies W1 vb (encQ r) := by
    rw [hW1]
    unfold Lies
    rw [Below.heap_alloc w.drew _ vb hv.lt]
    exact hv
  have hg2 : Lies W2 g L := by
    rw [hW2, hW1]
    unfold Lies
    rw [setRow_other _ N g _ hgN, Below.heap_alloc w.drew _ g hL.lt]
    exact hL
  have mn2 : Nat.min 1 (n + 1 - p) = 1 := by simp only [Nat.min_def]; split <;> omega
  have C2 : ∀ ty dc, (Builtin.copy_ #[41, 41] ty #[.slice (some ⟨N, p * 5, none⟩) (n + 1 - p) dc, .slice (some ⟨vb, 0, none⟩) 1 1]).run Tryz.prog W1 = .ok (goInt 1) W2 := fun ty dc => by
    have q := copy_run hW1L ty (p * 5) (n + 1 - p) dc ⟨vb, 0, none⟩ 1 1 (encQ r) (by rw [mn2]; rfl) (fun j u hj => by rw [Addr.add_mid, Nat.zero_add]; exact hv1.cell hj) (by rw [encQ_len]; omega) (encQ_one r)
    rw [mn2, ← hL1, ← hW2] at q
    exact q
  obtain ⟨L2, hL2⟩ : ∃ L2, L2 = spl L1 ((p + 1) * 5) cs := ⟨_, rfl⟩
  obtain ⟨W3, hW3⟩ : ∃ W3, W3 = W2.drew.setRow N L2.toArray := ⟨_, rfl⟩
  have mn : Nat.min (n - p) (n - p) = n - p := by simp
  have C1 : Hid (∀ ty dc sc, (Builtin.copy_ #[41, 41] ty #[.slice (some ⟨N, (p + 1) * 5, none⟩) (n - p) dc, .slice (some ⟨g, p * 5, none⟩) (n - p) sc]).run Tryz.prog W2.drew = .ok (goInt ((n - p : Nat) : Int)) W3) := Lib.hid (fun ty dc sc => by
    have q := copy_run (w := W2.drew) hW2L ty ((p + 1) * 5) (n - p) dc ⟨g, p * 5, none⟩ (n - p) sc cs (by rw [mn]; exact hcl) (fun j u hj => by rw [Addr.add_mid]; exact Lies.cell (w := W2.drew) hg2 (hget j u hj)) (by omega) (by rw [hcs]; exact flatQ_one _)
    rw [mn, ← hL2, ← hW3] at q
    exact q)
  have FIN : Hid (Ow W3 n0 (.slice (some ⟨N, 0, none⟩) (n + 1) G) (ins M p r) ∧ (Value.slice (some ⟨N, 0, none⟩) (n + 1) G).ownBlock = some w.heap.size ∧ w.grownBy W3 (some g)) := Lib.hid (by
    have dl : (ins M p r).length = n + 1 := by rw [ins_len (by omega)]; omega
    refine ⟨?_, by rw [hN]; rfl, ?_⟩
    · have q := Ow.make (w := W3) (L := L2) (M := ins M p r) (cap := G) (n0 := n0) (g := N) (by omega) (by rw [hW3]; exact Lies.set (w := W2.drew) hW2L L2) (by omega) hG2 (by rw [hL2, spl_len (by omega)]; exact l1) (by
        have e0 : (n + 1) * 5 = (p + 1) * 5 + cs.length := by omega
        rw [dl, hL2, e0, spl_take (by omega), hL1, show (p + 1) * 5 = p * 5 + (encQ r).length by rw [encQ_len]; omega, spl_take (by rw [encQ_len]; omega)]
        have e1 : L0.take (p * 5) = (M.take p).flatMap encQ := by
          rw [hL0, List.append_assoc, List.take_append_of_le_length (by rw [flatQ_len, List.length_take]; omega), List.take_of_length_le (by rw [flatQ_len, List.length_take]; omega)]
        rw [e1, hcs]
        simp [ins])
      rw [dl] at q
      exact q
    · have g1 : w.grownBy W3 none := by
        refine ⟨by rw [hW3, hW2, hW1]; rfl, by rw [hW3, hW2, hW1]; rfl, by rw [hW3, hW2, hW1]; rfl, ?_, fun k hk _ => ?_⟩
        · rw [hW3, hW2, hW1]
          simp [World.setRow]
        · rw [hW3, setRow_other _ N k _ (by omega)]
          show W2.heap[k]? = _
          rw [hW2, setRow_other _ N k _ (by omega), hW1, Below.heap_alloc w.drew _ k hk]
          rfl
      exact ⟨g1.os, g1.tape, g1.output, g1.size, fun k hk _ => g1.block k hk (by simp)⟩)
  have q0 : ¬ ((p : Int) = (n : Int)) := by omega
  have q1 : IntKind.i64.wrap ((p : Int) + 1) = (p : Int) + 1 := by rw [IntKind.wrap_i64]; omega
  have q2 : (0 : Int) ≤ (p : Int) + 1 := by omega
  have q3 : (p : Int) + 1 ≤ (n : Int) + 1 := by omega
  have q4 : ¬ G = p + 1 := by omega
  have q5 : ¬ G = p := by omega
  have q6 : (p : Int) ≤ (n : Int) + 1 := by omega
  have q7 : p ≤ n := by omega
  have q8 : (cap : Int) < (n : Int) + 1 := by omega
  have q9 : ¬ cap = p := by omega
  have q10 : p ≤ cap := by omega
  clear hL ht hn hcs hL1 hL2 hget hcl l1 hW1L hv1 hg2 hW2L hv mn mn2 hW3 hW2 hW1 hN hL0 l0 hold hG hgN hvN hn0
  go_enter Tryz.func73, Tryz.ntmps73
  go_wp2_with (at_builtin; refine wpl_app _ rfl _ _ 41 3 rfl _ _ rfl rfl (AW.out _) ?_)
  go_region_law (refine step_call2 rfl (.tmp 50) (.tmp 53) 41 41 rfl _ _ (by simp [Act.eval, Act.put]) (by simp [Act.eval, Act.put]) (C1.out _ (G - (p + 1)) (cap - p)) ?_)
  go_wp2
  go_ret
  exact ⟨_, rfl, FIN.out.1, Or.inr FIN.out.2.1, FIN.out.2.2⟩
/-- A ring is put in, wherever. -/
theorem insert_any (M : List Rq) (r : Rq) (p n0 vb : Nat) (v : Value) (w : World) (ho : Ow w n0 v M) (hp : p ≤ M.length) (hl : M.length ≤ 1000000) (hn0 : n0 ≤ w.heap.size) (hv : Lies w vb (encQ r)) (hne : v.ownBlock ≠ some vb) :
    Calls Tryz.prog 73 #[v, .int .i64 p, .slice (some ⟨vb, 0, none⟩) 1 1] w (InsA M r p n0 v w) := by
  rcases (by omega : p = M.length ∨ p < M.length) with q | q
  · subst q
    exact insert_end M r n0 vb v w ho hl hn0 hv
  · rcases ho.open with ⟨_, h0⟩ | ⟨g, cap, L, rfl, hb, hL, hnc, hm, hll, ht⟩
    · rw [h0] at q; simp at q
    · by_cases hroom : M.length + 1 ≤ cap
      · exact insert_room M r p n0 vb g cap L w hb hL hm hll ht q hroom hv (fun e => hne (by rw [e]; rfl))
      · exact insert_grow M r p n0 vb g cap L w hn0 hL ht q hnc (by omega) hl hv
end Go.Proofs.YthdohcjingfpoaaGreatDoor.Qu
namespace Go.Proofs.YthdohcjingfpoaaGreatDoor.Qu
open Go.RowKit

/-- Rings that a slice reads as. -/
def Rd (w : World) (v : Value) (M : List Rq) : Prop := ∃ a cap, v = .slice a M.length cap ∧ (M = [] ∨ ∃ b off, a = some ⟨b, off, none⟩ ∧ ∀ i, i < M.length → ∀ c, c < 5 → w.cell? ⟨b, off + i * 5 + c, none⟩ = (encQ (M.getD i zq))[c]?)
theorem Ow.rd {w : World} {n0 : Nat} {v : Value} {M : List Rq} (h : Ow w n0 v M) : Rd w v M := by
  rcases h.open with ⟨rfl, rfl⟩ | ⟨g, cap, L, rfl, _, hL, hnc, _, hl, ht⟩
  · exact ⟨none, 0, rfl, Or.inl rfl⟩
  · refine ⟨_, cap, rfl, Or.inr ⟨g, 0, rfl, fun i hi c hc => ?_⟩⟩
    rw [← flatQ_at M i c hi hc, ← ht, List.getElem?_take, if_pos (by omega)]
    have h5 : i * 5 + c < L.length := by rw [hl]; omega
    rw [show 0 + i * 5 + c = i * 5 + c by omega, hL.cell (List.getElem?_eq_getElem h5), List.getElem?_eq_getElem h5]
theorem Rd.on {w w' : World} {v : Value} {M : List Rq} (h : Rd w v M) (q : Below w.heap.size w w') : Rd w' v M := by
  obtain ⟨a, cap, e, hc⟩ := h
  refine ⟨a, cap, e, ?_⟩
  rcases hc with hc | ⟨b, off, ea, hc⟩
  · exact Or.inl hc
  · refine Or.inr ⟨b, off, ea, fun i hi c h5 => ?_⟩
    have k0 := hc i hi c h5
    have hs : (encQ (M.getD i zq))[c]? = some (encQ (M.getD i zq))[c] := List.getElem?_eq_getElem (by rw [encQ_len]; exact h5)
    rw [hs] at k0 ⊢
    exact (q.cell (p := ⟨b, off + i * 5 + c, none⟩) (cell_in k0)).trans k0
/-- The five cells of a ring that lies somewhere. -/
def At5 (W : World) (b o : Nat) (x : Rq) : Prop := W.cell? ⟨b, o, none⟩ = some (.int .i64 x.1) ∧ W.cell? ⟨b, o + 1, none⟩ = some (.string x.2.1) ∧ W.cell? ⟨b, o + 2, none⟩ = some (.int .i64 x.2.2.1) ∧ W.cell? ⟨b, o + 3, none⟩ = some (.int .i64 x.2.2.2.1) ∧ W.cell? ⟨b, o + 4, none⟩ = some (.int .i64 x.2.2.2.2)
theorem Rd.at {w : World} {b off cap : Nat} {M : List Rq} (h : Rd w (.slice (some ⟨b, off, none⟩) M.length cap) M) {i : Nat} (hi : i < M.length) : At5 w b (off + i * 5) (M.getD i zq) := by
  obtain ⟨a, cap', e, hc⟩ := h
  injection e with e1 _ _
  rcases hc with hc | ⟨b', off', ea, hc⟩
  · rw [hc] at hi; simp at hi
  · rw [ea] at e1
    injection e1 with e1
    injection e1 with e1 e2
    subst e1; subst e2
    exact ⟨hc i hi 0 (by omega), hc i hi 1 (by omega), hc i hi 2 (by omega), hc i hi 3 (by omega), hc i hi 4 (by omega)⟩
theorem At5.lt {W : World} {b o : Nat} {x : Rq} (h : At5 W b o x) : b < W.heap.size := cell_in h.1
theorem At5.on {W W' : World} {b o : Nat} {x : Rq} (h : At5 W b o x) (q : Below W.heap.size W W') : At5 W' b o x :=
  ⟨(q.cell (p := ⟨b, o, none⟩) h.lt).trans h.1, (q.cell (p := ⟨b, o + 1, none⟩) h.lt).trans h.2.1, (q.cell (p := ⟨b, o + 2, none⟩) h.lt).trans h.2.2.1, (q.cell (p := ⟨b, o + 3, none⟩) h.lt).trans h.2.2.2.1, (q.cell (p := ⟨b, o + 4, none⟩) h.lt).trans h.2.2.2.2⟩
/-- Is it there? -/
def hasQ (M : List Rq) (r : Rq) : Bool := M.any (fun x => decide (oc x r = 0))
theorem hasQ_iff {M : List Rq} {r : Rq} : hasQ M r = true ↔ r ∈ M := by
  unfold hasQ
  rw [List.any_eq_true]
  constructor
  · rintro ⟨x, hx, h⟩
    rw [← (oc_cm.eq x r).1 (of_decide_eq_true h)]
    exact hx
  · intro h
    exact ⟨r, h, decide_eq_true (oc_self r)⟩
theorem hasQ_not {M : List Rq} {r : Rq} : hasQ M r = false ↔ r ∉ M := by
  rw [← hasQ_iff]; simp
/-- It is there, and its place. -/
def FndA (M : List Rq) (r : Rq) (w : World) (e : Ending) (w' : World) : Prop := ∃ p : Nat, Fnd M r p ∧ e = .returned (.tuple #[.int .i64 p, .bool (hasQ M r)]) ∧ Below w.heap.size w w'
set_option maxHeartbeats 4000000 in
set_option maxRecDepth 1000000 in
theorem bsearch_any (M : List Rq) (r : Rq) (v : Value) (w : World) (ho : Rd w v M) (hM : Rs M) (hl : M.length ≤ 1000000) :
    Calls Tryz.prog 115 #[v, agQ r, .func (.func 13) #[] #[]] w (FndA M r w) := by
  obtain ⟨a, cap, rfl, hc⟩ := ho
  obtain ⟨n, hn⟩ : ∃ n, n = M.length := ⟨_, rfl⟩
  have eg : ∀ args w, (callFunc 13 args).run Tryz.prog w = .ok (.enter 13 args) w := fun _ _ => enters_of Tryz.func13 (by kernel_rfl) rfl _ _
  have HC : Hid (M = [] ∨ ∃ b off, a = some ⟨b, off, none⟩ ∧ ∀ i, i < n → At5 w b (off + i * 5) (M.getD i zq)) := Lib.hid (by
    rcases hc with h | ⟨b, off, rfl, h⟩
    · exact Or.inl h
    · exact Or.inr ⟨b, off, rfl, fun i hi => Rd.at (cap := cap) ⟨_, cap, rfl, Or.inr ⟨b, off, rfl, h⟩⟩ (by omega)⟩)
  have TH : Hid (∀ p, Fnd M r p → (r ∈ M ↔ p < M.length ∧ oc (M.getD p zq) r = 0)) := Lib.hid (fun p h => h.there hM)
  have MO : Hid (∀ i j, i ≤ j → j < n → oc (M.getD j zq) r < 0 → oc (M.getD i zq) r < 0) := Lib.hid (fun i j hij hj h => by
    rcases (by omega : i = j ∨ i < j) with q | q
    · rw [q]; exact h
    · exact oc_cm.tr _ _ _ (rs_at hM q (by omega)) h)
  obtain ⟨B, hB⟩ : ∃ B, B = hasQ M r := ⟨_, rfl⟩
  have KB := Lib.hid hB
  have KN := Lib.hid hn
  have FI : Hid (∀ p : Nat, Fnd M r p → ∀ x, x = (p : Int) → ∀ W, Below w.heap.size w W → ∀ bb, bb = B → FndA M r w (.returned (.tuple #[.int .i64 x, .bool bb])) W) := Lib.hid (fun p h x hx W q bb hb => ⟨p, h, by rw [hx, hb, hB], q⟩)
  obtain ⟨W0, hW0⟩ : ∃ W0, W0 = w.alloc (.cells #[.int .i64 r.1, .string r.2.1, .int .i64 r.2.2.1, .int .i64 r.2.2.2.1, .int .i64 r.2.2.2.2] 45) := ⟨_, rfl⟩
  have b0 : Below w.heap.size w W0 := by rw [hW0]; exact (Below.refl _ _).alloc (Nat.le_refl _) _
  have x0 : QBx W0 w.heap.size r := by rw [hW0]; exact QBx.new w r _
  have HX : Hid (∀ X, Below W0.heap.size W0 X → QBx X w.heap.size r ∧ Below w.heap.size w X ∧ (M = [] ∨ ∃ b off, a = some ⟨b, off, none⟩ ∧ ∀ i, i < n → At5 X b (off + i * 5) (M.getD i zq))) := Lib.hid (fun X q => by
    have q2 : Below w.heap.size w X := b0.trans (q.mono (by rw [hW0]; simp))
    refine ⟨x0.on q, q2, ?_⟩
    rcases HC.out with h | ⟨b, off, ea, h⟩
    · exact Or.inl h
    · exact Or.inr ⟨b, off, ea, fun i hi => (h i hi).on q2⟩)
  have HW := Lib.hid hW0
  have ML : M.length ≤ 1000000 := hl
  rw [← hn] at ML hl ⊢
  generalize FndA M r w = PP at FI ⊢
  clear hc hM hB hn hl b0 x0 hW0 HC
  go_enter Tryz.func115, Tryz.ntmps115
  go_wp2_with fail
  rw [← HW.out]
  go_loopw [9, 10] (fun i j wr => ∃ lo hi : Nat, lo ≤ hi ∧ hi ≤ n ∧ i = .int .i64 lo ∧ j = .int .i64 hi ∧ Hid (∀ t, t < lo → oc (M.getD t zq) r < 0) ∧ Hid (∀ t, hi ≤ t → t < n → 0 ≤ oc (M.getD t zq) r) ∧ Hid (Below W0.heap.size W0 wr)) (fun i j _ => (intOf j).toNat - (intOf i).toNat)
  case atStart => exact ⟨0, n, by omega, by omega, rfl, rfl, Lib.hid (fun t h => by omega), Lib.hid (fun t h1 h2 => by omega), Lib.hid (Below.refl _ _)⟩
  case round =>
    obtain ⟨lo, hi, hlh, hin, rfl, rfl, I1, I2, BB⟩ := hrel
    by_cases hlt : lo < hi
    · obtain ⟨qx, qb, qm⟩ := HX.out _ BB.out
      obtain ⟨b, off, ea, qn⟩ : ∃ b off, a = some ⟨b, off, none⟩ ∧ ∀ i, i < n → At5 wr b (off + i * 5) (M.getD i zq) := by
        rcases qm with h | h
        · have := KN.out
          rw [h] at this
          simp at this
          omega
        · exact h
      subst ea
      obtain ⟨m, hm⟩ : ∃ m, m = (lo + hi) / 2 := ⟨_, rfl⟩
      have hm1 : lo ≤ m := by omega
      have hm2 : m < hi := by omega
      have hm3 : m < n := by omega
      have hm4 : (m : Int) < (n : Int) := by omega
      have c5 := qn m (by omega)
      have J1 : Hid (oc (M.getD m zq) r < 0 → ∀ t, t < m + 1 → oc (M.getD t zq) r < 0) := Lib.hid (fun h t ht => MO.out t m (by omega) (by omega) h)
      have J2 : Hid (¬ oc (M.getD m zq) r < 0 → ∀ t, m ≤ t → t < n → 0 ≤ oc (M.getD t zq) r) := Lib.hid (fun h t h1 h2 => by
        rcases (by omega : oc (M.getD t zq) r < 0 ∨ 0 ≤ oc (M.getD t zq) r) with q | q
        · exact absurd (MO.out m t h1 h2 q) h
        · exact q)
      have M0 : IntKind.i64.wrap ((lo : Int) + (hi : Int)) = (lo : Int) + (hi : Int) := by rw [IntKind.wrap_i64]; omega
      have M1 : ((lo : Int) + (hi : Int)) / 2 = (m : Int) := by omega
      have bl := c5.lt
      have bl2 := qx.lt
      have KO : Hid (∀ X, Calls Tryz.prog 13 #[agQ (M.getD m zq), agQ r] X fun e w' => e = .returned (.int .i64 (oc (M.getD m zq) r)) ∧ Below X.heap.size X w') := Lib.hid (fun X => order_any _ _ X)
      generalize M.getD m zq = y at c5 J1 J2 KO
      generalize oc y r = C at J1 J2 KO
      have HS : Hid (∀ X, Below wr.heap.size wr X → (fun X => (X.cell? ⟨b, off + m * 5, none⟩ = some (.int .i64 y.1) ∧ X.cell? ⟨b, off + m * 5 + 1, none⟩ = some (.string y.2.1) ∧ X.cell? ⟨b, off + m * 5 + 2, none⟩ = some (.int .i64 y.2.2.1) ∧ X.cell? ⟨b, off + m * 5 + 3, none⟩ = some (.int .i64 y.2.2.2.1) ∧ X.cell? ⟨b, off + m * 5 + 4, none⟩ = some (.int .i64 y.2.2.2.2)) ∧ X.cell? ⟨w.heap.size, 0, none⟩ = some (.int .i64 r.1) ∧ X.cell? ⟨w.heap.size, 1, none⟩ = some (.string r.2.1) ∧ X.cell? ⟨w.heap.size, 2, none⟩ = some (.int .i64 r.2.2.1) ∧ X.cell? ⟨w.heap.size, 3, none⟩ = some (.int .i64 r.2.2.2.1) ∧ X.cell? ⟨w.heap.size, 4, none⟩ = some (.int .i64 r.2.2.2.2)) X) := Lib.hid (fun X q => ⟨c5.on q, qx.on q⟩)
      obtain ⟨k1, k2, k3, k4, k5⟩ := c5
      obtain ⟨r1, r2, r3, r4, r5⟩ := qx
      clear qb qm qn
      have HM := Lib.hid hm
      clear hm
      go_upto_region 5 with fail
      go_region_held3 (fun X => (X.cell? ⟨b, off + m * 5, none⟩ = some (.int .i64 y.1) ∧ X.cell? ⟨b, off + m * 5 + 1, none⟩ = some (.string y.2.1) ∧ X.cell? ⟨b, off + m * 5 + 2, none⟩ = some (.int .i64 y.2.2.1) ∧ X.cell? ⟨b, off + m * 5 + 3, none⟩ = some (.int .i64 y.2.2.2.1) ∧ X.cell? ⟨b, off + m * 5 + 4, none⟩ = some (.int .i64 y.2.2.2.2)) ∧ X.cell? ⟨w.heap.size, 0, none⟩ = some (.int .i64 r.1) ∧ X.cell? ⟨w.heap.size, 1, none⟩ = some (.string r.2.1) ∧ X.cell? ⟨w.heap.size, 2, none⟩ = some (.int .i64 r.2.2.1) ∧ X.cell? ⟨w.heap.size, 3, none⟩ = some (.int .i64 r.2.2.2.1) ∧ X.cell? ⟨w.heap.size, 4, none⟩ = some (.int .i64 r.2.2.2.2))
        (first | exact HS.out _ (Below.drew (Below.refl _ wr)) | exact HS.out _ ((Below.drew (Below.refl _ wr)).trans hb5))
        (first | (go_at_call 13; refine (KO.out _).mono ?_; rintro e w2 ⟨rfl, hb5⟩))
      have B2 : Hid (Below W0.heap.size W0 w2) := Lib.hid (BB.out.trans (((Below.drew (Below.refl _ wr)).trans hb5).mono BB.out.size))
      clear k1 k2 k3 k4 k5 r1 r2 r3 r4 r5 hb5 HS KO bl bl2
      by_cases hC : C < 0
      · have P1 := Lib.hid (J1.out hC)
        go_wp2
        go_roundw
        case rel => exact ⟨m + 1, hi, by omega, hin, by go_num, rfl, P1, I2, B2⟩
        case measure => simp [intOf]; omega
      · have P1 := Lib.hid (J2.out (by omega))
        go_wp2
        go_roundw
        case rel => exact ⟨lo, m, hm1, by omega, rfl, rfl, I1, P1, B2⟩
        case measure => simp [intOf]; omega
    · obtain rfl : hi = lo := by omega
      obtain ⟨qx, qb, qm⟩ := HX.out _ BB.out
      have FN : Fnd M r hi := ⟨by rw [← KN.out]; exact hin, I1.out, fun t h1 h2 => I2.out t h1 (by rw [KN.out]; exact h2)⟩
      have T := Lib.hid (TH.out hi FN)
      have HF := Lib.hid FN
      clear FN
      by_cases hln : hi < n
      · obtain ⟨b, off, ea, qn⟩ : ∃ b off, a = some ⟨b, off, none⟩ ∧ ∀ i, i < n → At5 wr b (off + i * 5) (M.getD i zq) := by
          rcases qm with h | h
          · have := KN.out
            rw [h] at this
            simp at this
            omega
          · exact h
        subst ea
        have c5 := qn hi hln
        have bl := c5.lt
        have bl2 := qx.lt
        have KO : Hid (∀ X, Calls Tryz.prog 13 #[agQ (M.getD hi zq), agQ r] X fun e w' => e = .returned (.int .i64 (oc (M.getD hi zq) r)) ∧ Below X.heap.size X w') := Lib.hid (fun X => order_any _ _ X)
        generalize M.getD hi zq = y at c5 T KO
        generalize oc y r = C at T KO
        have TB : Hid ((C == 0) = B) := Lib.hid (by
          rw [KB.out, Bool.eq_iff_iff, hasQ_iff, T.out, ← KN.out]
          simp [hln])
        have HS : Hid (∀ X, Below wr.heap.size wr X → (fun X => (X.cell? ⟨b, off + hi * 5, none⟩ = some (.int .i64 y.1) ∧ X.cell? ⟨b, off + hi * 5 + 1, none⟩ = some (.string y.2.1) ∧ X.cell? ⟨b, off + hi * 5 + 2, none⟩ = some (.int .i64 y.2.2.1) ∧ X.cell? ⟨b, off + hi * 5 + 3, none⟩ = some (.int .i64 y.2.2.2.1) ∧ X.cell? ⟨b, off + hi * 5 + 4, none⟩ = some (.int .i64 y.2.2.2.2)) ∧ X.cell? ⟨w.heap.size, 0, none⟩ = some (.int .i64 r.1) ∧ X.cell? ⟨w.heap.size, 1, none⟩ = some (.string r.2.1) ∧ X.cell? ⟨w.heap.size, 2, none⟩ = some (.int .i64 r.2.2.1) ∧ X.cell? ⟨w.heap.size, 3, none⟩ = some (.int .i64 r.2.2.2.1) ∧ X.cell? ⟨w.heap.size, 4, none⟩ = some (.int .i64 r.2.2.2.2)) X) := Lib.hid (fun X q => ⟨c5.on q, qx.on q⟩)
        obtain ⟨k1, k2, k3, k4, k5⟩ := c5
        obtain ⟨r1, r2, r3, r4, r5⟩ := qx
        have hm4 : (hi : Int) < (n : Int) := by omega
        have hd : decide ((hi : Int) < (n : Int)) = true := decide_eq_true hm4
        clear qb qm qn
        go_upto_region 8 with fail
        go_region_held3 (fun X => (X.cell? ⟨b, off + hi * 5, none⟩ = some (.int .i64 y.1) ∧ X.cell? ⟨b, off + hi * 5 + 1, none⟩ = some (.string y.2.1) ∧ X.cell? ⟨b, off + hi * 5 + 2, none⟩ = some (.int .i64 y.2.2.1) ∧ X.cell? ⟨b, off + hi * 5 + 3, none⟩ = some (.int .i64 y.2.2.2.1) ∧ X.cell? ⟨b, off + hi * 5 + 4, none⟩ = some (.int .i64 y.2.2.2.2)) ∧ X.cell? ⟨w.heap.size, 0, none⟩ = some (.int .i64 r.1) ∧ X.cell? ⟨w.heap.size, 1, none⟩ = some (.string r.2.1) ∧ X.cell? ⟨w.heap.size, 2, none⟩ = some (.int .i64 r.2.2.1) ∧ X.cell? ⟨w.heap.size, 3, none⟩ = some (.int .i64 r.2.2.2.1) ∧ X.cell? ⟨w.heap.size, 4, none⟩ = some (.int .i64 r.2.2.2.2))
          (first | exact HS.out _ (Below.drew (Below.refl _ wr)) | exact HS.out _ ((Below.drew (Below.refl _ wr)).trans hb5))
          (first | (go_at_call 13; refine (KO.out _).mono ?_; rintro e w2 ⟨rfl, hb5⟩))
        have B2 : Hid (Below w.heap.size w w2) := Lib.hid ((HX.out _ (BB.out.trans (((Below.drew (Below.refl _ wr)).trans hb5).mono BB.out.size))).2.1)
        clear k1 k2 k3 k4 k5 r1 r2 r3 r4 r5 hb5 HS KO bl bl2
        go_wp2
        exact FI.out hi HF.out _ rfl _ B2.out _ TB.out
      · have TB : Hid (false = B) := Lib.hid (by
          rw [KB.out, eq_comm, hasQ_not, T.out, ← KN.out]
          simp [hln])
        have hd : decide ((hi : Int) < (n : Int)) = false := decide_eq_false (by omega)
        have B2 := Lib.hid qb
        clear qx qb qm
        go_upto_region 8 with fail
        go_quiet (fail)
        go_wp2
        exact FI.out hi HF.out _ rfl (wr.drewN nq) ⟨B2.out.os, B2.out.tape, B2.out.output, B2.out.size, B2.out.block⟩ _ TB.out
end Go.Proofs.YthdohcjingfpoaaGreatDoor.Qu
namespace Go.Proofs.YthdohcjingfpoaaGreatDoor.Qu
open Go.RowKit

theorem own_on {w w' : World} {n0 : Nat} {v : Value} {M : List Rq} (h : Ow w n0 v M) (q : ∀ k, v.ownBlock = some k → w'.heap[k]? = w.heap[k]?) : Ow w' n0 v M := by
  refine ⟨h.1, ?_⟩
  rcases h.2 with h2 | ⟨g, cap, cur, hv, hb, hg, hr⟩
  · exact Or.inl h2
  · exact Or.inr ⟨g, cap, cur, hv, hb, (q g (by rw [hv]; rfl)).trans hg, hr⟩
/-- What is left where a ring is dropped. -/
def drp (M : List Rq) (r : Rq) : List Rq := M.filter (fun x => !decide (oc x r = 0))
theorem drp_mem {M : List Rq} {r z : Rq} : z ∈ drp M r ↔ z ∈ M ∧ z ≠ r := by
  unfold drp
  rw [List.mem_filter]
  simp only [Bool.not_eq_true', decide_eq_false_iff_not, oc_cm.eq, ne_eq]
theorem drp_rs {M : List Rq} {r : Rq} (h : Rs M) : Rs (drp M r) := List.Pairwise.sublist List.filter_sublist h
theorem drp_del {M : List Rq} {r : Rq} {p : Nat} (h : Rs M) (hf : Fnd M r p) (hr : r ∈ M) : p < M.length ∧ del M p = drp M r := by
  have k := (hf.there h).1 hr
  have e := (oc_cm.eq _ _).1 k.2
  refine ⟨k.1, rs_ext (del_rs h) (drp_rs h) (fun z => ?_)⟩
  rw [del_mem h k.1, drp_mem, e]
theorem drp_none {M : List Rq} {r : Rq} (h : Rs M) (hr : r ∉ M) : drp M r = M :=
  rs_ext (drp_rs h) h (fun z => by
    rw [drp_mem]
    exact ⟨fun q => q.1, fun q => ⟨q, fun e => hr (by rw [← e]; exact q)⟩⟩)
/-- What there is where a ring is put in. -/
def put (M : List Rq) (r : Rq) : List Rq := M.filter (fun x => decide (oc x r < 0)) ++ r :: M.filter (fun x => decide (0 < oc x r))
theorem put_mem {M : List Rq} {r z : Rq} (hr : r ∉ M) : z ∈ put M r ↔ z ∈ M ∨ z = r := by
  unfold put
  simp only [List.mem_append, List.mem_cons, List.mem_filter, decide_eq_true_eq]
  constructor
  · rintro (h | h | h)
    · exact Or.inl h.1
    · exact Or.inr h
    · exact Or.inl h.1
  · rintro (h | h)
    · rcases (by omega : oc z r < 0 ∨ oc z r = 0 ∨ 0 < oc z r) with q | q | q
      · exact Or.inl ⟨h, q⟩
      · exact absurd (by rw [← (oc_cm.eq _ _).1 q]; exact h) hr
      · exact Or.inr (Or.inr ⟨h, q⟩)
    · exact Or.inr (Or.inl h)
theorem put_rs {M : List Rq} {r : Rq} (h : Rs M) : Rs (put M r) := by
  unfold put Rs
  rw [List.pairwise_append]
  refine ⟨List.Pairwise.sublist List.filter_sublist h, ?_, ?_⟩
  · rw [List.pairwise_cons]
    refine ⟨fun y hy => ?_, List.Pairwise.sublist List.filter_sublist h⟩
    have := (List.mem_filter.1 hy).2
    exact (oc_cm.anti r y).2 (of_decide_eq_true this)
  · intro x hx y hy
    have hx' := of_decide_eq_true (List.mem_filter.1 hx).2
    rcases List.mem_cons.1 hy with rfl | hy
    · exact hx'
    · have hy' := of_decide_eq_true (List.mem_filter.1 hy).2
      exact oc_cm.tr _ _ _ hx' ((oc_cm.anti r y).2 hy')
theorem put_ins {M : List Rq} {r : Rq} {p : Nat} (h : Rs M) (hf : Fnd M r p) (hr : r ∉ M) : ins M p r = put M r :=
  rs_ext (ins_rs hf h hr) (put_rs h) (fun z => by rw [ins_mem, put_mem hr])
theorem put_len {M : List Rq} {r : Rq} {p : Nat} (h : Rs M) (hf : Fnd M r p) (hr : r ∉ M) : (put M r).length = M.length + 1 := by rw [← put_ins h hf hr, ins_len hf.le]
/-- What Drop tells. -/
def df (M : List Rq) (r : Rq) : Int := if hasQ M r = true then 0 else 5
theorem Lies.on {w w' : World} {k : Nat} {L : List Value} (h : Lies w k L) (q : Below w.heap.size w w') : Lies w' k L := (q.block k h.lt).trans h
theorem Lies.box {w : World} {k : Nat} {x : Rq} (h : Lies w k (encQ x)) : QBx w k x := ⟨h.cell rfl, h.cell rfl, h.cell rfl, h.cell rfl, h.cell rfl⟩
theorem below_alloc (w : World) (o : Obj) : Below w.heap.size w (w.alloc o) := (Below.refl _ _).alloc (Nat.le_refl _) _
/-- A ring is laid into a block that may be written. -/
theorem ring_store {ops : Array Oper} {rest : List Oper} {op : Oper} {a : Act} {W : World} {Q : Exit → Act → World → Prop} (hgd : op.guard = none) (x y : Operand) (ho : op.op = .store 45 x y) (b : Nat) (r : Rq) (hx : a.eval x = .pointer (some ⟨b, 0, none⟩)) (hy : a.eval y = agQ r) (L : List Value) (hL : L.length = 5) (ht : Lies W b L)
    (h : ∀ W', Hid (W' = W.setRow b (encQ r).toArray) → QBx W' b r → wpList Tryz.prog ops Q rest (a.put op.dst undef) W') : wpList Tryz.prog ops Q (op :: rest) a W := by
  refine wpList_store_row hgd 45 x y ho b (encQ r).toArray hx hy 45 L.toArray ht (by kernel_rfl) (by simpa [encQ_len] using hL) (all_oneCell_toArray (encQ_one r)) ?_
  have q := ht.set (encQ r)
  exact h _ (Lib.hid rfl) ⟨q.cell rfl, q.cell rfl, q.cell rfl, q.cell rfl, q.cell rfl⟩
end Go.Proofs.YthdohcjingfpoaaGreatDoor.Qu
namespace Go.Proofs.YthdohcjingfpoaaGreatDoor.Qu
open Go.RowKit

/-- Are two rings the same? -/
def eqQ (x y : Rq) : Bool := decide (oc x y = 0)
theorem eqQ_iff {x y : Rq} : eqQ x y = true ↔ x = y := by unfold eqQ; rw [decide_eq_true_iff]; exact oc_cm.eq x y
theorem ring_eql_run (x y : Rq) (w : World) : (binOp .eql 45 (agQ x) (agQ y)).run Tryz.prog w = .ok (.bool (eqQ x y)) w := by
  have u3 := Tryz.underlying3
  have a3 := Tryz.isAgg3
  have z3 := Tryz.sizeOf3
  have u9 := Tryz.underlying9
  have a9 := Tryz.isAgg9
  have z9 := Tryz.sizeOf9
  have hS : Tryz.prog.underlying 45 = some (.struct (Tryz.prog.fieldsOf 45)) := by kernel_rfl
  have hp : Tryz.prog.stoodInHeld 45 = false := by kernel_rfl
  rw [run_eql_struct, show (10000 : Nat) = 9999 + 1 from rfl, run_equalIn_struct w 9999 45 _ _ hS hp]
  simp only [Program.fieldsOf, Tryz.underlying45]
  obtain ⟨x1, x2, x3, x4, x5⟩ := x
  obtain ⟨y1, y2, y3, y4, y5⟩ := y
  have e : eqQ (x1, x2, x3, x4, x5) (y1, y2, y3, y4, y5) = (x1 == y1 && (x2.toList == y2.toList && (x3 == y3 && (x4 == y4 && x5 == y5)))) := by
    rw [Bool.eq_iff_iff, eqQ_iff]
    simp only [Prod.mk.injEq, Bool.and_eq_true, beq_iff_eq]
    exact ⟨fun ⟨h1, h2, h3, h4, h5⟩ => ⟨h1, by rw [h2], h3, h4, h5⟩, fun ⟨h1, h2, h3, h4, h5⟩ => ⟨h1, toList_inj h2, h3, h4, h5⟩⟩
  rw [e]
  go_simp
  by_cases h1 : x1 = y1 <;> by_cases h2 : x2.toList = y2.toList <;> by_cases h3 : x3 = y3 <;> by_cases h4 : x4 = y4 <;> by_cases h5 : x5 = y5 <;> simp [h1, h2, h3, h4, h5]
theorem ring_neq_run (x y : Rq) (w : World) : (binOp .neq 45 (agQ x) (agQ y)).run Tryz.prog w = .ok (.bool (!eqQ x y)) w := by
  have u3 := Tryz.underlying3
  have a3 := Tryz.isAgg3
  have z3 := Tryz.sizeOf3
  have u9 := Tryz.underlying9
  have a9 := Tryz.isAgg9
  have z9 := Tryz.sizeOf9
  have hS : Tryz.prog.underlying 45 = some (.struct (Tryz.prog.fieldsOf 45)) := by kernel_rfl
  have hp : Tryz.prog.stoodInHeld 45 = false := by kernel_rfl
  rw [run_neq_struct, show (10000 : Nat) = 9999 + 1 from rfl, run_equalIn_struct w 9999 45 _ _ hS hp]
  simp only [Program.fieldsOf, Tryz.underlying45]
  obtain ⟨x1, x2, x3, x4, x5⟩ := x
  obtain ⟨y1, y2, y3, y4, y5⟩ := y
  have e : eqQ (x1, x2, x3, x4, x5) (y1, y2, y3, y4, y5) = (x1 == y1 && (x2.toList == y2.toList && (x3 == y3 && (x4 == y4 && x5 == y5)))) := by
    rw [Bool.eq_iff_iff, eqQ_iff]
    simp only [Prod.mk.injEq, Bool.and_eq_true, beq_iff_eq]
    exact ⟨fun ⟨h1, h2, h3, h4, h5⟩ => ⟨h1, by rw [h2], h3, h4, h5⟩, fun ⟨h1, h2, h3, h4, h5⟩ => ⟨h1, toList_inj h2, h3, h4, h5⟩⟩
  rw [e]
  go_simp
  by_cases h1 : x1 = y1 <;> by_cases h2 : x2.toList = y2.toList <;> by_cases h3 : x3 = y3 <;> by_cases h4 : x4 = y4 <;> by_cases h5 : x5 = y5 <;> simp [h1, h2, h3, h4, h5]
set_option maxRecDepth 100000 in
set_option maxHeartbeats 2000000 in
theorem has_any (M : List Rq) (r : Rq) (v : Value) (w : World) (h : Rd w v M) (hl : M.length ≤ 9223372036854775807) :
    Calls Tryz.prog 16 #[v, agQ r] w fun e w' => e = .returned (.bool (hasQ M r)) ∧ Below w.heap.size w w' := by
  obtain ⟨a, cap, rfl, hc⟩ := h
  obtain ⟨W0, hW0⟩ : ∃ W0, W0 = w.alloc (.cells #[.int .i64 r.1, .string r.2.1, .int .i64 r.2.2.1, .int .i64 r.2.2.2.1, .int .i64 r.2.2.2.2] 45) := ⟨_, rfl⟩
  have b0 : Below w.heap.size w W0 := by rw [hW0]; exact (Below.refl _ _).alloc (Nat.le_refl _) _
  have x0 : QBx W0 w.heap.size r := by rw [hW0]; exact QBx.new w r _
  have HX : Hid (∀ X, Below W0.heap.size W0 X → QBx X w.heap.size r ∧ Below w.heap.size w X ∧ (M = [] ∨ ∃ b off, a = some ⟨b, off, none⟩ ∧ ∀ i, i < M.length → At5 X b (off + i * 5) (M.getD i zq))) := Lib.hid (fun X q => by
    have q2 : Below w.heap.size w X := b0.trans (q.mono b0.size)
    refine ⟨x0.on q, q2, ?_⟩
    rcases hc with h | ⟨b, off, ea, h⟩
    · exact Or.inl h
    · subst ea
      exact Or.inr ⟨b, off, rfl, fun i hi => (Rd.at (cap := cap) ⟨_, cap, rfl, Or.inr ⟨b, off, rfl, h⟩⟩ hi).on q2⟩)
  have HW := Lib.hid hW0
  have YES : Hid (∀ k, k < M.length → eqQ (M.getD k zq) r = true → hasQ M r = true) := Lib.hid (fun k hk h => hasQ_iff.2 (by rw [← eqQ_iff.1 h]; exact getD_mem hk))
  have NO : Hid ((∀ t, t < M.length → eqQ (M.getD t zq) r = false) → hasQ M r = false) := Lib.hid (fun h => hasQ_not.2 (fun q => by
    obtain ⟨t, ht, e⟩ := mem_getD q
    have := h t ht
    rw [e] at this
    have k : eqQ r r = true := eqQ_iff.2 rfl
    rw [k] at this
    cases this))
  generalize hasQ M r = B at YES NO ⊢
  clear hc b0 x0 hW0
  go_enter Tryz.func16, Tryz.ntmps16
  go_upto_region 1 with fail
  rw [← HW.out]
  go_wp2_with fail
  go_loopw [5] (fun i wr => ∃ k : Nat, k ≤ M.length ∧ i = .int .i64 k ∧ Hid (∀ t, t < k → eqQ (M.getD t zq) r = false) ∧ Hid (Below W0.heap.size W0 wr)) (fun i _ => M.length - (intOf i).toNat)
  case atStart => exact ⟨0, Nat.zero_le _, rfl, Lib.hid (fun t q => by omega), Lib.hid (Below.refl _ _)⟩
  case round =>
    obtain ⟨k, hk, rfl, I1, BB⟩ := hrel
    obtain ⟨qx, qb, qm⟩ := HX.out _ BB.out
    have QB := Lib.hid qb
    clear qb
    by_cases hlt : k < M.length
    · obtain ⟨b, off, ea, qn⟩ : ∃ b off, a = some ⟨b, off, none⟩ ∧ ∀ i, i < M.length → At5 wr b (off + i * 5) (M.getD i zq) := by
        rcases qm with h | h
        · rw [h] at hlt; simp at hlt
        · exact h
      subst ea
      have c5 := qn k hlt
      have Y1 := Lib.hid (YES.out k hlt)
      have I2 : Hid (eqQ (M.getD k zq) r = false → ∀ t, t < k + 1 → eqQ (M.getD t zq) r = false) := Lib.hid (fun h t ht => by
        rcases (by omega : t < k ∨ t = k) with q | q
        · exact I1.out t q
        · rw [q]; exact h)
      have bl := c5.lt
      have bl2 := qx.lt
      have HE : ∀ W : World, (binOp .eql 45 (agQ (M.getD k zq)) (agQ r)).run Tryz.prog W = .ok (.bool (eqQ (M.getD k zq) r)) W := fun W => ring_eql_run _ _ W
      generalize M.getD k zq = y at c5 Y1 I2 HE
      generalize eqQ y r = C at Y1 I2 HE
      obtain ⟨k1, k2, k3, k4, k5⟩ := c5
      obtain ⟨r1, r2, r3, r4, r5⟩ := qx
      clear qm qn
      generalize hn : M.length = n at *
      go_upto_region 4 with fail
      go_quiet (fail)
      have B2 : Hid (Below W0.heap.size W0 (wr.drewN nq)) := Lib.hid ⟨BB.out.os, BB.out.tape, BB.out.output, BB.out.size, BB.out.block⟩
      have B3 : Hid (Below w.heap.size w (wr.drewN nq)) := Lib.hid ⟨QB.out.os, QB.out.tape, QB.out.output, QB.out.size, QB.out.block⟩
      clear k1 k2 k3 k4 k5 r1 r2 r3 r4 r5 bl bl2 HE
      rcases C with _ | _
      · have P1 := Lib.hid (I2.out rfl)
        go_wp2
        go_roundw
        case rel => exact ⟨k + 1, by omega, by go_num, P1, B2⟩
        case measure => simp [intOf]; omega
      · have E := Lib.hid (Y1.out rfl)
        go_wp2
        go_ret
        exact ⟨ret_bool E.out.symm, B3.out⟩
    · have E := Lib.hid (NO.out (fun t ht => I1.out t (by omega)))
      clear qx qm
      go_wp2
      go_ret
      exact ⟨ret_bool E.out.symm, QB.out⟩
end Go.Proofs.YthdohcjingfpoaaGreatDoor.Qu
