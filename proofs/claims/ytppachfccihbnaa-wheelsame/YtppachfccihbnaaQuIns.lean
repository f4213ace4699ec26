/-
  What is proved here: what slices.Insert answers at a row of rings that a call owns and one ring that lies elsewhere (a contract over the translation).
-/
import Derived.Test.YtppachfccihbnaaQuDel
import Derived.Lib.Overlaps
import Derived.Laws.Externs
import Derived.Laws.NewBlocks
namespace Go.Proofs.Ytppachfccihbnaa.Qu
open Go.RowKit

theorem cut_flat {M : List Rq} {L : List Value} {n p : Nat} (ht : L.take (n * 5) = M.flatMap encQ) (hp : p ≤ n) : L.take (p * 5) = (M.take p).flatMap encQ := by
  rw [← flatQ_take, ← ht, List.take_take, Nat.min_eq_left (by omega)]
/-- What is put in, at a place and in any way. -/
def InsA (M : List Rq) (r : Rq) (p n0 : Nat) (v : Value) (w : World) (e : Ending) (w' : World) : Prop :=
  ∃ v', e = .returned v' ∧ Ow w' n0 v' (ins M p r) ∧ (v'.ownBlock = v.ownBlock ∨ v'.ownBlock = some w.heap.size) ∧ w.grownBy w' v.ownBlock
set_option maxHeartbeats 4000000 in
set_option maxRecDepth 1000000 in
/-- At the end. -/
theorem insert_end (M : List Rq) (r : Rq) (n0 vb : Nat) (v : Value) (w : World) (ho : Ow w n0 v M) (hl : M.length ≤ 1000000) (hn0 : n0 ≤ w.heap.size) (hv : Lies w vb (encQ r)) :
    Calls Try.prog 21 #[v, .int .i64 M.length, .slice (some ⟨vb, 0, none⟩) 1 1] w (InsA M r M.length n0 v w) := by
  obtain ⟨i0, hi, hz0, hz1, hz2⟩ := info_ring
  obtain ⟨v', w', hr, r1, r2, _, r4⟩ := run_append_own_at (P := Try.prog) w n0 22 0 31 i0 _ 5 48 Try.underlying22 hi hz0 hz1 hz2 rfl (by omega) v M.length (M.flatMap encQ) ho ⟨vb, 0, none⟩ 1 1 (encQ r) rfl (fun j u hu => by rw [Addr.add_mid, Nat.zero_add]; exact hv.cell hu) (encQ_one r) (by unfold maxLen; omega) (by omega) hn0
  have AW : Hid (∀ ty, (Builtin.append_ #[22, 22] ty #[v, .slice (some ⟨vb, 0, none⟩) 1 1]).run Try.prog w = .ok v' w') := Lib.hid (fun _ => hr)
  have FIN : Hid (Ow w' n0 v' (ins M M.length r) ∧ (v'.ownBlock = v.ownBlock ∨ v'.ownBlock = some w.heap.size) ∧ w.grownBy w' v.ownBlock) := Lib.hid (by
    refine ⟨?_, r4, r2⟩
    have e : ins M M.length r = M ++ [r] := by simp [ins]
    rw [e]
    unfold Ow
    rw [List.length_append, List.flatMap_append]
    simpa using r1)
  have hvf : ∃ a cap, v = .slice a M.length cap ∧ M.length ≤ cap ∧ (a = none → M.length = 0) := by
    rcases ho.open with ⟨rfl, h0⟩ | ⟨g, cap, L, rfl, _, _, hnc, _⟩
    · exact ⟨none, 0, by rw [h0]; rfl, by rw [h0]; simp, fun _ => by rw [h0]; rfl⟩
    · exact ⟨_, cap, rfl, hnc, fun h => by cases h⟩
  obtain ⟨a, cap, rfl, hc, ha⟩ := hvf
  have HA := Lib.hid ha
  clear ho hr r1 r2 r4 hv ha
  generalize M.length = n at *
  by_cases hcn : cap = n
  · subst hcn
    go_enter Try.func21, Try.ntmps21
    go_wp2_with (at_builtin; refine wpl_app _ rfl _ _ 22 22 rfl _ _ rfl rfl (AW.out _) ?_)
    go_ret
    exact ⟨_, rfl, FIN.out⟩
  · go_enter Try.func21, Try.ntmps21
    go_wp2_with (at_builtin; refine wpl_app _ rfl _ _ 22 22 rfl _ _ rfl rfl (AW.out _) ?_)
    go_ret
    exact ⟨_, rfl, FIN.out⟩
set_option maxHeartbeats 4000000 in
set_option maxRecDepth 1000000 in
/-- Between, where there is room. -/
theorem insert_room (M : List Rq) (r : Rq) (p n0 vb g cap : Nat) (L : List Value) (w : World) (hb : n0 ≤ g) (hL : Lies w g L) (hm : cap ≤ 9223372036854775807) (hl : L.length = cap * 5) (ht : L.take (M.length * 5) = M.flatMap encQ)
    (hp : p < M.length) (hroom : M.length + 1 ≤ cap) (hv : Lies w vb (encQ r)) (hne : vb ≠ g) :
    Calls Try.prog 21 #[.slice (some ⟨g, 0, none⟩) M.length cap, .int .i64 p, .slice (some ⟨vb, 0, none⟩) 1 1] w (InsA M r p n0 (.slice (some ⟨g, 0, none⟩) M.length cap) w) := by
  obtain ⟨n, hn⟩ : ∃ n, n = M.length := ⟨_, rfl⟩
  have hov : ∀ lb cb, (callFunc 33 #[.slice (some ⟨vb, 0, none⟩) 1 1, .slice (some ⟨g, (p + 1) * 5, none⟩) lb cb]).run Try.prog w = .ok (.value (.bool false)) w := fun lb cb => by
    rw [run_callFunc_extern Try.func33 (by kernel_rfl) (by kernel_rfl) (by kernel_rfl) (e := Extern.SlicesOverlaps.overlaps #[22, 22] #[4]) (by kernel_rfl),
      Lib.run_overlaps_apart w 22 4 31 Try.underlying22 5 size_ring ⟨vb, 0, none⟩ ⟨g, (p + 1) * 5, none⟩ 1 1 lb cb hne 31 31 5 (cap * 5) (by unfold Lies at hv; simp [World.shape?, hv, encQ]) (by unfold Lies at hL; simp [World.shape?, hL, hl]) (by omega) (hv.frozen 0) (hv.frozen 5)]
    rfl
  rw [← hn] at ht hp hroom ⊢
  obtain ⟨cs, hcs⟩ : ∃ cs, cs = (M.drop p).flatMap encQ := ⟨_, rfl⟩
  have hcl : cs.length = (n - p) * 5 := by rw [hcs, flatQ_len, List.length_drop, hn]
  have hget : ∀ t u, cs[t]? = some u → L[p * 5 + t]? = some u := fun t u hu => by
    have ht' : t < cs.length := (List.getElem?_eq_some_iff.1 hu).1
    have e : L[p * 5 + t]? = (L.take (n * 5))[p * 5 + t]? := by
      rw [List.getElem?_take, if_pos (by omega)]
    rw [e, ht, ← List.getElem?_drop, flatQ_drop, ← hcs]
    exact hu
  obtain ⟨L1, hL1⟩ : ∃ L1, L1 = spl L ((p + 1) * 5) cs := ⟨_, rfl⟩
  obtain ⟨L2, hL2⟩ : ∃ L2, L2 = spl L1 (p * 5) (encQ r) := ⟨_, rfl⟩
  obtain ⟨W1, hW1⟩ : ∃ W1, W1 = w.drew.setRow g L1.toArray := ⟨_, rfl⟩
  have l1 : L1.length = cap * 5 := by rw [hL1, spl_len (by omega)]; exact hl
  have hW1L : Lies W1 g L1 := by rw [hW1]; exact Lies.set (w := w.drew) hL L1
  have mn : Nat.min (n + 1 - p) (n - p) = n - p := by simp only [Nat.min_def]; split <;> omega
  have C1 : Hid (∀ ty dc sc, (Builtin.copy_ #[22, 22] ty #[.slice (some ⟨g, (p + 1) * 5, none⟩) (n - p) dc, .slice (some ⟨g, p * 5, none⟩) (n + 1 - p) sc]).run Try.prog w.drew = .ok (goInt ((n - p : Nat) : Int)) W1) := Lib.hid (fun ty dc sc => by
    have q := copy_run (w := w.drew) hL ty ((p + 1) * 5) (n - p) dc ⟨g, p * 5, none⟩ (n + 1 - p) sc cs (by rw [mn]; exact hcl) (fun j u hj => by rw [Addr.add_mid]; exact Lies.cell (w := w.drew) hL (hget j u hj)) (by omega) (by rw [hcs]; exact flatQ_one _)
    rw [mn, ← hL1, ← hW1] at q
    exact q)
  have mn2 : Nat.min 1 (n + 1 - p) = 1 := by simp only [Nat.min_def]; split <;> omega
  have hvW : Lies W1 vb (encQ r) := by
    rw [hW1]
    unfold Lies
    rw [setRow_other w.drew g vb _ hne]
    exact hv
  have C2 : Hid (∀ ty dc, (Builtin.copy_ #[22, 22] ty #[.slice (some ⟨g, p * 5, none⟩) (n + 1 - p) dc, .slice (some ⟨vb, 0, none⟩) 1 1]).run Try.prog W1 = .ok (goInt 1) (W1.setRow g L2.toArray)) := Lib.hid (fun ty dc => by
    have q := copy_run hW1L ty (p * 5) (n + 1 - p) dc ⟨vb, 0, none⟩ 1 1 (encQ r) (by rw [mn2]; rfl) (fun j u hj => by rw [Addr.add_mid, Nat.zero_add]; exact hvW.cell hj) (by rw [encQ_len]; omega) (encQ_one r)
    rw [mn2, ← hL2] at q
    exact q)
  have FIN : Hid (Ow (W1.setRow g L2.toArray) n0 (.slice (some ⟨g, 0, none⟩) (n + 1) cap) (ins M p r) ∧ w.grownBy (W1.setRow g L2.toArray) (some g)) := Lib.hid (by
    have dl : (ins M p r).length = n + 1 := by rw [ins_len (by omega)]; omega
    refine ⟨?_, grown_tr (grown_of_drew (by rw [hW1]; exact grown_setRow _ _ _)) (grown_setRow _ _ _)⟩
    have q := Ow.make (M := ins M p r) (cap := cap) hb (hW1L.set L2) (by omega) hm (by rw [hL2, spl_len (by rw [l1, encQ_len]; omega)]; exact l1) (by
      rw [dl, hL2]
      unfold spl
      rw [encQ_len, List.append_assoc, List.take_append, List.take_append, List.length_take, l1, Nat.min_eq_left (by omega), encQ_len, List.take_take, Nat.min_eq_right (by omega), List.take_of_length_le (l := encQ r) (by rw [encQ_len]; omega)]
      have e1 : L1.take (p * 5) = (M.take p).flatMap encQ := by
        rw [hL1, spl_low (by omega) (by omega)]
        exact cut_flat ht (by omega)
      have e2 : (L1.drop (p * 5 + 5)).take ((n + 1) * 5 - p * 5 - 5) = cs := by
        have e3 : p * 5 + 5 = (p + 1) * 5 := by omega
        rw [hL1, e3]
        unfold spl
        rw [List.append_assoc, List.drop_append, List.length_take, hl, Nat.min_eq_left (by omega), List.drop_eq_nil_of_le (by rw [List.length_take]; omega), Nat.sub_self, List.drop_zero, List.nil_append, List.take_append_of_le_length (by omega), List.take_of_length_le (by omega)]
      rw [e1, e2, hcs]
      simp [ins])
    rw [dl] at q
    exact q)
  have q0 : ¬ ((p : Int) = (n : Int)) := by omega
  have q1 : IntKind.i64.wrap ((p : Int) + 1) = (p : Int) + 1 := by rw [IntKind.wrap_i64]; omega
  have q2 : (0 : Int) ≤ (p : Int) + 1 := by omega
  have q3 : (p : Int) + 1 ≤ (n : Int) + 1 := by omega
  have q4 : ¬ cap = p + 1 := by omega
  have q5 : ¬ cap = p := by omega
  have q6 : (p : Int) ≤ (n : Int) + 1 := by omega
  have q7 : p ≤ n := by omega
  clear hL ht hn hcs hL1 hL2 hget hcl l1 hl hW1 hW1L hvW hv mn mn2
  go_enter Try.func21, Try.ntmps21
  go_wp2_with (simp only [hov])
  go_region_law (refine step_call2 rfl (.tmp 73) (.tmp 76) 22 22 rfl _ _ (by simp [Act.eval, Act.put]) (by simp [Act.eval, Act.put]) (C1.out _ (cap - (p + 1)) (cap - p)) ?_)
  have C3 := C2.out
  go_wp2
  go_ret
  exact ⟨_, rfl, FIN.out.1, Or.inl rfl, FIN.out.2⟩
end Go.Proofs.Ytppachfccihbnaa.Qu
