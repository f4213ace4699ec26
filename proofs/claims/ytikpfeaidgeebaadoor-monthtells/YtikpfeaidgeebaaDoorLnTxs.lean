/-
  What is proved here: small words on lists of texts that lie in memory behind a slice; what chimesame's Texts answers of two lists that are the same (a contract over the translation).
-/
import Derived.Test.YtikpfeaidgeebaaDoorTxtOwn
import Derived.BigQuiet
namespace Go.Proofs.YtikpfeaidgeebaaDoor
open Go.RowKit Cal

/-- A slice reads as a list of texts. -/
def Txs (w : World) (v : Value) (l : List ByteArray) : Prop :=
  ∃ a cap, v = .slice a l.length cap ∧ (l = [] ∨ ∃ b off, a = some ⟨b, off, none⟩ ∧ ∀ i, i < l.length → w.cell? ⟨b, off + i, none⟩ = some (.string (l.getD i ByteArray.empty)))
theorem Txs.on {w w' : World} {v : Value} {l : List ByteArray} (h : Txs w v l) (q : Below w.heap.size w w') : Txs w' v l := by
  obtain ⟨a, cap, e, hc⟩ := h
  refine ⟨a, cap, e, ?_⟩
  rcases hc with hc | ⟨b, off, ea, hc⟩
  · exact Or.inl hc
  · refine Or.inr ⟨b, off, ea, fun i hi => ?_⟩
    have k := hc i hi
    have hb : b < w.heap.size := by
      rcases Nat.lt_or_ge b w.heap.size with g | g
      · exact g
      · simp [World.cell?, Array.getElem?_eq_none g] at k
    exact (q.cell (p := ⟨b, off + i, none⟩) hb).trans k
/-- A list that was gathered reads as such. -/
theorem own_txs {W : World} {base : Nat} {e : TypeId} {v : Value} {n : Nat} {xs : List ByteArray} (h : W.ownsRow base e 1 v n (strs xs)) : Txs W v xs := by
  have hl : xs.length = n := by have := h.1; simpa [strs] using this
  rcases Nat.eq_zero_or_pos n with h0 | h0
  · have hx : xs = [] := List.eq_nil_of_length_eq_zero (by omega)
    rcases h.2 with ⟨hv, _⟩ | ⟨g, cap, cur, hv, _⟩
    · exact ⟨none, 0, by rw [hv, hx]; rfl, Or.inl hx⟩
    · exact ⟨_, cap, by rw [hv, hl], Or.inl hx⟩
  · obtain ⟨g, cap, hv, hg, hc, hcells⟩ := own_texts h h0
    refine ⟨some ⟨g, 0, none⟩, cap, by rw [hv, hl], Or.inr ⟨g, 0, rfl, fun i hi => ?_⟩⟩
    refine hcells i _ ?_
    rw [List.getD_eq_getElem?_getD, List.getElem?_eq_getElem hi]; rfl
theorem tx_drewN {B : Nat} {w wr : World} (h : Below B w wr) (q : Nat) : Below B w (wr.drewN q) := ⟨h.1, h.2, h.3, h.4, h.5⟩
set_option maxRecDepth 100000 in
set_option maxHeartbeats 2000000 in
theorem sameTexts (l : List ByteArray) (va vb : Value) (w : World) (ha : Txs w va l) (hb : Txs w vb l) (hl : l.length ≤ 140737488355328) :
    Calls Tryd.prog 10 #[va, vb] w fun e w' => e = .returned (.bool true) ∧ Below w.heap.size w w' := by
  have HA := Lib.hid ha
  have HBb := Lib.hid hb
  obtain ⟨aa, ca, rfl, xa⟩ := ha
  obtain ⟨ab, cb, rfl, xb⟩ := hb
  clear xa xb
  go_enter Tryd.func10, Tryd.ntmps10
  go_wp2
  go_loopw [5] (fun i wr => ∃ k : Nat, k ≤ l.length ∧ i = .int .i64 k ∧ Below w.heap.size w wr) (fun i _ => l.length - (intOf i).toNat)
  case atStart => exact ⟨0, Nat.zero_le _, rfl, Below.refl _ _⟩
  case round =>
    obtain ⟨k, hk, rfl, hB⟩ := hrel
    by_cases hlt : k < l.length
    · obtain ⟨a', c', e', hc⟩ := HA.out.on hB
      obtain ⟨rfl, rfl⟩ : aa = a' ∧ ca = c' := by simpa using e'
      obtain ⟨a2, c2, e2, hd⟩ := HBb.out.on hB
      obtain ⟨rfl, rfl⟩ : ab = a2 ∧ cb = c2 := by simpa using e2
      rcases hc with hc | ⟨b, off, rfl, hc⟩
      · rw [hc] at hlt; simp at hlt
      rcases hd with hd | ⟨b2, off2, rfl, hd⟩
      · rw [hd] at hlt; simp at hlt
      have q1 := hc k hlt
      have q2 := hd k hlt
      obtain ⟨x, hx⟩ : ∃ x, x = l.getD k ByteArray.empty := ⟨_, rfl⟩
      rw [← hx] at q1 q2
      clear hx hc hd e' e2
      go_wp2_with fail
      go_quiet (fail)
      go_wp2
      go_roundw
      case rel => exact ⟨k + 1, by omega, by go_num, tx_drewN hB _⟩
      case measure => simp [intOf]; omega
    · go_wp2
      go_ret
      exact ⟨rfl, hB⟩
end Go.Proofs.YtikpfeaidgeebaaDoor
